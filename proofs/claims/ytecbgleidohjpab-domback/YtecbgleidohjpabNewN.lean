/- dom.New. -/
import Derived.Test.YtecbgleidohjpabChdN
import Derived.Test.YtecbgleidohjpabNamN
namespace Go.Proofs.Ytecbgleidohjpab.N
open Go.RowKit
set_option maxRecDepth 100000

theorem chs_one {W : World} {b : Nat} {id : Int} {fn : Nat} {caps : Array Value} (h : W.heap[b]? = some (.cells #[.int .i64 id, .func (Fn.func fn) #[] caps] 53 (0, 0))) : ChsAt W (.slice (some ⟨b, 0, none⟩) 1 1) [⟨id, fn, caps⟩] := by
  refine ⟨b, rfl, (Array.getElem?_eq_some_iff.1 h).1, fun i hi => ?_⟩
  have hi' : i < 1 := hi
  obtain rfl : i = 0 := by omega
  constructor <;> simp [World.cell?, h]
theorem chs_two {W : World} {b : Nat} {id id2 : Int} {fn fn2 : Nat} {caps caps2 : Array Value} (h : W.heap[b]? = some (.cells #[.int .i64 id, .func (Fn.func fn) #[] caps, .int .i64 id2, .func (Fn.func fn2) #[] caps2] 53 (0, 0))) : ChsAt W (.slice (some ⟨b, 0, none⟩) 2 2) [⟨id, fn, caps⟩, ⟨id2, fn2, caps2⟩] := by
  refine ⟨b, rfl, (Array.getElem?_eq_some_iff.1 h).1, fun i hi => ?_⟩
  have hi' : i < 2 := hi
  have : i = 0 ∨ i = 1 := by omega
  rcases this with rfl | rfl <;> constructor <;> simp [World.cell?, h]
theorem chs_three {W : World} {b : Nat} {id id2 id3 : Int} {fn fn2 fn3 : Nat} {caps caps2 caps3 : Array Value} (h : W.heap[b]? = some (.cells #[.int .i64 id, .func (Fn.func fn) #[] caps, .int .i64 id2, .func (Fn.func fn2) #[] caps2, .int .i64 id3, .func (Fn.func fn3) #[] caps3] 53 (0, 0))) : ChsAt W (.slice (some ⟨b, 0, none⟩) 3 3) [⟨id, fn, caps⟩, ⟨id2, fn2, caps2⟩, ⟨id3, fn3, caps3⟩] := by
  refine ⟨b, rfl, (Array.getElem?_eq_some_iff.1 h).1, fun i hi => ?_⟩
  have hi' : i < 3 := hi
  have : i = 0 ∨ i = 1 ∨ i = 2 := by omega
  rcases this with rfl | rfl | rfl <;> constructor <;> simp [World.cell?, h]
/-- A new Doc over a trie. -/
theorem dom_box {w : World} {tp : Value} {m : M} {nx : Int} (h : TrM w tp m) : Dom (w.alloc (.cells #[tp, .int .i64 nx] 56)) (.pointer (some ⟨w.heap.size, 0, none⟩)) m nx :=
  ⟨_, _, rfl, heap_alloc_last w _, h.keep ((Below.refl _ w).alloc (Nat.le_refl _) _)⟩
theorem e58 : ∀ args w, (callFunc 37 args).run Try.prog w = .ok (.enter 37 args) w := enters_of Try.func37 (by kernel_rfl) rfl
theorem e74 : ∀ args w, (callFunc 42 args).run Try.prog w = .ok (.enter 42 args) w := enters_of Try.func42 (by kernel_rfl) rfl
theorem e77 : ∀ args w, (callFunc 44 args).run Try.prog w = .ok (.enter 44 args) w := enters_of Try.func44 (by kernel_rfl) rfl
theorem e79 : ∀ args w, (callFunc 51 args).run Try.prog w = .ok (.enter 51 args) w := enters_of Try.func51 (by kernel_rfl) rfl
theorem e90 : ∀ args w, (callFunc 62 args).run Try.prog w = .ok (.enter 62 args) w := enters_of Try.func62 (by kernel_rfl) rfl
theorem e92 : ∀ args w, (callFunc 64 args).run Try.prog w = .ok (.enter 64 args) w := enters_of Try.func64 (by kernel_rfl) rfl
set_option maxHeartbeats 1000000 in
theorem new_no (tag : ByteArray) (w : World) (hs : tag.size ≤ maxLen) (hn : nameZ tag = false) : Calls Try.prog 6 #[.string tag] w fun e w' => e = .returned (.tuple #[.pointer none, .int .i64 7]) ∧ Below w.heap.size w w' := by
  have hname := name_any tag w hs
  rw [hn] at hname
  go_enter Try.func6, Try.ntmps6
  go_wp2_with (go_at_call 16; fail)
  refine hname.mono ?_
  rintro e w1 ⟨rfl, hB1⟩
  have HB1 := hid_mk hB1
  clear hname hB1 hn hs
  go_wp2
  refine bodyPost_ret (v := .tuple #[.pointer none, .int .i64 7]) (by simp [results, Try.results6, go_sem]) rfl ⟨rfl, HB1.out⟩
set_option maxHeartbeats 1000000 in
theorem new_yes (tag : ByteArray) (w : World) (hs : tag.size ≤ maxLen) (hn : nameZ tag = true) : Calls Try.prog 6 #[.string tag] w fun e w' => ∃ dp, e = .returned (.tuple #[dp, .int .i64 0]) ∧ Dom w' dp (mset (fun _ => none) 1 ⟨1, tag, 0, [], []⟩) 2 ∧ Below w.heap.size w w' := by
  have hname := name_any tag w hs
  rw [hn] at hname
  go_enter Try.func6, Try.ntmps6
  go_wp2_with (go_at_call 16; fail)
  refine hname.mono ?_
  rintro e w1 ⟨rfl, hB1⟩
  have HB1 := hid_mk hB1
  clear hname hB1 hn hs
  have hnew := trm_new w1
  go_wp2_with (go_at_call 18; fail)
  refine hnew.mono ?_
  rintro e w2 ⟨b2, rfl, hT2, hB2⟩
  have HB2 : Hid (Below w.heap.size w w2) := HB1.out.trans (hB2.mono HB1.out.size)
  have HT2 := hid_mk hT2
  clear hnew hT2 hB2 HB1
  have hbeg := begins_any w2 1 tag 0
  go_wp2_with (go_at_call 19; fail)
  refine hbeg.mono ?_
  rintro e w3 ⟨rfl, ⟨r0, r1, r2⟩, hl3, hB3⟩
  have HC : Hid (∀ W, W = w3.alloc (.cells #[.int .i64 1, .func (Fn.func 37) #[] #[.pointer (some ⟨w2.heap.size, 0, none⟩), .pointer (some ⟨w2.heap.size + 1, 0, none⟩), .pointer (some ⟨w2.heap.size + 1 + 1, 0, none⟩)]] 53) → Calls Try.prog 17 #[.pointer (some ⟨b2, 0, none⟩), .slice (some ⟨w3.heap.size, 0, none⟩) 1 1] W fun e w' => ∃ b, e = .returned (.pointer (some ⟨b, 0, none⟩)) ∧ TrM w' (.pointer (some ⟨b, 0, none⟩)) (mset (fun _ => none) 1 ⟨1, tag, 0, [], []⟩) ∧ Below w.heap.size w w') := by
    rintro W rfl
    have hA := (Below.refl _ w3).alloc (Nat.le_refl _) (.cells #[.int .i64 1, .func (Fn.func 37) #[] #[.pointer (some ⟨w2.heap.size, 0, none⟩), .pointer (some ⟨w2.heap.size + 1, 0, none⟩), .pointer (some ⟨w2.heap.size + 1 + 1, 0, none⟩)]] 53)
    have hB4 := hB3.trans (hA.mono hB3.size)
    refine (changed_any (HT2.out.keep hB4) (chs_one (heap_alloc_last w3 _)) (.cons (by dsimp only; omega) e58 (DoesA.keep (Does.arr (does_begins r0 r1 r2 (by omega) (by omega) (by omega) _)) hA) (.nil _)) (by simp)).mono ?_
    rintro e w' ⟨b, rfl, hT, hB⟩
    exact ⟨b, rfl, hT, (HB2.out.trans (hB4.mono HB2.out.size)).trans (hB.mono (HB2.out.trans (hB4.mono HB2.out.size)).size)⟩
  clear hbeg r0 r1 r2
  go_wp2_with (go_at_call 17; fail)
  refine (HC.out _ rfl).mono ?_
  rintro e w4 ⟨b, rfl, hT, hB⟩
  have HT := hid_mk hT
  have HB := hid_mk hB
  clear HC hT hB
  go_wp2
  refine bodyPost_ret (v := .tuple #[.pointer (some ⟨w4.heap.size, 0, none⟩), .int .i64 0]) (by simp [results, Try.results6, go_sem]) rfl ⟨_, rfl, dom_box HT.out, HB.out.alloc HB.out.size _⟩

end Go.Proofs.Ytecbgleidohjpab.N
