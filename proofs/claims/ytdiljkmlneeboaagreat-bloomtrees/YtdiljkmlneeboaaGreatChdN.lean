/- dom.changed: changes one behind the other. -/
import Derived.Test.YtdiljkmlneeboaaGreatTrmN
import Derived.Shelf.Abstract
namespace Go.Proofs.YtdiljkmlneeboaaGreat.N
open Go.RowKit
set_option maxRecDepth 100000

/-- A change: its element's number, its function, its boxes. -/
structure Ch where
  id : Int
  fn : Nat
  caps : Array Value
def DoesA (w0 : World) (fn : Nat) (caps : Array Value) (e e' : El) : Prop := ∀ w g s, Below w0.heap.size w0 w → w0.heap.size ≤ g → NodeAt w g s → ElAt w s e → OldAt g s.ka → OldAt g s.aa →
  Calls Tryz.prog fn (#[.pointer (some ⟨g, 0, none⟩)] ++ caps) w fun x w' => x = .returned (.tuple #[]) ∧ ∃ s', NodeAt w' g s' ∧ ElAt w' s' e' ∧ Below g w w'
theorem Does.arr {w0 : World} {fn : Nat} {caps : List Value} {e e' : El} (h : Does w0 fn caps e e') : DoesA w0 fn caps.toArray e e' := by
  intro w g s h1 h2 h3 h4 h5 h6
  have := h w g s h1 h2 h3 h4 h5 h6
  rwa [show (#[.pointer (some ⟨g, 0, none⟩)] ++ caps.toArray : Array Value) = ((.pointer (some ⟨g, 0, none⟩) :: caps).toArray) by simp]
theorem DoesA.keep {w0 w1 : World} {fn : Nat} {caps : Array Value} {e e' : El} (h : DoesA w0 fn caps e e') (hb : Below w0.heap.size w0 w1) : DoesA w1 fn caps e e' :=
  fun w g s h1 h2 h3 h4 h5 h6 => h w g s (hb.trans (h1.mono hb.size)) (Nat.le_trans hb.size h2) h3 h4 h5 h6
/-- What the changes make of the elements. -/
inductive Seq (w0 : World) : M → List Ch → M → Prop
  | nil (m : M) : Seq w0 m [] m
  | cons {m m' : M} {c : Ch} {cs : List Ch} {e' : El} (hid : 0 ≤ c.id ∧ c.id < 1048576) (eg : ∀ args w, (callFunc c.fn args).run Tryz.prog w = .ok (.enter c.fn args) w) (hd : DoesA w0 c.fn c.caps ((m c.id).getD zeroEl) e') (hr : Seq w0 (mset m c.id e') cs m') : Seq w0 m (c :: cs) m'
theorem Seq.inv {w0 : World} {m m' : M} {c : Ch} {cs : List Ch} (h : Seq w0 m (c :: cs) m') : (0 ≤ c.id ∧ c.id < 1048576) ∧ (∀ args w, (callFunc c.fn args).run Tryz.prog w = .ok (.enter c.fn args) w) ∧ ∃ e', DoesA w0 c.fn c.caps ((m c.id).getD zeroEl) e' ∧ Seq w0 (mset m c.id e') cs m' := by
  cases h with
  | cons h1 h2 h3 h4 => exact ⟨h1, h2, _, h3, h4⟩
theorem Seq.done {w0 : World} {m m' : M} (h : Seq w0 m [] m') : m' = m := by cases h; rfl
/-- The changes lie in a row. -/
def ChsAt (w : World) (v : Value) (cs : List Ch) : Prop := ∃ b, v = .slice (some ⟨b, 0, none⟩) cs.length cs.length ∧ b < w.heap.size ∧ ∀ i (h : i < cs.length), w.cell? ⟨b, i * 2, none⟩ = some (.int .i64 cs[i].id) ∧ w.cell? ⟨b, i * 2 + 1, none⟩ = some (.func (Fn.func cs[i].fn) #[] cs[i].caps)
theorem RowAt.old {w : World} {sz n c g : Nat} {a : Option Addr} {xs : List Value} (h : RowAt w sz a n c xs) (hg : w.heap.size ≤ g) : OldAt g a := by
  rintro x rfl
  rcases h.2.2.2.2 with ⟨h, _⟩ | ⟨b, off, h, hl, _⟩
  · cases h
  · cases h
    exact Nat.lt_of_lt_of_le hl hg
theorem chg_cells {W : World} {b : Nat} {x y : Value} (h : W.heap[b]? = some (.cells #[x, y] 98 (0, 0))) : W.cell? ⟨b, 0, none⟩ = some x ∧ W.cell? ⟨b, 1, none⟩ = some y ∧ b < W.heap.size := by
  refine ⟨?_, ?_, (Array.getElem?_eq_some_iff.1 h).1⟩ <;> simp [World.cell?, h]
set_option maxHeartbeats 2000000 in
theorem changed_any {w : World} {tp v : Value} {m m' : M} {cs : List Ch} (hT : TrM w tp m) (hv : ChsAt w v cs) (hS : Seq w m cs m') (hn : cs.length ≤ 1000) : Calls Tryz.prog 49 #[tp, v] w fun e w' => ∃ b, e = .returned (.pointer (some ⟨b, 0, none⟩)) ∧ TrM w' (.pointer (some ⟨b, 0, none⟩)) m' ∧ Below w.heap.size w w' := by
  obtain ⟨b0, rfl⟩ := hT.ptr
  obtain ⟨bv, rfl, hbv, hc⟩ := hv
  have HC := hid_mk hc
  have HT := hid_mk hT
  have HS := hid_mk hS
  clear hc hT hS
  go_enter Tryz.func49, Tryz.ntmps49
  go_wp2
  go_loopw [0, 11] (fun a0 a11 wr => ∃ (i : Nat) (b : Nat) (mi : M), i ≤ cs.length ∧ a0 = .pointer (some ⟨b, 0, none⟩) ∧ TrM wr (.pointer (some ⟨b, 0, none⟩)) mi ∧ Seq w mi (cs.drop i) m' ∧ a11 = .int .i64 (i : Int) ∧ Below w.heap.size w wr) (fun _ a11 _ => cs.length + 1 - (intOf a11).toNat)
  case atStart => exact ⟨0, b0, m, Nat.zero_le _, rfl, HT.out, HS.out, rfl, Below.refl _ _⟩
  case round =>
    clear HT HS
    obtain ⟨i, b, mi, hi, rfl, hT, hS, rfl, hB⟩ := hrel
    have HT := hid_mk hT
    have HS := hid_mk hS
    have HB := hid_mk hB
    clear hT hS hB
    by_cases hlt : i < cs.length
    · obtain ⟨h0, h1⟩ := HC.out i hlt
      have c0 := (HB.out.cell (p := ⟨bv, i * 2, none⟩) hbv).trans h0
      have c1 := (HB.out.cell (p := ⟨bv, i * 2 + 1, none⟩) hbv).trans h1
      have hS := HS.out
      rw [List.drop_eq_getElem_cons hlt] at hS
      obtain ⟨hid, eg, e', hD, hR⟩ := hS.inv
      clear h0 h1 HC hS HS
      have HR := hid_mk hR
      have HD := hid_mk hD
      clear hR hD
      generalize cs[i] = c at *
      obtain ⟨id, fn, caps⟩ := c
      dsimp only at *
      obtain ⟨wA, hwA⟩ : ∃ wA, wA = wr.alloc (.cells #[.int .i64 id, .func (Fn.func fn) #[] caps] 98) := ⟨_, rfl⟩
      have hBA : Below wr.heap.size wr wA := by rw [hwA]; exact (Below.refl _ _).alloc (Nat.le_refl _) _
      have hnA : wA.heap[wr.heap.size]? = some (.cells #[.int .i64 id, .func (Fn.func fn) #[] caps] 98) := by rw [hwA]; exact heap_alloc_last _ _
      obtain ⟨k0, k1, kl⟩ := chg_cells hnA
      have HWA := hid_mk hwA
      clear hwA
      have hget := trm_get (HT.out.keep hBA) id
      go_wp2_with (go_at_call 83; fail)
      rw [← HWA.out]
      refine hget.mono ?_
      rintro x w1 ⟨s, rfl, hE, hB1⟩
      obtain ⟨wB, hwB⟩ : ∃ wB, wB = w1.alloc (.cells #[.int .i64 s.id, .string s.tag, .int .i64 s.par, .slice s.ka s.kn s.kc, .slice s.aa s.an s.ac] 76) := ⟨_, rfl⟩
      have hBB : Below w1.heap.size w1 wB := by rw [hwB]; exact (Below.refl _ _).alloc (Nat.le_refl _) _
      have hN : NodeAt wB w1.heap.size s := by rw [hwB]; exact heap_alloc_last w1 _
      have hB2 : Below wA.heap.size wA wB := hB1.trans (hBB.mono hB1.size)
      have hB3 : Below wr.heap.size wr wB := hBA.trans (hB2.mono hBA.size)
      obtain ⟨d0, d1, _⟩ := chg_cells ((hB2.block _ kl).trans hnA)
      obtain ⟨d2, d3, _⟩ := chg_cells ((hB1.block _ kl).trans hnA)
      have hEB := hE.keep hB2
      have hgl : wA.heap.size ≤ w1.heap.size := hB1.size
      have hdo := HD.out wB w1.heap.size s (HB.out.trans (hB3.mono HB.out.size)) (Nat.le_trans HB.out.size (Nat.le_trans hBA.size hgl)) hN hEB (hE.2.2.2.1.old hgl) (hE.2.2.2.2.old hgl)
      have HWB := hid_mk hwB
      have HB3 := hid_mk hB3
      have HNA : Hid (∀ W, Below w1.heap.size wB W → W.cell? ⟨wr.heap.size, 0, none⟩ = some (.int .i64 id)) := fun W hW => (hW.cell (p := ⟨wr.heap.size, 0, none⟩) (Nat.lt_of_lt_of_le kl hgl)).trans d0
      have HL : Hid (wr.heap.size ≤ w1.heap.size) := Nat.le_trans hBA.size hgl
      clear hwB hget hN hB2 hB3 hE hEB HD hBA hnA k0 k1 hBB hB1
      go_wp2_with (go_at_fn fn; fail)
      rw [← HWB.out]
      refine hdo.mono ?_
      rintro x w2 ⟨rfl, s', hN', hE', hB4⟩
      have hB5 : Below wr.heap.size wr w2 := HB3.out.trans (hB4.mono HL.out)
      have hput := trm_put (HT.out.keep hB5) hid hE'
      have e0 := HNA.out w2 hB4
      obtain ⟨⟨n0, n1, n2, n3, n4⟩, _⟩ := hN'.cells
      have HB5 := hid_mk hB5
      clear hdo hB4 hB5 hN' hE' HNA d0 d1 d2 d3 c0 c1
      go_wp2_with (go_at_call 84; fail)
      refine hput.mono ?_
      rintro x w3 ⟨b3, rfl, hT3, hB6⟩
      have HT3 := hid_mk hT3
      have HB6 := hid_mk (HB5.out.trans (hB6.mono HB5.out.size))
      clear hput hT3 hB6 n0 n1 n2 n3 n4 e0
      go_wp2
      exact ⟨⟨i + 1, b3, _, hlt, rfl, HT3.out, HR.out, rfl, HB.out.trans (HB6.out.mono HB.out.size)⟩, by simp only [intOf]; omega⟩
    · obtain rfl : i = cs.length := by omega
      have hm := HS.out
      rw [List.drop_length] at hm
      have HM := hid_mk hm.done
      clear hm HS HC
      go_wp2
      go_ret
      exact ⟨b, rfl, by rw [HM.out]; exact HT.out, HB.out⟩

end Go.Proofs.YtdiljkmlneeboaaGreat.N
