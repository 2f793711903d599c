/- What text.Name answers: whether all characters fit, the first one being a small letter; it leaves all that was there. dom.New. -/
import Derived.Test.YtdiljkmlneeboaaGreatRowN
import Derived.WalkKit
import Derived.WalkLawsBesides
import Derived.Lib.RuneCount
import Derived.Lib.OthersKept
import Derived.Laws.BytesArg
import Derived.OneCell
import Derived.WalkSpells
import Derived.Deep.QuietTactic
import Derived.BigQuiet
import Derived.Test.YtdiljkmlneeboaaGreatChdN
namespace Go.Proofs.YtdiljkmlneeboaaGreat.N
open Go.RowKit

theorem below_iter {B : Nat} {a w : World} (h : Below B a w) (hB : B ≤ w.heap.size) (s : ByteArray) (pos : Nat) : Below B a (w.iter s pos) := h.alloc hB _
def charsFrom (s : ByteArray) : Nat → Nat → List Int
  | 0, _ => []
  | f + 1, pos => if pos < s.size then ((Utf8.decode s pos).1 : Int) :: charsFrom s f (pos + (Utf8.decode s pos).2) else []
def chars (s : ByteArray) : List Int := charsFrom s s.size 0
theorem charsFrom_end (s : ByteArray) (f pos : Nat) (h : ¬ pos < s.size) : charsFrom s f pos = [] := by
  cases f <;> simp [charsFrom, h]
theorem ret_bool {a b : Bool} (h : a = b) : Ending.returned (.bool a) = .returned (.bool b) := by rw [h]
def smallZ (c : Int) : Bool := decide (97 ≤ c) && decide (c ≤ 122)
def digitZ (c : Int) : Bool := decide (48 ≤ c) && decide (c ≤ 57)
def fitZ (first : Bool) (c : Int) : Bool := if first then smallZ c else smallZ c || digitZ c || c == 45 || c == 95
def namesZ : Bool → List Int → Bool
  | _, [] => true
  | f, c :: r => fitZ f c && namesZ false r
def nameZ (s : ByteArray) : Bool := if s.size = 0 ∨ 64 < s.size then false else namesZ true (chars s)

theorem small_any (c : Int) (w : World) : Calls Tryz.prog 114 #[.int .i32 c] w fun e w' => e = .returned (.bool (smallZ c)) ∧ w = w' := by
  by_cases h1 : 97 ≤ c
  · by_cases h2 : c ≤ 122
    · have HT : Hid (smallZ c = true) := by show smallZ c = true; simp [smallZ, h1, h2]
      go_enter Tryz.func114, Tryz.ntmps114
      go_wp2
      go_ret
      exact ⟨ret_bool (by rw [HT.out]), rfl⟩
    · have HT : Hid (smallZ c = false) := by show smallZ c = false; simp [smallZ, h1, h2]
      go_enter Tryz.func114, Tryz.ntmps114
      go_wp2
      go_ret
      exact ⟨ret_bool (by rw [HT.out]), rfl⟩
  · have HT : Hid (smallZ c = false) := by show smallZ c = false; simp [smallZ, h1]
    go_enter Tryz.func114, Tryz.ntmps114
    go_wp2
    go_ret
    exact ⟨ret_bool (by rw [HT.out]), rfl⟩

theorem digit_any (c : Int) (w : World) : Calls Tryz.prog 115 #[.int .i32 c] w fun e w' => e = .returned (.bool (digitZ c)) ∧ w = w' := by
  by_cases h1 : 48 ≤ c
  · by_cases h2 : c ≤ 57
    · have HT : Hid (digitZ c = true) := by show digitZ c = true; simp [digitZ, h1, h2]
      go_enter Tryz.func115, Tryz.ntmps115
      go_wp2
      go_ret
      exact ⟨ret_bool (by rw [HT.out]), rfl⟩
    · have HT : Hid (digitZ c = false) := by show digitZ c = false; simp [digitZ, h1, h2]
      go_enter Tryz.func115, Tryz.ntmps115
      go_wp2
      go_ret
      exact ⟨ret_bool (by rw [HT.out]), rfl⟩
  · have HT : Hid (digitZ c = false) := by show digitZ c = false; simp [digitZ, h1]
    go_enter Tryz.func115, Tryz.ntmps115
    go_wp2
    go_ret
    exact ⟨ret_bool (by rw [HT.out]), rfl⟩

theorem fits_first (c : Int) (g : Nat) (w : World) (hg : w.heap[g]? = some (.cells #[.bool true] 4 (0, 0))) :
    Calls Tryz.prog 113 #[.int .i32 c, .pointer (some ⟨g, 0, none⟩)] w fun e w' => e = .returned (.bool (smallZ c)) ∧ w.setCell ⟨g, 0, none⟩ (.bool false) = w' := by
  have hc := cell_of_one hg
  have hf := free_of_one hg
  clear hg
  go_enter Tryz.func113, Tryz.ntmps113
  go_wp2_with (go_at_call 114; refine (small_any _ _).mono ?_; rintro e w' ⟨rfl, rfl⟩)
  go_ret
  exact ⟨rfl, rfl⟩

theorem fits_rest (c : Int) (g : Nat) (w : World) (hg : w.heap[g]? = some (.cells #[.bool false] 4 (0, 0))) :
    Calls Tryz.prog 113 #[.int .i32 c, .pointer (some ⟨g, 0, none⟩)] w fun e w' => e = .returned (.bool (smallZ c || digitZ c || c == 45 || c == 95)) ∧ w = w' := by
  have hc := cell_of_one hg
  clear hg
  cases hs : smallZ c
  · cases hd : digitZ c
    · by_cases h45 : c = 45
      · subst h45
        go_enter Tryz.func113, Tryz.ntmps113
        go_wp2_with (first | (go_at_call 114; refine (small_any _ _).mono ?_; rintro e w' ⟨rfl, rfl⟩) | (go_at_call 115; refine (digit_any _ _).mono ?_; rintro e w' ⟨rfl, rfl⟩))
        go_ret
        exact ⟨rfl, rfl⟩
      · by_cases h95 : c = 95
        · subst h95
          go_enter Tryz.func113, Tryz.ntmps113
          go_wp2_with (first | (go_at_call 114; refine (small_any _ _).mono ?_; rintro e w' ⟨rfl, rfl⟩) | (go_at_call 115; refine (digit_any _ _).mono ?_; rintro e w' ⟨rfl, rfl⟩))
          go_ret
          exact ⟨rfl, rfl⟩
        · have e1 : (c == 45) = false := by simpa using h45
          have e2 : (c == 95) = false := by simpa using h95
          go_enter Tryz.func113, Tryz.ntmps113
          go_wp2_with (first | (go_at_call 114; refine (small_any _ _).mono ?_; rintro e w' ⟨rfl, rfl⟩) | (go_at_call 115; refine (digit_any _ _).mono ?_; rintro e w' ⟨rfl, rfl⟩))
          go_ret
          exact ⟨ret_bool (by simp [e1, e2]), rfl⟩
    · go_enter Tryz.func113, Tryz.ntmps113
      go_wp2_with (first | (go_at_call 114; refine (small_any _ _).mono ?_; rintro e w' ⟨rfl, rfl⟩) | (go_at_call 115; refine (digit_any _ _).mono ?_; rintro e w' ⟨rfl, rfl⟩))
      go_ret
      exact ⟨rfl, rfl⟩
  · go_enter Tryz.func113, Tryz.ntmps113
    go_wp2_with (first | (go_at_call 114; refine (small_any _ _).mono ?_; rintro e w' ⟨rfl, rfl⟩) | (go_at_call 115; refine (digit_any _ _).mono ?_; rintro e w' ⟨rfl, rfl⟩))
    go_ret
    exact ⟨rfl, rfl⟩

theorem made_any (w : World) :
    Calls Tryz.prog 82 #[] w fun e w' => e = .returned (.func (.func 113) #[] #[.pointer (some ⟨w.heap.size, 0, none⟩)]) ∧ w.alloc (.cells #[.bool true] 4) = w' := by
  go_enter Tryz.func82, Tryz.ntmps82
  go_wp2
  go_ret
  exact ⟨rfl, rfl⟩

theorem setCell_block {w : World} {g k : Nat} (v : Value) (h : k ≠ g) : (w.setCell ⟨g, 0, none⟩ v).heap[k]? = w.heap[k]? := Below.heap_setCell w ⟨g, 0, none⟩ v k h

set_option maxHeartbeats 4000000 in
set_option maxRecDepth 1000000 in
theorem name_mid (s : ByteArray) (w : World) (h0 : 0 < s.size) (h64 : s.size ≤ 64) :
    Calls Tryz.prog 48 #[.string s] w fun e w' => e = .returned (.bool (namesZ true (chars s))) ∧ Below w.heap.size w w' := by
  have e0 : ((s.size : Int) == 0) = false := beq_eq_false_iff_ne.2 (by omega)
  go_enter Tryz.func48, Tryz.ntmps48
  go_wp2_with (go_at_call 82; refine (made_any _).mono ?_; rintro e w' ⟨rfl, rfl⟩)
  go_loopw [] (fun wr => ∃ (pos fuel : Nat) (first : Bool), wr.heap[w.heap.size + 1]? = some (.stringIter s pos) ∧ wr.heap[w.heap.size]? = some (.cells #[.bool first] 4 (0, 0)) ∧ Below w.heap.size w wr ∧ namesZ first (charsFrom s fuel pos) = namesZ true (chars s) ∧ s.size ≤ pos + fuel) (fun wr => s.size - wr.iterPos (w.heap.size + 1))
  case atStart =>
    refine ⟨0, s.size, true, ?_, ?_, below_iter ((Below.refl _ w).alloc (Nat.le_refl _) _) (by simp) s 0, rfl, by omega⟩
    · have := World.iter_heap (w.alloc (.cells #[.bool true] 4)) s 0
      simpa using this
    · have := Below.heap_alloc (w.alloc (.cells #[.bool true] 4)) (.stringIter s 0) w.heap.size (by simp)
      exact this.trans (heap_alloc_new w _)
  case round =>
    obtain ⟨pos, fuel, first, hit, hfst, hbw, hnm, hfu⟩ := hrel
    have hsz : w.heap.size + 1 < wr.heap.size := (Array.getElem?_eq_some_iff.1 hit).1
    by_cases hp : pos < s.size
    · have hnx : ∀ ty, (Instr.next (.pointer (some ⟨w.heap.size + 1, 0, none⟩)) true ty).run Tryz.prog wr = _ := fun ty => Lib.run_next_any_at wr (w.heap.size + 1) s pos ty hit hp
      have hwd := Lib.decode_width_pos s pos hp
      have hit3 := Lib.iterAt_heap wr (w.heap.size + 1) s pos (pos + (Utf8.decode s pos).2) hit
      have hbw3 := Lib.below_iterAt hbw (k := w.heap.size + 1) (by omega) s (pos + (Utf8.decode s pos).2)
      have hfst3 := (Lib.iterAt_other wr (w.heap.size + 1) w.heap.size s (pos + (Utf8.decode s pos).2) (by omega)).trans hfst
      obtain ⟨f, rfl⟩ : ∃ f, fuel = f + 1 := ⟨fuel - 1, by omega⟩
      simp only [charsFrom, if_pos hp] at hnm
      generalize Utf8.decode s pos = dc at *
      obtain ⟨c, d⟩ := dc
      simp only at *
      generalize wr.iterAt (w.heap.size + 1) s (pos + d) = W at *
      have hm : s.size - W.iterPos (w.heap.size + 1) < s.size - wr.iterPos (w.heap.size + 1) := by
        simp only [World.iterPos, hit3, hit]
        omega
      have hit4 := (setCell_block (w := W) (g := w.heap.size) (k := w.heap.size + 1) (.bool false) (by omega)).trans hit3
      clear hbw hit hfst
      simp only [namesZ] at hnm
      have HN : Hid ((fitZ first c && namesZ false (charsFrom s f (pos + d))) = namesZ true (chars s)) := hnm
      clear hnm
      cases first
      · cases hb : (smallZ c || digitZ c || (c : Int) == 45 || (c : Int) == 95)
        · have HR : Hid (namesZ true (chars s) = false) := by
            have := HN.out
            simp only [fitZ, Bool.false_eq_true, if_false, hb, Bool.false_and] at this
            exact this.symm
          go_wp2_with (go_at_call 113; refine (fits_rest _ _ _ hfst3).mono ?_; rintro e w' ⟨rfl, rfl⟩)
          go_ret
          exact ⟨ret_bool HR.out.symm, hbw3⟩
        · go_wp2_with (go_at_call 113; refine (fits_rest _ _ _ hfst3).mono ?_; rintro e w' ⟨rfl, rfl⟩)
          go_roundw
          case rel =>
            have := HN.out
            simp only [fitZ, Bool.false_eq_true, if_false, hb, Bool.true_and] at this
            exact ⟨pos + d, f, false, hit3, hfst3, hbw3, this, by omega⟩
          case measure => exact hm
      · cases hb : smallZ c
        · have HR : Hid (namesZ true (chars s) = false) := by
            have := HN.out
            simp only [fitZ, if_true, hb, Bool.false_and] at this
            exact this.symm
          go_wp2_with (go_at_call 113; refine (fits_first _ _ _ hfst3).mono ?_; rintro e w' ⟨rfl, rfl⟩)
          go_ret
          exact ⟨ret_bool HR.out.symm, hbw3.setCell (Nat.le_refl _) _⟩
        · go_wp2_with (go_at_call 113; refine (fits_first _ _ _ hfst3).mono ?_; rintro e w' ⟨rfl, rfl⟩)
          go_roundw
          case rel =>
            have := HN.out
            simp only [fitZ, if_true, hb, Bool.true_and] at this
            exact ⟨pos + d, f, false, hit4, one_setCell hfst3, hbw3.setCell (Nat.le_refl _) _, this, by omega⟩
          case measure =>
            simp only [World.iterPos, hit4, hit3] at hm ⊢
            exact hm
    · have hnx : ∀ ty, (Instr.next (.pointer (some ⟨w.heap.size + 1, 0, none⟩)) true ty).run Tryz.prog wr = _ := fun ty => Lib.run_next_end_at wr (w.heap.size + 1) s pos ty hit hp
      have HR : Hid (namesZ true (chars s) = true) := by
        rw [charsFrom_end s fuel pos hp] at hnm
        exact hnm.symm
      go_wp2
      go_ret
      exact ⟨ret_bool HR.out.symm, hbw⟩

theorem name_any (s : ByteArray) (w : World) (hs : s.size ≤ maxLen) :
    Calls Tryz.prog 48 #[.string s] w fun e w' => e = .returned (.bool (nameZ s)) ∧ Below w.heap.size w w' := by
  unfold maxLen at hs
  by_cases h0 : s.size = 0
  · have HR : Hid (nameZ s = false) := by show nameZ s = false; simp [nameZ, h0]
    have e0 : ((s.size : Int) == 0) = true := beq_iff_eq.2 (by omega)
    clear h0
    go_enter Tryz.func48, Tryz.ntmps48
    go_wp2
    go_ret
    exact ⟨ret_bool HR.out.symm, Below.refl _ _⟩
  · by_cases h64 : 64 < s.size
    · have HR : Hid (nameZ s = false) := by show nameZ s = false; simp [nameZ, h64]
      have e0 : ((s.size : Int) == 0) = false := beq_eq_false_iff_ne.2 (by omega)
      go_enter Tryz.func48, Tryz.ntmps48
      go_wp2
      go_ret
      exact ⟨ret_bool HR.out.symm, Below.refl _ _⟩
    · have e : nameZ s = namesZ true (chars s) := by
        rw [nameZ, if_neg (by omega)]
      rw [e]
      exact name_mid s w (by omega) (by omega)


end Go.Proofs.YtdiljkmlneeboaaGreat.N
namespace Go.Proofs.YtdiljkmlneeboaaGreat.N
open Go.RowKit
set_option maxRecDepth 100000

theorem chs_one {W : World} {b : Nat} {id : Int} {fn : Nat} {caps : Array Value} (h : W.heap[b]? = some (.cells #[.int .i64 id, .func (Fn.func fn) #[] caps] 98 (0, 0))) : ChsAt W (.slice (some ⟨b, 0, none⟩) 1 1) [⟨id, fn, caps⟩] := by
  refine ⟨b, rfl, (Array.getElem?_eq_some_iff.1 h).1, fun i hi => ?_⟩
  have hi' : i < 1 := hi
  obtain rfl : i = 0 := by omega
  constructor <;> simp [World.cell?, h]
theorem chs_two {W : World} {b : Nat} {id id2 : Int} {fn fn2 : Nat} {caps caps2 : Array Value} (h : W.heap[b]? = some (.cells #[.int .i64 id, .func (Fn.func fn) #[] caps, .int .i64 id2, .func (Fn.func fn2) #[] caps2] 98 (0, 0))) : ChsAt W (.slice (some ⟨b, 0, none⟩) 2 2) [⟨id, fn, caps⟩, ⟨id2, fn2, caps2⟩] := by
  refine ⟨b, rfl, (Array.getElem?_eq_some_iff.1 h).1, fun i hi => ?_⟩
  have hi' : i < 2 := hi
  have : i = 0 ∨ i = 1 := by omega
  rcases this with rfl | rfl <;> constructor <;> simp [World.cell?, h]
theorem chs_three {W : World} {b : Nat} {id id2 id3 : Int} {fn fn2 fn3 : Nat} {caps caps2 caps3 : Array Value} (h : W.heap[b]? = some (.cells #[.int .i64 id, .func (Fn.func fn) #[] caps, .int .i64 id2, .func (Fn.func fn2) #[] caps2, .int .i64 id3, .func (Fn.func fn3) #[] caps3] 98 (0, 0))) : ChsAt W (.slice (some ⟨b, 0, none⟩) 3 3) [⟨id, fn, caps⟩, ⟨id2, fn2, caps2⟩, ⟨id3, fn3, caps3⟩] := by
  refine ⟨b, rfl, (Array.getElem?_eq_some_iff.1 h).1, fun i hi => ?_⟩
  have hi' : i < 3 := hi
  have : i = 0 ∨ i = 1 ∨ i = 2 := by omega
  rcases this with rfl | rfl | rfl <;> constructor <;> simp [World.cell?, h]
/-- A new Doc over a trie. -/
theorem dom_box {w : World} {tp : Value} {m : M} {nx : Int} (h : TrM w tp m) : Dom (w.alloc (.cells #[tp, .int .i64 nx] 88)) (.pointer (some ⟨w.heap.size, 0, none⟩)) m nx :=
  ⟨_, _, rfl, heap_alloc_last w _, h.keep ((Below.refl _ w).alloc (Nat.le_refl _) _)⟩
theorem e58 : ∀ args w, (callFunc 85 args).run Tryz.prog w = .ok (.enter 85 args) w := enters_of Tryz.func85 (by kernel_rfl) rfl
theorem e74 : ∀ args w, (callFunc 87 args).run Tryz.prog w = .ok (.enter 87 args) w := enters_of Tryz.func87 (by kernel_rfl) rfl
theorem e77 : ∀ args w, (callFunc 89 args).run Tryz.prog w = .ok (.enter 89 args) w := enters_of Tryz.func89 (by kernel_rfl) rfl
theorem e79 : ∀ args w, (callFunc 95 args).run Tryz.prog w = .ok (.enter 95 args) w := enters_of Tryz.func95 (by kernel_rfl) rfl
theorem e90 : ∀ args w, (callFunc 99 args).run Tryz.prog w = .ok (.enter 99 args) w := enters_of Tryz.func99 (by kernel_rfl) rfl
theorem e92 : ∀ args w, (callFunc 101 args).run Tryz.prog w = .ok (.enter 101 args) w := enters_of Tryz.func101 (by kernel_rfl) rfl
set_option maxHeartbeats 1000000 in
theorem new_no (tag : ByteArray) (w : World) (hs : tag.size ≤ maxLen) (hn : nameZ tag = false) : Calls Tryz.prog 23 #[.string tag] w fun e w' => e = .returned (.tuple #[.pointer none, .int .i64 7]) ∧ Below w.heap.size w w' := by
  have hname := name_any tag w hs
  rw [hn] at hname
  go_enter Tryz.func23, Tryz.ntmps23
  go_wp2_with (go_at_call 48; fail)
  refine hname.mono ?_
  rintro e w1 ⟨rfl, hB1⟩
  have HB1 := hid_mk hB1
  clear hname hB1 hn hs
  go_wp2
  refine bodyPost_ret (v := .tuple #[.pointer none, .int .i64 7]) (by simp [results, Tryz.results23, go_sem]) rfl ⟨rfl, HB1.out⟩
set_option maxHeartbeats 1000000 in
theorem new_yes (tag : ByteArray) (w : World) (hs : tag.size ≤ maxLen) (hn : nameZ tag = true) : Calls Tryz.prog 23 #[.string tag] w fun e w' => ∃ dp, e = .returned (.tuple #[dp, .int .i64 0]) ∧ Dom w' dp (mset (fun _ => none) 1 ⟨1, tag, 0, [], []⟩) 2 ∧ Below w.heap.size w w' := by
  have hname := name_any tag w hs
  rw [hn] at hname
  go_enter Tryz.func23, Tryz.ntmps23
  go_wp2_with (go_at_call 48; fail)
  refine hname.mono ?_
  rintro e w1 ⟨rfl, hB1⟩
  have HB1 := hid_mk hB1
  clear hname hB1 hn hs
  have hnew := trm_new w1
  go_wp2_with (go_at_call 50; fail)
  refine hnew.mono ?_
  rintro e w2 ⟨b2, rfl, hT2, hB2⟩
  have HB2 : Hid (Below w.heap.size w w2) := HB1.out.trans (hB2.mono HB1.out.size)
  have HT2 := hid_mk hT2
  clear hnew hT2 hB2 HB1
  have hbeg := begins_any w2 1 tag 0
  go_wp2_with (go_at_call 51; fail)
  refine hbeg.mono ?_
  rintro e w3 ⟨rfl, ⟨r0, r1, r2⟩, hl3, hB3⟩
  have HC : Hid (∀ W, W = w3.alloc (.cells #[.int .i64 1, .func (Fn.func 85) #[] #[.pointer (some ⟨w2.heap.size, 0, none⟩), .pointer (some ⟨w2.heap.size + 1, 0, none⟩), .pointer (some ⟨w2.heap.size + 1 + 1, 0, none⟩)]] 98) → Calls Tryz.prog 49 #[.pointer (some ⟨b2, 0, none⟩), .slice (some ⟨w3.heap.size, 0, none⟩) 1 1] W fun e w' => ∃ b, e = .returned (.pointer (some ⟨b, 0, none⟩)) ∧ TrM w' (.pointer (some ⟨b, 0, none⟩)) (mset (fun _ => none) 1 ⟨1, tag, 0, [], []⟩) ∧ Below w.heap.size w w') := by
    rintro W rfl
    have hA := (Below.refl _ w3).alloc (Nat.le_refl _) (.cells #[.int .i64 1, .func (Fn.func 85) #[] #[.pointer (some ⟨w2.heap.size, 0, none⟩), .pointer (some ⟨w2.heap.size + 1, 0, none⟩), .pointer (some ⟨w2.heap.size + 1 + 1, 0, none⟩)]] 98)
    have hB4 := hB3.trans (hA.mono hB3.size)
    refine (changed_any (HT2.out.keep hB4) (chs_one (heap_alloc_last w3 _)) (.cons (by dsimp only; omega) e58 (DoesA.keep (Does.arr (does_begins r0 r1 r2 (by omega) (by omega) (by omega) _)) hA) (.nil _)) (by simp)).mono ?_
    rintro e w' ⟨b, rfl, hT, hB⟩
    exact ⟨b, rfl, hT, (HB2.out.trans (hB4.mono HB2.out.size)).trans (hB.mono (HB2.out.trans (hB4.mono HB2.out.size)).size)⟩
  clear hbeg r0 r1 r2
  go_wp2_with (go_at_call 49; fail)
  refine (HC.out _ rfl).mono ?_
  rintro e w4 ⟨b, rfl, hT, hB⟩
  have HT := hid_mk hT
  have HB := hid_mk hB
  clear HC hT hB
  go_wp2
  refine bodyPost_ret (v := .tuple #[.pointer (some ⟨w4.heap.size, 0, none⟩), .int .i64 0]) (by simp [results, Tryz.results23, go_sem]) rfl ⟨_, rfl, dom_box HT.out, HB.out.alloc HB.out.size _⟩

end Go.Proofs.YtdiljkmlneeboaaGreat.N
