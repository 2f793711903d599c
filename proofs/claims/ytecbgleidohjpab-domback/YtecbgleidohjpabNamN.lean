/- What text.Name answers: whether all characters fit, the first one being a small letter; it leaves all that was there. -/
import Derived.Test.YtecbgleidohjpabRowN
import Derived.WalkKit
import Derived.WalkLawsBesides
import Derived.Lib.RuneCount
import Derived.Lib.OthersKept
import Derived.Laws.BytesArg
import Derived.OneCell
import Derived.WalkSpells
import Derived.Deep.QuietTactic
import Derived.BigQuiet
namespace Go.Proofs.Ytecbgleidohjpab.N
open Go.RowKit

theorem below_iter {B : Nat} {a w : World} (h : Below B a w) (hB : B ≤ w.heap.size) (s : ByteArray) (pos : Nat) : Below B a (w.iter s pos) := h.alloc hB _
def charsFrom (s : ByteArray) : Nat → Nat → List Int
  | 0, _ => []
  | f + 1, pos => if pos < s.size then ((Utf8.decode s pos).1 : Int) :: charsFrom s f (pos + (Utf8.decode s pos).2) else []
def chars (s : ByteArray) : List Int := charsFrom s s.size 0
theorem charsFrom_end (s : ByteArray) (f pos : Nat) (h : ¬ pos < s.size) : charsFrom s f pos = [] := by
  cases f <;> simp [charsFrom, h]
theorem ret_bool {a b : Bool} (h : a = b) : Ending.returned (.bool a) = .returned (.bool b) := by rw [h]
def smallZ (c : Int) : Bool := decide (97 ≤ c) && decide (c ≤ 122)
def digitZ (c : Int) : Bool := decide (48 ≤ c) && decide (c ≤ 57)
def fitZ (first : Bool) (c : Int) : Bool := if first then smallZ c else smallZ c || digitZ c || c == 45 || c == 95
def namesZ : Bool → List Int → Bool
  | _, [] => true
  | f, c :: r => fitZ f c && namesZ false r
def nameZ (s : ByteArray) : Bool := if s.size = 0 ∨ 64 < s.size then false else namesZ true (chars s)

theorem small_any (c : Int) (w : World) : Calls Try.prog 53 #[.int .i32 c] w fun e w' => e = .returned (.bool (smallZ c)) ∧ w = w' := by
  by_cases h1 : 97 ≤ c
  · by_cases h2 : c ≤ 122
    · have HT : Hid (smallZ c = true) := by show smallZ c = true; simp [smallZ, h1, h2]
      go_enter Try.func53, Try.ntmps53
      go_wp2
      go_ret
      exact ⟨ret_bool (by rw [HT.out]), rfl⟩
    · have HT : Hid (smallZ c = false) := by show smallZ c = false; simp [smallZ, h1, h2]
      go_enter Try.func53, Try.ntmps53
      go_wp2
      go_ret
      exact ⟨ret_bool (by rw [HT.out]), rfl⟩
  · have HT : Hid (smallZ c = false) := by show smallZ c = false; simp [smallZ, h1]
    go_enter Try.func53, Try.ntmps53
    go_wp2
    go_ret
    exact ⟨ret_bool (by rw [HT.out]), rfl⟩

theorem digit_any (c : Int) (w : World) : Calls Try.prog 54 #[.int .i32 c] w fun e w' => e = .returned (.bool (digitZ c)) ∧ w = w' := by
  by_cases h1 : 48 ≤ c
  · by_cases h2 : c ≤ 57
    · have HT : Hid (digitZ c = true) := by show digitZ c = true; simp [digitZ, h1, h2]
      go_enter Try.func54, Try.ntmps54
      go_wp2
      go_ret
      exact ⟨ret_bool (by rw [HT.out]), rfl⟩
    · have HT : Hid (digitZ c = false) := by show digitZ c = false; simp [digitZ, h1, h2]
      go_enter Try.func54, Try.ntmps54
      go_wp2
      go_ret
      exact ⟨ret_bool (by rw [HT.out]), rfl⟩
  · have HT : Hid (digitZ c = false) := by show digitZ c = false; simp [digitZ, h1]
    go_enter Try.func54, Try.ntmps54
    go_wp2
    go_ret
    exact ⟨ret_bool (by rw [HT.out]), rfl⟩

theorem fits_first (c : Int) (g : Nat) (w : World) (hg : w.heap[g]? = some (.cells #[.bool true] 4 (0, 0))) :
    Calls Try.prog 52 #[.int .i32 c, .pointer (some ⟨g, 0, none⟩)] w fun e w' => e = .returned (.bool (smallZ c)) ∧ w.setCell ⟨g, 0, none⟩ (.bool false) = w' := by
  have hc := cell_of_one hg
  have hf := free_of_one hg
  clear hg
  go_enter Try.func52, Try.ntmps52
  go_wp2_with (go_at_call 53; refine (small_any _ _).mono ?_; rintro e w' ⟨rfl, rfl⟩)
  go_ret
  exact ⟨rfl, rfl⟩

theorem fits_rest (c : Int) (g : Nat) (w : World) (hg : w.heap[g]? = some (.cells #[.bool false] 4 (0, 0))) :
    Calls Try.prog 52 #[.int .i32 c, .pointer (some ⟨g, 0, none⟩)] w fun e w' => e = .returned (.bool (smallZ c || digitZ c || c == 45 || c == 95)) ∧ w = w' := by
  have hc := cell_of_one hg
  clear hg
  cases hs : smallZ c
  · cases hd : digitZ c
    · by_cases h45 : c = 45
      · subst h45
        go_enter Try.func52, Try.ntmps52
        go_wp2_with (first | (go_at_call 53; refine (small_any _ _).mono ?_; rintro e w' ⟨rfl, rfl⟩) | (go_at_call 54; refine (digit_any _ _).mono ?_; rintro e w' ⟨rfl, rfl⟩))
        go_ret
        exact ⟨rfl, rfl⟩
      · by_cases h95 : c = 95
        · subst h95
          go_enter Try.func52, Try.ntmps52
          go_wp2_with (first | (go_at_call 53; refine (small_any _ _).mono ?_; rintro e w' ⟨rfl, rfl⟩) | (go_at_call 54; refine (digit_any _ _).mono ?_; rintro e w' ⟨rfl, rfl⟩))
          go_ret
          exact ⟨rfl, rfl⟩
        · have e1 : (c == 45) = false := by simpa using h45
          have e2 : (c == 95) = false := by simpa using h95
          go_enter Try.func52, Try.ntmps52
          go_wp2_with (first | (go_at_call 53; refine (small_any _ _).mono ?_; rintro e w' ⟨rfl, rfl⟩) | (go_at_call 54; refine (digit_any _ _).mono ?_; rintro e w' ⟨rfl, rfl⟩))
          go_ret
          exact ⟨ret_bool (by simp [e1, e2]), rfl⟩
    · go_enter Try.func52, Try.ntmps52
      go_wp2_with (first | (go_at_call 53; refine (small_any _ _).mono ?_; rintro e w' ⟨rfl, rfl⟩) | (go_at_call 54; refine (digit_any _ _).mono ?_; rintro e w' ⟨rfl, rfl⟩))
      go_ret
      exact ⟨rfl, rfl⟩
  · go_enter Try.func52, Try.ntmps52
    go_wp2_with (first | (go_at_call 53; refine (small_any _ _).mono ?_; rintro e w' ⟨rfl, rfl⟩) | (go_at_call 54; refine (digit_any _ _).mono ?_; rintro e w' ⟨rfl, rfl⟩))
    go_ret
    exact ⟨rfl, rfl⟩

theorem made_any (w : World) :
    Calls Try.prog 34 #[] w fun e w' => e = .returned (.func (.func 52) #[] #[.pointer (some ⟨w.heap.size, 0, none⟩)]) ∧ w.alloc (.cells #[.bool true] 4) = w' := by
  go_enter Try.func34, Try.ntmps34
  go_wp2
  go_ret
  exact ⟨rfl, rfl⟩

theorem setCell_block {w : World} {g k : Nat} (v : Value) (h : k ≠ g) : (w.setCell ⟨g, 0, none⟩ v).heap[k]? = w.heap[k]? := Below.heap_setCell w ⟨g, 0, none⟩ v k h

set_option maxHeartbeats 4000000 in
set_option maxRecDepth 1000000 in
theorem name_mid (s : ByteArray) (w : World) (h0 : 0 < s.size) (h64 : s.size ≤ 64) :
    Calls Try.prog 16 #[.string s] w fun e w' => e = .returned (.bool (namesZ true (chars s))) ∧ Below w.heap.size w w' := by
  have e0 : ((s.size : Int) == 0) = false := beq_eq_false_iff_ne.2 (by omega)
  go_enter Try.func16, Try.ntmps16
  go_wp2_with (go_at_call 34; refine (made_any _).mono ?_; rintro e w' ⟨rfl, rfl⟩)
  go_loopw [] (fun wr => ∃ (pos fuel : Nat) (first : Bool), wr.heap[w.heap.size + 1]? = some (.stringIter s pos) ∧ wr.heap[w.heap.size]? = some (.cells #[.bool first] 4 (0, 0)) ∧ Below w.heap.size w wr ∧ namesZ first (charsFrom s fuel pos) = namesZ true (chars s) ∧ s.size ≤ pos + fuel) (fun wr => s.size - wr.iterPos (w.heap.size + 1))
  case atStart =>
    refine ⟨0, s.size, true, ?_, ?_, below_iter ((Below.refl _ w).alloc (Nat.le_refl _) _) (by simp) s 0, rfl, by omega⟩
    · have := World.iter_heap (w.alloc (.cells #[.bool true] 4)) s 0
      simpa using this
    · have := Below.heap_alloc (w.alloc (.cells #[.bool true] 4)) (.stringIter s 0) w.heap.size (by simp)
      exact this.trans (heap_alloc_new w _)
  case round =>
    obtain ⟨pos, fuel, first, hit, hfst, hbw, hnm, hfu⟩ := hrel
    have hsz : w.heap.size + 1 < wr.heap.size := (Array.getElem?_eq_some_iff.1 hit).1
    by_cases hp : pos < s.size
    · have hnx : ∀ ty, (Instr.next (.pointer (some ⟨w.heap.size + 1, 0, none⟩)) true ty).run Try.prog wr = _ := fun ty => Lib.run_next_any_at wr (w.heap.size + 1) s pos ty hit hp
      have hwd := Lib.decode_width_pos s pos hp
      have hit3 := Lib.iterAt_heap wr (w.heap.size + 1) s pos (pos + (Utf8.decode s pos).2) hit
      have hbw3 := Lib.below_iterAt hbw (k := w.heap.size + 1) (by omega) s (pos + (Utf8.decode s pos).2)
      have hfst3 := (Lib.iterAt_other wr (w.heap.size + 1) w.heap.size s (pos + (Utf8.decode s pos).2) (by omega)).trans hfst
      obtain ⟨f, rfl⟩ : ∃ f, fuel = f + 1 := ⟨fuel - 1, by omega⟩
      simp only [charsFrom, if_pos hp] at hnm
      generalize Utf8.decode s pos = dc at *
      obtain ⟨c, d⟩ := dc
      simp only at *
      generalize wr.iterAt (w.heap.size + 1) s (pos + d) = W at *
      have hm : s.size - W.iterPos (w.heap.size + 1) < s.size - wr.iterPos (w.heap.size + 1) := by
        simp only [World.iterPos, hit3, hit]
        omega
      have hit4 := (setCell_block (w := W) (g := w.heap.size) (k := w.heap.size + 1) (.bool false) (by omega)).trans hit3
      clear hbw hit hfst
      simp only [namesZ] at hnm
      have HN : Hid ((fitZ first c && namesZ false (charsFrom s f (pos + d))) = namesZ true (chars s)) := hnm
      clear hnm
      cases first
      · cases hb : (smallZ c || digitZ c || (c : Int) == 45 || (c : Int) == 95)
        · have HR : Hid (namesZ true (chars s) = false) := by
            have := HN.out
            simp only [fitZ, Bool.false_eq_true, if_false, hb, Bool.false_and] at this
            exact this.symm
          go_wp2_with (go_at_call 52; refine (fits_rest _ _ _ hfst3).mono ?_; rintro e w' ⟨rfl, rfl⟩)
          go_ret
          exact ⟨ret_bool HR.out.symm, hbw3⟩
        · go_wp2_with (go_at_call 52; refine (fits_rest _ _ _ hfst3).mono ?_; rintro e w' ⟨rfl, rfl⟩)
          go_roundw
          case rel =>
            have := HN.out
            simp only [fitZ, Bool.false_eq_true, if_false, hb, Bool.true_and] at this
            exact ⟨pos + d, f, false, hit3, hfst3, hbw3, this, by omega⟩
          case measure => exact hm
      · cases hb : smallZ c
        · have HR : Hid (namesZ true (chars s) = false) := by
            have := HN.out
            simp only [fitZ, if_true, hb, Bool.false_and] at this
            exact this.symm
          go_wp2_with (go_at_call 52; refine (fits_first _ _ _ hfst3).mono ?_; rintro e w' ⟨rfl, rfl⟩)
          go_ret
          exact ⟨ret_bool HR.out.symm, hbw3.setCell (Nat.le_refl _) _⟩
        · go_wp2_with (go_at_call 52; refine (fits_first _ _ _ hfst3).mono ?_; rintro e w' ⟨rfl, rfl⟩)
          go_roundw
          case rel =>
            have := HN.out
            simp only [fitZ, if_true, hb, Bool.true_and] at this
            exact ⟨pos + d, f, false, hit4, one_setCell hfst3, hbw3.setCell (Nat.le_refl _) _, this, by omega⟩
          case measure =>
            simp only [World.iterPos, hit4, hit3] at hm ⊢
            exact hm
    · have hnx : ∀ ty, (Instr.next (.pointer (some ⟨w.heap.size + 1, 0, none⟩)) true ty).run Try.prog wr = _ := fun ty => Lib.run_next_end_at wr (w.heap.size + 1) s pos ty hit hp
      have HR : Hid (namesZ true (chars s) = true) := by
        rw [charsFrom_end s fuel pos hp] at hnm
        exact hnm.symm
      go_wp2
      go_ret
      exact ⟨ret_bool HR.out.symm, hbw⟩

theorem name_any (s : ByteArray) (w : World) (hs : s.size ≤ maxLen) :
    Calls Try.prog 16 #[.string s] w fun e w' => e = .returned (.bool (nameZ s)) ∧ Below w.heap.size w w' := by
  unfold maxLen at hs
  by_cases h0 : s.size = 0
  · have HR : Hid (nameZ s = false) := by show nameZ s = false; simp [nameZ, h0]
    have e0 : ((s.size : Int) == 0) = true := beq_iff_eq.2 (by omega)
    clear h0
    go_enter Try.func16, Try.ntmps16
    go_wp2
    go_ret
    exact ⟨ret_bool HR.out.symm, Below.refl _ _⟩
  · by_cases h64 : 64 < s.size
    · have HR : Hid (nameZ s = false) := by show nameZ s = false; simp [nameZ, h64]
      have e0 : ((s.size : Int) == 0) = false := beq_eq_false_iff_ne.2 (by omega)
      go_enter Try.func16, Try.ntmps16
      go_wp2
      go_ret
      exact ⟨ret_bool HR.out.symm, Below.refl _ _⟩
    · have e : nameZ s = namesZ true (chars s) := by
        rw [nameZ, if_neg (by omega)]
      rw [e]
      exact name_mid s w (by omega) (by omega)


end Go.Proofs.Ytecbgleidohjpab.N
