/- A text as a name, character by character: what the writer writes is what the document's loop gathers. -/
import Derived.Test.YtbfgnfcecfjlnaaGreatDoorAlike
namespace Go.Proofs.YtbfgnfcecfjlnaaGreatDoor
open Go.RowKit

theorem decodeN_width (n b0 b1 b2 b3 : Nat) (hn : 1 ≤ n) : (Lib.decodeN n b0 b1 b2 b3).2 ≤ n := by
  unfold Lib.decodeN
  repeat' split
  all_goals (simp only; omega)

theorem escFrom_tail (s : ByteArray) : ∀ (f pos : Nat), 2 ≤ pos → escFrom s f pos = (charsFrom s f pos).flatMap partL
  | 0, _, _ => rfl
  | f + 1, pos, h => by
    rw [escFrom, charsFrom]
    split
    · rw [List.flatMap_cons, escFrom_tail s f _ (by omega)]
      unfold escAt
      have e1 : (pos == 0) = false := by simp; omega
      have e2 : (pos == 1) = false := by simp; omega
      rw [e1, e2]
      simp
    · rfl
theorem dash_first (s : ByteArray) : ((Utf8.decode s 0).1 = 45 ∧ (Utf8.decode s 0).2 = 1 ∧ (s.get! 0).toNat = 45) ∨ ((Utf8.decode s 0).1 ≠ 45 ∧ (s.get! 0).toNat ≠ 45) := by
  rw [Lib.decode_at]
  generalize (s.get! 0).toNat = b0
  generalize (s.get! (0 + 1)).toNat = b1
  generalize (s.get! (0 + 2)).toNat = b2
  generalize (s.get! (0 + 3)).toNat = b3
  by_cases h : b0 = 45
  · left
    subst h
    exact ⟨rfl, rfl, rfl⟩
  · right
    refine ⟨?_, h⟩
    unfold Lib.decodeN
    repeat' split
    all_goals (simp only; omega)
theorem get_eq (s : ByteArray) : (s.get! 0 == 45) = decide ((s.get! 0).toNat = 45) := by
  rw [Bool.eq_iff_iff]
  simp only [beq_iff_eq, decide_eq_true_eq]
  constructor
  · intro h; rw [h]; rfl
  · intro h; exact UInt8.toNat_inj.1 h
theorem one_dash {s : ByteArray} (h1 : s.size = 1) (h2 : (s.get! 0).toNat = 45) : s = ⟨#[45]⟩ := by
  cases s with
  | mk d =>
    have h1' : d.size = 1 := h1
    have h3 : d[0]! = 45 := UInt8.toNat_inj.1 h2
    apply ByteArray.ext
    apply Array.ext
    · simpa using h1'
    · intro i h4 h5
      have h4' : i < d.size := h4
      have hi : i = 0 := by omega
      subst hi
      rw [getElem!_pos d 0 h4'] at h3
      simpa using h3

def refAt (len : Nat) (first : Int) (i : Nat) (c : Int) : List Int := if digitZ c && (i == 0 || (i == 1 && first == 45)) then numL c else if c = 45 ∧ len = 1 then slashL 45 else partL c
def refFrom (len : Nat) (first : Int) : List Int → Nat → List Int
  | [], _ => []
  | c :: r, i => refAt len first i c ++ refFrom len first r (i + 1)
def escR (l : List Int) : List Int := refFrom l.length (hd l 0) l 0
theorem refFrom_tail (len : Nat) (first : Int) (hl : len ≠ 1) : ∀ (r : List Int) (i : Nat), 2 ≤ i → refFrom len first r i = r.flatMap partL
  | [], _, _ => rfl
  | c :: r, i, h => by
    rw [refFrom, refFrom_tail len first hl r (i + 1) (by omega), List.flatMap_cons]
    unfold refAt
    have e1 : (i == 0) = false := by simp; omega
    have e2 : (i == 1) = false := by simp; omega
    rw [e1, e2]
    simp [hl]
theorem refFrom_app (len : Nat) (first : Int) : ∀ (a b : List Int) (i : Nat), refFrom len first (a ++ b) i = refFrom len first a i ++ refFrom len first b (i + a.length)
  | [], b, i => by simp [refFrom]
  | c :: a, b, i => by
    rw [List.cons_append, refFrom, refFrom, refFrom_app len first a b (i + 1), List.append_assoc, List.length_cons]
    congr 3
    omega
theorem escL_eq (s : ByteArray) : escL s = escR (chars s) := by
  unfold escL
  split
  · rename_i h
    subst h
    decide +kernel
  · rename_i hne
    unfold chars
    cases hsz : s.size with
    | zero => rfl
    | succ n =>
      have hp : 0 < s.size := by omega
      have hw := Lib.decode_width_pos s 0 hp
      have hdf := dash_first s
      rw [escFrom, charsFrom, if_pos hp, if_pos hp]
      simp only [Nat.zero_add]
      have ha : escAt s 0 (Utf8.decode s 0).1 = if digitZ (Utf8.decode s 0).1 then numL (Utf8.decode s 0).1 else partL (Utf8.decode s 0).1 := by
        unfold escAt
        simp
      rw [ha]
      by_cases h1 : (Utf8.decode s 0).2 < s.size
      · obtain ⟨m, rfl⟩ : ∃ m, n = m + 1 := ⟨n - 1, by omega⟩
        rw [escFrom, charsFrom, if_pos h1, if_pos h1]
        have hw1 := Lib.decode_width_pos s _ h1
        rw [escFrom_tail s m _ (by omega)]
        have hb : escAt s (Utf8.decode s 0).2 (Utf8.decode s (Utf8.decode s 0).2).1 = if ((Utf8.decode s 0).1 : Int) = 45 ∧ digitZ (Utf8.decode s (Utf8.decode s 0).2).1 = true then numL (Utf8.decode s (Utf8.decode s 0).2).1 else partL (Utf8.decode s (Utf8.decode s 0).2).1 := by
          unfold escAt
          have e1 : ((Utf8.decode s 0).2 == 0) = false := by simp; omega
          rw [e1, get_eq, Bool.false_or]
          rcases hdf with ⟨a1, a2, a3⟩ | ⟨a1, a3⟩
          · rw [a1, a2, a3]
            simp
          · have n1 : ¬ ((Utf8.decode s 0).1 : Int) = 45 := by omega
            simp [a3, n1]
        rw [hb]
        generalize ((Utf8.decode s 0).1 : Int) = c at *
        generalize ((Utf8.decode s (Utf8.decode s 0).2).1 : Int) = d at *
        generalize charsFrom s m _ = r at *
        unfold escR
        have hlen : (c :: d :: r).length ≠ 1 := by simp
        rw [refFrom, refFrom, refFrom_tail _ _ hlen r _ (by omega)]
        have k1 : refAt (c :: d :: r).length (hd (c :: d :: r) 0) 0 c = if digitZ c then numL c else partL c := by
          unfold refAt
          simp
        have k2 : refAt (c :: d :: r).length (hd (c :: d :: r) 0) (0 + 1) d = if c = 45 ∧ digitZ d = true then numL d else partL d := by
          unfold refAt
          simp [hd]
          by_cases h45 : c = 45 <;> by_cases hdg : digitZ d = true <;> simp [h45, hdg]
        rw [k1, k2]
      · rw [escFrom_end _ _ _ h1, charsFrom_end _ _ _ h1, List.append_nil]
        have hn45 : ¬ ((Utf8.decode s 0).1 : Int) = 45 := by
          intro e
          rcases hdf with ⟨a1, a2, a3⟩ | ⟨a1, a3⟩
          · exact hne (one_dash (by omega) a3)
          · omega
        generalize ((Utf8.decode s 0).1 : Int) = c at *
        unfold escR refFrom refAt
        simp [hn45, refFrom]

end Go.Proofs.YtbfgnfcecfjlnaaGreatDoor
