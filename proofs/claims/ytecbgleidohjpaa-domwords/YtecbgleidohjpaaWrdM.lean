/- DomWords: what stands between blanks, by bytes. -/
import Derived.Test.YtecbgleidohjpaaLivN
import Derived.Lib.FieldsP
import Derived.Lib.MapLaws
namespace Go.Proofs.Ytecbgleidohjpaa.N
open Go.RowKit
set_option maxRecDepth 100000

def blankN (x : Nat) : Bool := x == 32 || x == 9 || x == 10
/-- One byte on: where the word began that is open, and the words that are whole. -/
def stepB (s : ByteArray) (n : Nat) (c : Option Nat × List (Nat × Nat)) : Option Nat × List (Nat × Nat) :=
  if blankN (s.get! n).toNat = true then (none, match c.1 with
    | some a => c.2 ++ [(a, n)]
    | none => c.2)
  else (some (c.1.getD n), c.2)
def runB (s : ByteArray) : Nat → Option Nat × List (Nat × Nat)
  | 0 => (none, [])
  | n + 1 => stepB s n (runB s n)
theorem runB_lt (s : ByteArray) : ∀ n, (∀ a, (runB s n).1 = some a → a < n) ∧ (runB s n).2.length ≤ n
  | 0 => ⟨(fun a h => by cases h), Nat.le_refl _⟩
  | n + 1 => by
    obtain ⟨h1, h2⟩ := runB_lt s n
    rw [runB, stepB]
    split
    · refine ⟨(fun a h => by cases h), ?_⟩
      dsimp only
      split
      · rw [List.length_append]; simp; omega
      · omega
    · refine ⟨fun a h => ?_, by dsimp only; omega⟩
      dsimp only at h
      cases e : (runB s n).1 with
      | none => rw [e] at h; cases h; exact Nat.lt_succ_self _
      | some b =>
        rw [e] at h
        cases h
        have := h1 _ e
        exact Nat.lt_succ_of_lt this
theorem runB_skip (s : ByteArray) (pos : Nat) : ∀ k, 0 < k → (∀ j, j < k → blankN (s.get! (pos + j)).toNat = false) → runB s (pos + k) = (some ((runB s pos).1.getD pos), (runB s pos).2)
  | 0, h, _ => by omega
  | 1, _, h => by
    have := h 0 (by omega)
    rw [Nat.add_zero] at this
    rw [runB, stepB, this]
    simp
  | k + 2, _, h => by
    rw [show pos + (k + 2) = pos + (k + 1) + 1 by omega, runB, runB_skip s pos (k + 1) (by omega) (fun j hj => h j (by omega)), stepB]
    have := h (k + 1) (by omega)
    rw [this]
    simp
theorem blank_big {x : Nat} (h : 128 ≤ x) : blankN x = false := by
  simp only [blankN, Bool.or_eq_false_iff, beq_eq_false_iff_ne, ne_eq]
  omega
/-- A character on is so many bytes on, none a blank unless it is one. -/
theorem dec_step (s : ByteArray) (pos : Nat) (h : pos < s.size) : ((Utf8.decode s pos).2 = 1 ∧ blankN (Utf8.decode s pos).1 = blankN (s.get! pos).toNat) ∨ (1 ≤ (Utf8.decode s pos).2 ∧ pos + (Utf8.decode s pos).2 ≤ s.size ∧ blankN (Utf8.decode s pos).1 = false ∧ ∀ j, j < (Utf8.decode s pos).2 → blankN (s.get! (pos + j)).toNat = false) := by
  rw [Lib.decode_at]
  have hb : ∀ x : UInt8, x.toNat < 256 := fun x => x.toNat_lt
  rcases Lib.decodeN_shape (s.size - pos) (s.get! pos).toNat (s.get! (pos + 1)).toNat (s.get! (pos + 2)).toNat (s.get! (pos + 3)).toNat with ⟨_, e⟩ | ⟨h1, h2, h3, h4, e⟩ | ⟨h1, h2, h3, h4, h5, _, e⟩ | ⟨h1, h2, h3, h4, h5, h6, _, e⟩ | e
  · rw [e]
    exact .inl ⟨rfl, rfl⟩
  · rw [e]
    refine .inr ⟨by dsimp only; omega, by dsimp only; omega, blank_big h4, fun j hj => blank_big ?_⟩
    dsimp only at hj
    have : j = 0 ∨ j = 1 := by omega
    rcases this with rfl | rfl
    · rw [Nat.add_zero]; omega
    · omega
  · rw [e]
    refine .inr ⟨by dsimp only; omega, by dsimp only; omega, blank_big (by dsimp only; omega), fun j hj => blank_big ?_⟩
    dsimp only at hj
    have : j = 0 ∨ j = 1 ∨ j = 2 := by omega
    rcases this with rfl | rfl | rfl
    · rw [Nat.add_zero]; omega
    · omega
    · omega
  · rw [e]
    refine .inr ⟨by dsimp only; omega, by dsimp only; omega, blank_big (by dsimp only; omega), fun j hj => blank_big ?_⟩
    dsimp only at hj
    have : j = 0 ∨ j = 1 ∨ j = 2 ∨ j = 3 := by omega
    rcases this with rfl | rfl | rfl | rfl
    · rw [Nat.add_zero]; omega
    · omega
    · omega
    · omega
  · by_cases hlt : (s.get! pos).toNat < 128
    · have e2 : Lib.decodeN (s.size - pos) (s.get! pos).toNat (s.get! (pos + 1)).toNat (s.get! (pos + 2)).toNat (s.get! (pos + 3)).toNat = ((s.get! pos).toNat, 1) := by
        unfold Lib.decodeN
        rw [if_pos hlt]
      rw [e2]
      exact .inl ⟨rfl, rfl⟩
    · rw [e]
      refine .inl ⟨rfl, ?_⟩
      rw [blank_big (by omega : 128 ≤ (s.get! pos).toNat)]
      rfl
theorem spans_runB (s : ByteArray) : ∀ f pos, pos ≤ s.size → s.size ≤ pos + f → Lib.spansFromP blankN s f pos (runB s pos).1 (runB s pos).2 = ((runB s s.size).2, (runB s s.size).1)
  | 0, pos, h1, h2 => by
    obtain rfl : pos = s.size := by omega
    rfl
  | f + 1, pos, h1, h2 => by
    by_cases hlt : pos < s.size
    · unfold Lib.spansFromP
      rw [if_pos hlt]
      rcases dec_step s pos hlt with ⟨hw, hb⟩ | ⟨hw1, hw2, hb, hn⟩
      · rw [hw, hb]
        have ih := spans_runB s f (pos + 1) (by omega) (by omega)
        rw [runB, stepB] at ih
        cases hx : blankN (s.get! pos).toNat with
        | true =>
          rw [hx, if_pos rfl] at ih
          rw [if_pos rfl]
          cases e : (runB s pos).1 with
          | none => rw [e] at ih; exact ih
          | some a => rw [e] at ih; exact ih
        | false =>
          rw [hx, if_neg (by simp)] at ih
          rw [if_neg (by simp)]
          cases e : (runB s pos).1 with
          | none => rw [e] at ih; exact ih
          | some a => rw [e] at ih; exact ih
      · rw [hb, if_neg (by simp)]
        have ih := spans_runB s f (pos + (Utf8.decode s pos).2) hw2 (by omega)
        rw [runB_skip s pos _ hw1 hn] at ih
        cases e : (runB s pos).1 with
        | none => rw [e] at ih; exact ih
        | some a => rw [e] at ih; exact ih
    · obtain rfl : pos = s.size := by omega
      rw [Lib.spansFromP_end _ _ _ _ _ _ hlt]
def pieces (s : ByteArray) (l : List (Nat × Nat)) : List ByteArray := l.map fun x => s.extract x.1 x.2
/-- The words of a text. -/
def wordsL (s : ByteArray) : List ByteArray := pieces s (Lib.closeSpans s ((runB s s.size).2, (runB s s.size).1))
theorem words_eq (s : ByteArray) : Lib.goFieldsP blankN s = wordsL s := by
  unfold Lib.goFieldsP Lib.spansOfP wordsL pieces
  have := spans_runB s s.size 0 (Nat.zero_le _) (by omega)
  rw [show (runB s 0).1 = none from rfl, show (runB s 0).2 = [] from rfl] at this
  rw [this]
/-- The word that is open. -/
def openW (s : ByteArray) (n : Nat) : ByteArray := match (runB s n).1 with
  | some a => s.extract a n
  | none => ⟨#[]⟩

end Go.Proofs.Ytecbgleidohjpaa.N
