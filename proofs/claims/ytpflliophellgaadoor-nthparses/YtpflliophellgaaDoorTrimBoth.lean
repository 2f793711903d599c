/- Blanks may be left out at the left end first, or at the right. -/
import Derived.Test.YtpflliophellgaaDoorTrim
namespace Go.Proofs.YtpflliophellgaaDoor

theorem leftL_app : ∀ (a : List Int) (c : Int), leftL (a ++ [c]) = if leftL a = [] then leftL [c] else leftL a ++ [c]
  | [], c => by simp [leftL]
  | x :: a, c => by
    rw [List.cons_append, leftL, leftL]
    by_cases h : x = 32
    · rw [if_pos h, if_pos h]
      exact leftL_app a c
    · rw [if_neg h, if_neg h]
      simp
theorem rightL_cons (c : Int) (r : List Int) : rightL (c :: r) = if rightL r = [] then (if c = 32 then [] else [c]) else c :: rightL r := by
  unfold rightL
  rw [List.reverse_cons, leftL_app]
  by_cases h : leftL r.reverse = []
  · rw [if_pos h, h]
    simp only [List.reverse_nil, if_true]
    rw [leftL]
    split <;> simp [leftL]
  · rw [if_neg h, if_neg (by simpa using h)]
    simp
theorem trim_comm : ∀ l : List Int, leftL (rightL l) = rightL (leftL l)
  | [] => rfl
  | c :: r => by
    have ih := trim_comm r
    rw [rightL_cons]
    by_cases h : c = 32
    · have e : leftL (c :: r) = leftL r := by rw [leftL, if_pos h]
      rw [e, ← ih]
      by_cases hr : rightL r = []
      · rw [if_pos hr, if_pos h, hr]
      · rw [if_neg hr, leftL, if_pos h]
    · have e : leftL (c :: r) = c :: r := by rw [leftL, if_neg h]
      rw [e, rightL_cons]
      by_cases hr : rightL r = []
      · rw [if_pos hr, if_neg h, leftL, if_neg h]
      · rw [if_neg hr, leftL, if_neg h]

end Go.Proofs.YtpflliophellgaaDoor
