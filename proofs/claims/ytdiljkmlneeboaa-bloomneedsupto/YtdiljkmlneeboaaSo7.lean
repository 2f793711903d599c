/- slices.Sort of keys: those that are equal to the pivot, ahead. -/
import Derived.Test.YtdiljkmlneeboaaSo4
namespace Go.Proofs.Ytdiljkmlneeboaa
open Go.RowKit Go.Sort
set_option maxRecDepth 100000

theorem scanUp_go {p : Int → Bool} {d : Array Int} {j i : Nat} (h : i ≤ j) (hp : p d[i]! = true) : scanUp p d j i = scanUp p d j (i + 1) := by
  rw [scanUp, if_pos (by rw [Bool.and_eq_true]; exact ⟨decide_eq_true h, hp⟩)]
theorem scanUp_stop {p : Int → Bool} {d : Array Int} {j i : Nat} (h : ¬ (i ≤ j ∧ p d[i]! = true)) : scanUp p d j i = i := by
  rw [scanUp, if_neg]
  intro hh
  rw [Bool.and_eq_true] at hh
  exact h ⟨of_decide_eq_true hh.1, hh.2⟩
theorem scanDown_go {p : Int → Bool} {d : Array Int} {j i : Nat} (h : i ≤ j + 1) (hp : p d[j + 1]! = true) : scanDown p d i (j + 1) = scanDown p d i j := by
  rw [scanDown, if_pos (by rw [Bool.and_eq_true]; exact ⟨decide_eq_true h, hp⟩)]
theorem scanDown_stop {p : Int → Bool} {d : Array Int} {j i : Nat} (h : ¬ (i ≤ j ∧ p d[j]! = true)) : scanDown p d i j = j := by
  cases j with
  | zero => rfl
  | succ j =>
    rw [scanDown, if_neg]
    intro hh
    rw [Bool.and_eq_true] at hh
    exact h ⟨of_decide_eq_true hh.1, hh.2⟩
theorem scanUp_le {p : Int → Bool} {d : Array Int} {j : Nat} : ∀ (n i : Nat), j + 1 - i ≤ n → i ≤ scanUp p d j i ∧ (i ≤ j + 1 → scanUp p d j i ≤ j + 1)
  | n, i, hn => by
    by_cases h : i ≤ j ∧ p d[i]! = true
    · rw [scanUp_go h.1 h.2]
      match n, hn with
      | 0, hn => omega
      | n + 1, hn =>
        have := scanUp_le (p := p) (d := d) (j := j) n (i + 1) (by omega)
        exact ⟨by omega, fun _ => this.2 (by omega)⟩
    · rw [scanUp_stop h]
      exact ⟨Nat.le_refl _, id⟩
theorem scanDown_le {p : Int → Bool} {d : Array Int} {i : Nat} : ∀ (j : Nat), scanDown p d i j ≤ j ∧ (i ≤ j + 1 → 1 ≤ i → i ≤ scanDown p d i j + 1)
  | 0 => ⟨Nat.le_refl _, fun h _ => by simpa [scanDown] using h⟩
  | j + 1 => by
    by_cases h : i ≤ j + 1 ∧ p d[j + 1]! = true
    · rw [scanDown_go h.1 h.2]
      have := scanDown_le (p := p) (d := d) (i := i) j
      exact ⟨by omega, fun _ h1 => this.2 (by omega) h1⟩
    · rw [scanDown_stop h]
      exact ⟨Nat.le_refl _, fun h _ => h⟩
end Go.Proofs.Ytdiljkmlneeboaa
