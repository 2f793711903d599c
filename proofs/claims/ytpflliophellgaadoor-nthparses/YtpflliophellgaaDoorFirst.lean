/- nth.First, nth.Print at what the examples ask, and the document's examples. -/
import Derived.Test.YtpflliophellgaaDoorFits
import Derived.WalkSmall
import Derived.WalkMore
import Derived.Laws.IdiomStrings
import Derived.WalkSpells
namespace Go.Proofs.YtpflliophellgaaDoor
open Go.RowKit

def leastZ (a b : Int) : Int := if 0 < a ∧ b < 1 then a - (-b) % a else if b < 1 then 0 else if a < 0 then (b - 1) % a + 1 else b
def firstZ (a b : Int) : Int := if 1000000 < leastZ a b then 0 else leastZ a b

set_option maxHeartbeats 400000 in
theorem least_any (a b : Int) (a0 : -9223372036854775808 ≤ a) (a1 : a ≤ 9223372036854775807) (b0 : -9223372036854775808 ≤ b) (b1 : b ≤ 9223372036854775807) (w : World) :
    Calls Tryd.prog 30 #[.int .i64 a, .int .i64 b] w fun e w' => e = .returned (.int .i64 (leastZ a b)) ∧ w = w' := by
  by_cases hb : b < 1
  · by_cases hp : 0 < a
    · have e1 : leastZ a b = a - (-b) % a := by simp [leastZ, hb, hp]
      rw [e1]
      clear e1
      have m0 := Int.emod_nonneg (-b) (show a ≠ 0 by omega)
      have m1 := Int.emod_lt_of_pos (-b) hp
      have HQ : Hid (∃ c, c = -b ∧ 0 ≤ c ∧ c ≤ 9223372036854775808) := ⟨-b, rfl, by omega, by omega⟩
      have hs := fun w => size_pos a (by omega) a1 w
      have hq : ∀ w, Calls Tryd.prog 25 #[.int .i64 b] w fun e w' => e = .returned (.int .u64 (-b)) ∧ w = w' := by
        intro w
        by_cases h : b < 0
        · exact size_neg b b0 h w
        · have : b = 0 := by omega
          subst this
          exact size_pos 0 (by omega) (by omega) w
      obtain ⟨c, hc, c0, c1⟩ := HQ.out
      rw [← hc] at m0 m1 hq ⊢
      clear hc HQ
      go_enter Tryd.func30, Tryd.ntmps30
      go_wp2_with (go_at_call 25; fail)
      refine (hq _).mono ?_
      rintro e w' ⟨rfl, rfl⟩
      go_wp2_with (go_at_call 25; fail)
      refine (hs _).mono ?_
      rintro e w' ⟨rfl, rfl⟩
      go_wp2
      go_ret
      exact ⟨rfl, rfl⟩
    · have e1 : leastZ a b = 0 := by simp [leastZ, hb, hp]
      rw [e1]
      clear e1
      go_enter Tryd.func30, Tryd.ntmps30
      go_wp2
      go_ret
      exact ⟨rfl, rfl⟩
  · by_cases hm : a < 0
    · have e1 : leastZ a b = (b - 1) % a + 1 := by simp [leastZ, hb, hm]
      rw [e1]
      clear e1
      have m0 := Int.emod_nonneg (b - 1) (show a ≠ 0 by omega)
      have m1 : (b - 1) % a ≤ b - 1 := by
        rw [← Int.emod_neg]
        have h1 := Int.emod_add_mul_ediv (b - 1) (-a)
        have h2 := Int.mul_nonneg (show 0 ≤ -a by omega) (Int.ediv_nonneg (show 0 ≤ b - 1 by omega) (show 0 ≤ -a by omega))
        omega
      have hs := fun w => size_neg a a0 hm w
      go_enter Tryd.func30, Tryd.ntmps30
      go_wp2_with (go_at_call 25; fail)
      refine (hs _).mono ?_
      rintro e w' ⟨rfl, rfl⟩
      go_wp2
      go_ret
      exact ⟨rfl, rfl⟩
    · have e1 : leastZ a b = b := by
        unfold leastZ
        rw [if_neg (by omega), if_neg (by omega), if_neg (by omega)]
      rw [e1]
      clear e1
      go_enter Tryd.func30, Tryd.ntmps30
      go_wp2
      all_goals
        go_ret
        exact ⟨rfl, rfl⟩

set_option maxHeartbeats 400000 in
theorem first_any (a b : Int) (a0 : -9223372036854775808 ≤ a) (a1 : a ≤ 9223372036854775807) (b0 : -9223372036854775808 ≤ b) (b1 : b ≤ 9223372036854775807) (w : World) :
    Calls Tryd.prog 15 #[.int .i64 a, .int .i64 b] w fun e w' => e = .returned (.int .i64 (firstZ a b)) ∧ w = w' := by
  have hl := fun w => least_any a b a0 a1 b0 b1 w
  unfold firstZ
  generalize leastZ a b = z at *
  by_cases hz : 1000000 < z
  · rw [if_pos hz]
    go_enter Tryd.func15, Tryd.ntmps15
    go_wp2_with (go_at_call 30; fail)
    refine (hl _).mono ?_
    rintro e w' ⟨rfl, rfl⟩
    go_wp2
    go_ret
    exact ⟨rfl, rfl⟩
  · rw [if_neg hz]
    go_enter Tryd.func15, Tryd.ntmps15
    go_wp2_with (go_at_call 30; fail)
    refine (hl _).mono ?_
    rintro e w' ⟨rfl, rfl⟩
    go_wp2
    go_ret
    exact ⟨rfl, rfl⟩

end Go.Proofs.YtpflliophellgaaDoor
