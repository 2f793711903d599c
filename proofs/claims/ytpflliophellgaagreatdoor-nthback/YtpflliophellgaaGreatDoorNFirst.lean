/- nth.Fits and the document's Fits, in plain numbers. nth.First, nth.Print at what the examples ask, and the document's examples. -/
import Derived.Test.YtpflliophellgaaGreatDoorRows
import Derived.WalkKit
import Derived.WalkLawsBesides
import Derived.IntWalk
import Derived.WalkSmall
import Derived.WalkMore
import Derived.Laws.IdiomStrings
import Derived.WalkSpells
namespace Go.Proofs.YtpflliophellgaaGreatDoor.N
open Go.RowKit

theorem hid_mk {p : Prop} (h : p) : Hid p := h

set_option maxHeartbeats 400000 in
theorem size_neg (x : Int) (h0 : -9223372036854775808 ≤ x) (hx : x < 0) (w : World) :
    Calls Tryz.prog 34 #[.int .i64 x] w fun e w' => e = .returned (.int .u64 (-x)) ∧ w = w' := by
  go_enter Tryz.func34, Tryz.ntmps34
  go_wp2
  go_ret
  refine ⟨congrArg (fun z => Ending.returned (.int .u64 z)) (?_ : (_ : Int) = _), rfl⟩
  omega
set_option maxHeartbeats 400000 in
theorem size_pos (x : Int) (hx : 0 ≤ x) (h1 : x ≤ 9223372036854775807) (w : World) :
    Calls Tryz.prog 34 #[.int .i64 x] w fun e w' => e = .returned (.int .u64 x) ∧ w = w' := by
  go_enter Tryz.func34, Tryz.ntmps34
  go_wp2
  go_ret
  exact ⟨rfl, rfl⟩

set_option maxHeartbeats 400000 in
theorem above_any (n o : Int) (h0 : 1 ≤ n) (h1 : n ≤ 9223372036854775807) (h2 : -9223372036854775808 ≤ o) (h3 : o ≤ n) (w : World) :
    Calls Tryz.prog 33 #[.int .i64 n, .int .i64 o] w fun e w' => e = .returned (.int .u64 (n - o)) ∧ w = w' := by
  by_cases hx : o < 0
  · have hs := fun w => size_neg o h2 hx w
    go_enter Tryz.func33, Tryz.ntmps33
    go_wp2_with (go_at_call 34; fail)
    refine (hs _).mono ?_
    rintro e w' ⟨rfl, rfl⟩
    go_wp2
    go_ret
    exact ⟨by congr 2, rfl⟩
  · go_enter Tryz.func33, Tryz.ntmps33
    go_wp2
    go_ret
    exact ⟨rfl, rfl⟩

def fitsB (a b n : Int) : Bool :=
  if n < 1 then false else if 0 < a then decide (b ≤ n) && decide ((n - b) % a = 0) else if a < 0 then decide (n ≤ b) && decide ((b - n) % a = 0) else decide (n = b)

set_option maxHeartbeats 400000 in
theorem fits_any (a b n : Int) (a0 : -9223372036854775808 ≤ a) (a1 : a ≤ 9223372036854775807) (b0 : -9223372036854775808 ≤ b) (b1 : b ≤ 9223372036854775807) (n0 : -9223372036854775808 ≤ n) (n1 : n ≤ 9223372036854775807) (w : World) :
    Calls Tryz.prog 10 #[.int .i64 a, .int .i64 b, .int .i64 n] w fun e w' => e = .returned (.bool (fitsB a b n)) ∧ w = w' := by
  by_cases hn : n < 1
  · have e1 : fitsB a b n = false := by simp [fitsB, hn]
    rw [e1]
    clear e1
    go_enter Tryz.func10, Tryz.ntmps10
    go_wp2
    go_ret
    exact ⟨rfl, rfl⟩
  by_cases hp : 0 < a
  · by_cases hb : b ≤ n
    · have e1 : fitsB a b n = decide ((n - b) % a = 0) := by simp [fitsB, hn, hp, hb]
      rw [e1]
      clear e1
      have hs := fun w => size_pos a (by omega) a1 w
      have ha := fun w => above_any n b (by omega) n1 b0 hb w
      go_enter Tryz.func10, Tryz.ntmps10
      go_wp2_with (go_at_call 33; fail)
      refine (ha _).mono ?_
      rintro e w' ⟨rfl, rfl⟩
      go_wp2_with (go_at_call 34; fail)
      refine (hs _).mono ?_
      rintro e w' ⟨rfl, rfl⟩
      go_wp2
      go_ret
      exact ⟨rfl, rfl⟩
    · have e1 : fitsB a b n = false := by simp [fitsB, hb, hp]
      rw [e1]
      clear e1
      go_enter Tryz.func10, Tryz.ntmps10
      go_wp2
      go_ret
      exact ⟨rfl, rfl⟩
  by_cases hm : a < 0
  · by_cases hb : n ≤ b
    · have e1 : fitsB a b n = decide ((b - n) % a = 0) := by simp [fitsB, hn, hp, hm, hb]
      rw [e1]
      clear e1
      have hs := fun w => size_neg a a0 hm w
      have ha := fun w => above_any b n (by omega) b1 n0 hb w
      go_enter Tryz.func10, Tryz.ntmps10
      go_wp2_with (go_at_call 33; fail)
      refine (ha _).mono ?_
      rintro e w' ⟨rfl, rfl⟩
      go_wp2_with (go_at_call 34; fail)
      refine (hs _).mono ?_
      rintro e w' ⟨rfl, rfl⟩
      go_wp2
      go_ret
      exact ⟨rfl, rfl⟩
    · have e1 : fitsB a b n = false := by simp [fitsB, hn, hp, hm, hb]
      rw [e1]
      clear e1
      go_enter Tryz.func10, Tryz.ntmps10
      go_wp2
      go_ret
      exact ⟨rfl, rfl⟩
  · have e1 : fitsB a b n = decide (n = b) := by simp [fitsB, hn, hp, hm]
    rw [e1]
    clear e1
    go_enter Tryz.func10, Tryz.ntmps10
    go_wp2
    go_ret
    exact ⟨rfl, rfl⟩

end Go.Proofs.YtpflliophellgaaGreatDoor.N
namespace Go.Proofs.YtpflliophellgaaGreatDoor.N
open Go.RowKit

def leastZ (a b : Int) : Int := if 0 < a ∧ b < 1 then a - (-b) % a else if b < 1 then 0 else if a < 0 then (b - 1) % a + 1 else b
def firstZ (a b : Int) : Int := if 1000000 < leastZ a b then 0 else leastZ a b

set_option maxHeartbeats 400000 in
theorem least_any (a b : Int) (a0 : -9223372036854775808 ≤ a) (a1 : a ≤ 9223372036854775807) (b0 : -9223372036854775808 ≤ b) (b1 : b ≤ 9223372036854775807) (w : World) :
    Calls Tryz.prog 35 #[.int .i64 a, .int .i64 b] w fun e w' => e = .returned (.int .i64 (leastZ a b)) ∧ w = w' := by
  by_cases hb : b < 1
  · by_cases hp : 0 < a
    · have e1 : leastZ a b = a - (-b) % a := by simp [leastZ, hb, hp]
      rw [e1]
      clear e1
      have m0 := Int.emod_nonneg (-b) (show a ≠ 0 by omega)
      have m1 := Int.emod_lt_of_pos (-b) hp
      have HQ : Hid (∃ c, c = -b ∧ 0 ≤ c ∧ c ≤ 9223372036854775808) := ⟨-b, rfl, by omega, by omega⟩
      have hs := fun w => size_pos a (by omega) a1 w
      have hq : ∀ w, Calls Tryz.prog 34 #[.int .i64 b] w fun e w' => e = .returned (.int .u64 (-b)) ∧ w = w' := by
        intro w
        by_cases h : b < 0
        · exact size_neg b b0 h w
        · have : b = 0 := by omega
          subst this
          exact size_pos 0 (by omega) (by omega) w
      obtain ⟨c, hc, c0, c1⟩ := HQ.out
      rw [← hc] at m0 m1 hq ⊢
      clear hc HQ
      go_enter Tryz.func35, Tryz.ntmps35
      go_wp2_with (go_at_call 34; fail)
      refine (hq _).mono ?_
      rintro e w' ⟨rfl, rfl⟩
      go_wp2_with (go_at_call 34; fail)
      refine (hs _).mono ?_
      rintro e w' ⟨rfl, rfl⟩
      go_wp2
      go_ret
      exact ⟨rfl, rfl⟩
    · have e1 : leastZ a b = 0 := by simp [leastZ, hb, hp]
      rw [e1]
      clear e1
      go_enter Tryz.func35, Tryz.ntmps35
      go_wp2
      go_ret
      exact ⟨rfl, rfl⟩
  · by_cases hm : a < 0
    · have e1 : leastZ a b = (b - 1) % a + 1 := by simp [leastZ, hb, hm]
      rw [e1]
      clear e1
      have m0 := Int.emod_nonneg (b - 1) (show a ≠ 0 by omega)
      have m1 : (b - 1) % a ≤ b - 1 := by
        rw [← Int.emod_neg]
        have h1 := Int.emod_add_mul_ediv (b - 1) (-a)
        have h2 := Int.mul_nonneg (show 0 ≤ -a by omega) (Int.ediv_nonneg (show 0 ≤ b - 1 by omega) (show 0 ≤ -a by omega))
        omega
      have hs := fun w => size_neg a a0 hm w
      go_enter Tryz.func35, Tryz.ntmps35
      go_wp2_with (go_at_call 34; fail)
      refine (hs _).mono ?_
      rintro e w' ⟨rfl, rfl⟩
      go_wp2
      go_ret
      exact ⟨rfl, rfl⟩
    · have e1 : leastZ a b = b := by
        unfold leastZ
        rw [if_neg (by omega), if_neg (by omega), if_neg (by omega)]
      rw [e1]
      clear e1
      go_enter Tryz.func35, Tryz.ntmps35
      go_wp2
      all_goals
        go_ret
        exact ⟨rfl, rfl⟩

set_option maxHeartbeats 400000 in
theorem first_any (a b : Int) (a0 : -9223372036854775808 ≤ a) (a1 : a ≤ 9223372036854775807) (b0 : -9223372036854775808 ≤ b) (b1 : b ≤ 9223372036854775807) (w : World) :
    Calls Tryz.prog 11 #[.int .i64 a, .int .i64 b] w fun e w' => e = .returned (.int .i64 (firstZ a b)) ∧ w = w' := by
  have hl := fun w => least_any a b a0 a1 b0 b1 w
  unfold firstZ
  generalize leastZ a b = z at *
  by_cases hz : 1000000 < z
  · rw [if_pos hz]
    go_enter Tryz.func11, Tryz.ntmps11
    go_wp2_with (go_at_call 35; fail)
    refine (hl _).mono ?_
    rintro e w' ⟨rfl, rfl⟩
    go_wp2
    go_ret
    exact ⟨rfl, rfl⟩
  · rw [if_neg hz]
    go_enter Tryz.func11, Tryz.ntmps11
    go_wp2_with (go_at_call 35; fail)
    refine (hl _).mono ?_
    rintro e w' ⟨rfl, rfl⟩
    go_wp2
    go_ret
    exact ⟨rfl, rfl⟩

end Go.Proofs.YtpflliophellgaaGreatDoor.N
