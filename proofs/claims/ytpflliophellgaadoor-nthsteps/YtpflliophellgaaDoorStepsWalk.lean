/- From one that fits the next one is A farther. -/
import Derived.Test.YtpflliophellgaaDoorLives
namespace Go.Proofs.YtpflliophellgaaDoor
open Go.RowKit

theorem fits_up {a b n : Int} (ha : 0 < a) (h : fitsB a b n = true) : 1 ≤ n ∧ b ≤ n ∧ (n - b) % a = 0 := by
  unfold fitsB at h
  by_cases h1 : n < 1
  · simp [h1] at h
  · rw [if_neg h1, if_pos ha] at h
    simp at h
    exact ⟨by omega, h.1, h.2⟩
theorem fits_mk {a b n : Int} (ha : 0 < a) (h1 : 1 ≤ n) (h2 : b ≤ n) : fitsB a b n = decide ((n - b) % a = 0) := by
  unfold fitsB
  rw [if_neg (by omega), if_pos ha]
  simp [h2]
theorem fits_between {a b n k : Int} (ha : 0 < a) (h : fitsB a b n = true) (h1 : n < k) (h2 : k < n + a) : fitsB a b k = false := by
  obtain ⟨p, q, r⟩ := fits_up ha h
  rw [fits_mk ha (by omega) (by omega)]
  have e : (k - b) % a = k - n := by
    have : k - b = (k - n) + (n - b) := by omega
    rw [this, Int.add_emod, r, Int.add_zero, Int.emod_emod_of_dvd _ (Int.dvd_refl a)]
    exact Int.emod_eq_of_lt (by omega) (by omega)
  rw [e]
  simp
  omega
theorem fits_next {a b n : Int} (ha : 0 < a) (h : fitsB a b n = true) : fitsB a b (n + a) = true := by
  obtain ⟨p, q, r⟩ := fits_up ha h
  rw [fits_mk ha (by omega) (by omega)]
  have e : n + a - b = (n - b) + a := by omega
  rw [e, Int.add_emod_right, r]
  rfl
theorem first_le {a b n : Int} (ha : 0 < a) (h : fitsB a b n = true) : firstZ a b ≤ n := by
  obtain ⟨p, q, r⟩ := fits_up ha h
  have key : leastZ a b ≤ n := by
    unfold leastZ
    by_cases hb : b < 1
    · rw [if_pos ⟨ha, hb⟩]
      have e1 := Int.emod_add_mul_ediv (n - b) a
      have e2 := Int.emod_add_mul_ediv (-b) a
      have m0 := Int.emod_nonneg (-b) (show a ≠ 0 by omega)
      have m1 := Int.emod_lt_of_pos (-b) ha
      rw [r] at e1
      generalize (-b) % a = z at *
      generalize (n - b) / a = s at *
      generalize (-b) / a = t at *
      have hn : n = a * (s - t) - z := by rw [Int.mul_sub]; omega
      have h1 : 0 < a * (s - t) := by omega
      have h2 : 0 < s - t := Int.pos_of_mul_pos_right h1 ha |> fun h => h
      have h3 : a * 1 ≤ a * (s - t) := Int.mul_le_mul_of_nonneg_left (by omega) (by omega)
      omega
    · rw [if_neg (by omega), if_neg hb, if_neg (by omega)]
      exact q
  unfold firstZ
  split <;> omega

set_option maxHeartbeats 400000 in
theorem steps_walk (w : World) (a b n : Int) (a0 : -9223372036854775808 ≤ a) (a1 : a ≤ 9223372036854775807) (b0 : -9223372036854775808 ≤ b) (b1 : b ≤ 9223372036854775807) (n0 : -9223372036854775808 ≤ n) (n1 : n ≤ 9223372036854775807) :
    Calls Tryd.prog 6 #[.int .i64 a, .int .i64 b, .int .i64 n] w fun e w' => e = .returned (.bool true) ∧ Below w.heap.size w w' := by
  have hB : Below w.heap.size w w := Below.refl _ w
  by_cases hr : a < 1 ∨ a > 1000 ∨ b > 1099511627776 ∨ b < -1099511627776 ∨ n > 1099511627776 ∨ n < -1099511627776
  · go_enter Tryd.func6, Tryd.ntmps6
    go_wp2_with (go_at_call 8; fail)
    all_goals
      refine (lives_any _).mono ?_
      rintro e w' ⟨rfl, rfl⟩
      go_wp2
      go_ret
      exact ⟨rfl, hB⟩
  · have r1 : 1 ≤ a := by omega
    have r2 : a ≤ 1000 := by omega
    have r3 : b ≤ 1099511627776 := by omega
    have r4 : -1099511627776 ≤ b := by omega
    have r5 : n ≤ 1099511627776 := by omega
    have r6 : -1099511627776 ≤ n := by omega
    clear hr
    have hf := fun w => fits_any a b n a0 a1 b0 b1 n0 n1 w
    cases hfit : fitsB a b n
    · rw [hfit] at hf
      go_enter Tryd.func6, Tryd.ntmps6
      go_wp2_with (go_at_call 11; fail)
      refine (hf _).mono ?_
      rintro e w' ⟨rfl, rfl⟩
      go_wp2_with (go_at_call 8; fail)
      refine (lives_any _).mono ?_
      rintro e w' ⟨rfl, rfl⟩
      go_wp2
      go_ret
      exact ⟨rfl, hB⟩
    · rw [hfit] at hf
      have hup := fits_up r1 hfit
      have hu1 := hup.1
      have hu2 := hup.2.1
      have hfst := first_le r1 hfit
      have hnx : ∀ w, Calls Tryd.prog 11 #[.int .i64 a, .int .i64 b, .int .i64 (n + a)] w fun e w' => e = .returned (.bool true) ∧ w = w' := by
        intro w
        have h := fits_any a b (n + a) a0 a1 b0 b1 (by omega) (by omega) w
        rw [fits_next r1 hfit] at h
        exact h
      have hbt : ∀ k, n < k → k < n + a → ∀ w, Calls Tryd.prog 11 #[.int .i64 a, .int .i64 b, .int .i64 k] w fun e w' => e = .returned (.bool false) ∧ w = w' := by
        intro k k0 k1 w
        have h := fits_any a b k a0 a1 b0 b1 (by omega) (by omega) w
        rw [fits_between r1 hfit k0 k1] at h
        exact h
      have HBT := hid_mk hbt
      have HNX := hid_mk hnx
      have hfs := fun w => first_any a b a0 a1 b0 b1 w
      generalize firstZ a b = fz at *
      clear hfit hup hbt hnx
      go_enter Tryd.func6, Tryd.ntmps6
      go_wp2_with (go_at_call 11; fail)
      refine (hf _).mono ?_
      rintro e w' ⟨rfl, rfl⟩
      go_wp2
      go_loop [7] (fun i => ∃ k : Int, i = .int .i64 k ∧ n < k ∧ k ≤ n + a) (fun i => (n + a - intOf i).toNat)
      case atStart => exact ⟨n + 1, rfl, by omega, by omega⟩
      case round =>
        obtain ⟨k, rfl, k0, k1⟩ := hrel
        by_cases hk : k < n + a
        · go_wp2_with (go_at_call 11; fail)
          refine (HBT.out k k0 hk _).mono ?_
          rintro e w' ⟨rfl, rfl⟩
          go_wp2
          go_round
          case rel => exact ⟨k + 1, rfl, by omega, by omega⟩
          case measure => simp [intOf]; omega
        · go_wp2_with (go_at_call 11; fail)
          refine (HNX.out _).mono ?_
          rintro e w' ⟨rfl, rfl⟩
          go_wp2_with (go_at_call 15; fail)
          refine (hfs _).mono ?_
          rintro e w' ⟨rfl, rfl⟩
          go_wp2_with (go_at_call 8; fail)
          refine (lives_any _).mono ?_
          rintro e w' ⟨rfl, rfl⟩
          go_wp2
          go_ret
          exact ⟨rfl, hB⟩

end Go.Proofs.YtpflliophellgaaDoor
