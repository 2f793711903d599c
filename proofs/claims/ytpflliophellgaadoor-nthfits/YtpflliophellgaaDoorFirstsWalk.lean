/- The document's Fits, its First, and what NthFirsts asks. -/
import Derived.Test.YtpflliophellgaaDoorLives
namespace Go.Proofs.YtpflliophellgaaDoor
open Go.RowKit

theorem u64_lo {n : Int} (h0 : -9223372036854775808 ≤ n) (h1 : n < 0) : IntKind.u64.wrap n = n + 18446744073709551616 := by rw [IntKind.wrap_u64]; omega
theorem u64_at (n : Int) : IntKind.u64.wrap n = n % 18446744073709551616 := IntKind.wrap_u64 n
theorem u64_diff {x y : Int} (h0 : 0 ≤ x - y) (h1 : x - y ≤ 18446744073709551615) : IntKind.u64.wrap (IntKind.u64.wrap x - IntKind.u64.wrap y) = x - y := by
  rw [u64_at, u64_at, u64_at]; omega
theorem u64_away {x : Int} (h0 : -9223372036854775808 ≤ x) (h1 : x < 0) : IntKind.u64.wrap (-IntKind.u64.wrap x) = -x := by
  rw [u64_at, u64_at]; omega

set_option maxHeartbeats 400000 in
theorem rfits_any (a b n : Int) (a0 : -9223372036854775808 ≤ a) (a1 : a ≤ 9223372036854775807) (b0 : -9223372036854775808 ≤ b) (b1 : b ≤ 9223372036854775807) (n0 : -9223372036854775808 ≤ n) (n1 : n ≤ 9223372036854775807) (w : World) :
    Calls Tryd.prog 12 #[.int .i64 a, .int .i64 b, .int .i64 n] w fun e w' => e = .returned (.bool (fitsB a b n)) ∧ w = w' := by
  by_cases hn : n < 1
  · have e1 : fitsB a b n = false := by simp [fitsB, hn]
    rw [e1]
    clear e1
    go_enter Tryd.func12, Tryd.ntmps12
    go_wp2
    go_ret
    exact ⟨rfl, rfl⟩
  by_cases hz : a = 0
  · subst hz
    have e1 : fitsB 0 b n = decide (n = b) := by simp [fitsB, hn]
    rw [e1]
    clear e1
    go_enter Tryd.func12, Tryd.ntmps12
    go_wp2
    go_ret
    exact ⟨rfl, rfl⟩
  by_cases he : n = b
  · subst he
    have e1 : fitsB a n n = true := by simp [fitsB, hn]
    rw [e1]
    clear e1
    go_enter Tryd.func12, Tryd.ntmps12
    go_wp2
    go_ret
    exact ⟨by simp, rfl⟩
  have z1 : (a == 0) = false := by simpa using hz
  have z2 : (n == b) = false := by simpa using he
  by_cases hp : 0 < a
  · by_cases hb : b < n
    · have e1 : fitsB a b n = decide ((n - b) % a = 0) := by simp [fitsB, hn, hp, show b ≤ n by omega]
      rw [e1]
      clear e1
      have d1 : IntKind.u64.wrap (n - IntKind.u64.wrap b) = n - b := by rw [u64_at, u64_at]; omega
      have d2 := u64_diff (x := n) (y := b) (by omega) (by omega)
      go_enter Tryd.func12, Tryd.ntmps12
      go_wp2
      all_goals
        go_ret
        exact ⟨rfl, rfl⟩
    · have e1 : fitsB a b n = false := by simp [fitsB, hp, show ¬ b ≤ n by omega]
      rw [e1]
      clear e1
      go_enter Tryd.func12, Tryd.ntmps12
      go_wp2
      go_ret
      exact ⟨rfl, rfl⟩
  by_cases hb : n < b
  · have e1 : fitsB a b n = decide ((b - n) % (-a) = 0) := by simp [fitsB, hn, hp, show a < 0 by omega, show n ≤ b by omega]
    rw [e1]
    clear e1
    have d2 : IntKind.u64.wrap (-IntKind.u64.wrap a) = -a := u64_away a0 (by omega)
    go_enter Tryd.func12, Tryd.ntmps12
    go_wp2
    all_goals
      go_ret
      exact ⟨rfl, rfl⟩
  · have e1 : fitsB a b n = false := by simp [fitsB, hn, hp, show a < 0 by omega]; omega
    rw [e1]
    clear e1
    go_enter Tryd.func12, Tryd.ntmps12
    go_wp2
    all_goals
      go_ret
      exact ⟨rfl, rfl⟩

theorem least_nonneg (a b : Int) : 0 ≤ leastZ a b := by
  unfold leastZ
  split
  · rename_i h
    have := Int.emod_lt_of_pos (-b) h.1
    omega
  · split
    · omega
    · split
      · have := Int.emod_nonneg (b - 1) (show a ≠ 0 by omega)
        omega
      · omega
theorem least_fits {a b : Int} (h : 1 ≤ leastZ a b) : fitsB a b (leastZ a b) = true := by
  by_cases hb : b < 1
  · by_cases ha : 0 < a
    · have e : leastZ a b = a - (-b) % a := by simp [leastZ, ha, hb]
      rw [e] at h ⊢
      have m0 := Int.emod_nonneg (-b) (show a ≠ 0 by omega)
      have e2 := Int.emod_add_mul_ediv (-b) a
      unfold fitsB
      rw [if_neg (by omega), if_pos ha]
      have : a - (-b) % a - b = a * (1 + (-b) / a) := by rw [Int.mul_add]; omega
      rw [this, Int.mul_emod_right]
      simp
      omega
    · have e : leastZ a b = 0 := by simp [leastZ, ha, hb]
      omega
  · by_cases hm : a < 0
    · have e : leastZ a b = (b - 1) % a + 1 := by simp [leastZ, hm, hb]
      rw [e] at h ⊢
      have m0 := Int.emod_nonneg (b - 1) (show a ≠ 0 by omega)
      have m1 : (b - 1) % a ≤ b - 1 := by
        rw [← Int.emod_neg]
        have h1 := Int.emod_add_mul_ediv (b - 1) (-a)
        have h2 := Int.mul_nonneg (show 0 ≤ -a by omega) (Int.ediv_nonneg (show 0 ≤ b - 1 by omega) (show 0 ≤ -a by omega))
        omega
      have e2 := Int.emod_add_mul_ediv (b - 1) a
      unfold fitsB
      rw [if_neg (by omega), if_neg (by omega), if_pos hm]
      have : b - ((b - 1) % a + 1) = a * ((b - 1) / a) := by omega
      rw [this, Int.mul_emod_right]
      simp
      omega
    · have e : leastZ a b = b := by
        unfold leastZ
        rw [if_neg (by omega), if_neg (by omega), if_neg (by omega)]
      rw [e]
      by_cases ha : 0 < a
      · unfold fitsB
        rw [if_neg (by omega), if_pos ha]
        simp
      · unfold fitsB
        rw [if_neg (by omega), if_neg ha, if_neg hm]
        simp
theorem fits_least {a b n : Int} (h : fitsB a b n = true) : 1 ≤ leastZ a b ∧ leastZ a b ≤ n := by
  have h1 : 1 ≤ n := by
    by_cases hn : n < 1
    · simp [fitsB, hn] at h
    · omega
  unfold fitsB at h
  rw [if_neg (by omega)] at h
  by_cases ha : 0 < a
  · rw [if_pos ha] at h
    simp at h
    obtain ⟨q, r⟩ := h
    by_cases hb : b < 1
    · have e : leastZ a b = a - (-b) % a := by simp [leastZ, ha, hb]
      rw [e]
      have e1 := Int.emod_add_mul_ediv (n - b) a
      have e2 := Int.emod_add_mul_ediv (-b) a
      have m0 := Int.emod_nonneg (-b) (show a ≠ 0 by omega)
      have m1 := Int.emod_lt_of_pos (-b) ha
      rw [r] at e1
      generalize (-b) % a = z at *
      generalize (n - b) / a = s at *
      generalize (-b) / a = t at *
      have hn : n = a * (s - t) - z := by rw [Int.mul_sub]; omega
      have k1 : 0 < a * (s - t) := by omega
      have k2 : 0 < s - t := Int.pos_of_mul_pos_right k1 ha
      have k3 : a * 1 ≤ a * (s - t) := Int.mul_le_mul_of_nonneg_left (by omega) (by omega)
      omega
    · have e : leastZ a b = b := by
        unfold leastZ
        rw [if_neg (by omega), if_neg (by omega), if_neg (by omega)]
      omega
  · rw [if_neg ha] at h
    by_cases hm : a < 0
    · rw [if_pos hm] at h
      simp at h
      obtain ⟨q, r⟩ := h
      have e : leastZ a b = (b - 1) % a + 1 := by
        unfold leastZ
        rw [if_neg (by omega), if_neg (by omega), if_pos hm]
      rw [e]
      have m0 := Int.emod_nonneg (b - 1) (show a ≠ 0 by omega)
      have e3 : (b - 1) % a = (n - 1) % a := by
        have : b - 1 = (b - n) + (n - 1) := by omega
        rw [this, Int.add_emod, r, Int.zero_add, Int.emod_emod_of_dvd _ (Int.dvd_refl a)]
      have m1 : (n - 1) % a ≤ n - 1 := by
        rw [← Int.emod_neg]
        have h1 := Int.emod_add_mul_ediv (n - 1) (-a)
        have h2 := Int.mul_nonneg (show 0 ≤ -a by omega) (Int.ediv_nonneg (show 0 ≤ n - 1 by omega) (show 0 ≤ -a by omega))
        omega
      omega
    · rw [if_neg hm] at h
      simp at h
      subst h
      have e : leastZ a n = n := by
        unfold leastZ
        rw [if_neg (by omega), if_neg (by omega), if_neg (by omega)]
      omega
def NoneTo (a b k : Int) : Prop := ∀ j, 1 ≤ j → j < k → fitsB a b j = false
theorem none_one (a b : Int) : NoneTo a b 1 := fun j h0 h1 => by omega
theorem none_next {a b k : Int} (h : NoneTo a b k) (hk : fitsB a b k = false) : NoneTo a b (k + 1) := by
  intro j h0 h1
  by_cases e : j = k
  · rw [e]; exact hk
  · exact h j h0 (by omega)
theorem first_found {a b k : Int} (h : NoneTo a b k) (hk : fitsB a b k = true) (h1 : k ≤ 1000000) : firstZ a b = k := by
  obtain ⟨p, q⟩ := fits_least hk
  have e : leastZ a b = k := by
    by_cases hlt : leastZ a b < k
    · have := h _ p hlt
      rw [least_fits p] at this
      cases this
    · omega
  unfold firstZ
  rw [e, if_neg (by omega)]
theorem first_none {a b : Int} (h : NoneTo a b 1000001) : firstZ a b = 0 := by
  unfold firstZ
  have n0 := least_nonneg a b
  by_cases h1 : 1000000 < leastZ a b
  · rw [if_pos h1]
  · rw [if_neg h1]
    by_cases h2 : 1 ≤ leastZ a b
    · have := h _ h2 (by omega)
      rw [least_fits h2] at this
      cases this
    · omega

set_option maxHeartbeats 400000 in
theorem rfirst_any (a b : Int) (a0 : -9223372036854775808 ≤ a) (a1 : a ≤ 9223372036854775807) (b0 : -9223372036854775808 ≤ b) (b1 : b ≤ 9223372036854775807) (w : World) :
    Calls Tryd.prog 16 #[.int .i64 a, .int .i64 b] w fun e w' => e = .returned (.int .i64 (firstZ a b)) ∧ w = w' := by
  have HF : Hid (∀ k, 1 ≤ k → k ≤ 1000000 → ∀ w, Calls Tryd.prog 12 #[.int .i64 a, .int .i64 b, .int .i64 k] w fun e w' => e = .returned (.bool (fitsB a b k)) ∧ w = w') := fun k k0 k1 w => rfits_any a b k a0 a1 b0 b1 (by omega) (by omega) w
  go_enter Tryd.func16, Tryd.ntmps16
  go_wp2
  go_loop [5] (fun i => ∃ k : Int, i = .int .i64 k ∧ 1 ≤ k ∧ k ≤ 1000001 ∧ NoneTo a b k) (fun i => (1000001 - intOf i).toNat)
  case atStart => exact ⟨1, rfl, by omega, by omega, none_one a b⟩
  case round =>
    obtain ⟨k, rfl, k0, k1, hno⟩ := hrel
    by_cases hk : k ≤ 1000000
    · have hfk := HF.out k k0 hk
      cases hfit : fitsB a b k
      · rw [hfit] at hfk
        have hno2 := none_next hno hfit
        clear hfit
        go_wp2_with (go_at_call 12; fail)
        refine (hfk _).mono ?_
        rintro e w' ⟨rfl, rfl⟩
        go_wp2
        go_round
        case rel => exact ⟨k + 1, rfl, by omega, by omega, hno2⟩
        case measure => simp [intOf]; omega
      · rw [hfit] at hfk
        have HE : Hid (firstZ a b = k) := first_found hno hfit hk
        clear hfit
        go_wp2_with (go_at_call 12; fail)
        refine (hfk _).mono ?_
        rintro e w' ⟨rfl, rfl⟩
        go_wp2
        go_ret
        exact ⟨by rw [HE.out]; rfl, rfl⟩
    · have HE : Hid (firstZ a b = 0) := first_none (by rw [show (1000001 : Int) = k by omega]; exact hno)
      go_wp2
      go_ret
      exact ⟨by rw [HE.out]; rfl, rfl⟩

set_option maxHeartbeats 400000 in
theorem firsts_walk (w : World) (a b : Int) (a0 : -9223372036854775808 ≤ a) (a1 : a ≤ 9223372036854775807) (b0 : -9223372036854775808 ≤ b) (b1 : b ≤ 9223372036854775807) :
    Calls Tryd.prog 5 #[.int .i64 a, .int .i64 b] w fun e w' => e = .returned (.bool true) ∧ Below w.heap.size w w' := by
  have hB : Below w.heap.size w w := Below.refl _ w
  have h1 := fun w => first_any a b a0 a1 b0 b1 w
  have h2 := fun w => rfirst_any a b a0 a1 b0 b1 w
  generalize firstZ a b = z at *
  go_enter Tryd.func5, Tryd.ntmps5
  go_wp2_with (go_at_call 15; fail)
  refine (h1 _).mono ?_
  rintro e w' ⟨rfl, rfl⟩
  go_wp2_with (go_at_call 16; fail)
  refine (h2 _).mono ?_
  rintro e w' ⟨rfl, rfl⟩
  go_wp2_with (go_at_call 8; fail)
  refine (lives_any _).mono ?_
  rintro e w' ⟨rfl, rfl⟩
  go_wp2
  go_ret
  exact ⟨rfl, hB⟩

end Go.Proofs.YtpflliophellgaaDoor
