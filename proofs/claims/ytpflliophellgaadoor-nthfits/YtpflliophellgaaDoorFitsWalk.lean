/- The document's Print, and what NthFits asks. -/
import Derived.Test.YtpflliophellgaaDoorPrint
namespace Go.Proofs.YtpflliophellgaaDoor
open Go.RowKit

theorem mid_one : timesS 1 ++ nS = ⟨#[110]⟩ := by decide +kernel
theorem mid_neg : timesS (-1) ++ nS = ⟨#[45, 110]⟩ := by decide +kernel
theorem mid_any {a : Int} (h1 : a ≠ 1) (h2 : a ≠ -1) : timesS a ++ nS = itS a ++ ⟨#[110]⟩ := by
  unfold timesS nS
  rw [if_neg h1, if_neg h2]
theorem tail_zero (M : ByteArray) : M ++ plusS 0 = M := app_empty M
theorem tail_neg {b : Int} (h : b < 0) (M : ByteArray) : M ++ plusS b = M ++ itS b := by
  unfold plusS
  rw [if_neg (by omega), if_pos h]
theorem tail_pos {b : Int} (h : 0 < b) (M : ByteArray) : M ++ plusS b = M ++ ⟨#[43]⟩ ++ itS b := by
  unfold plusS
  rw [if_neg (by omega), if_neg (by omega), app_app]

set_option maxHeartbeats 400000 in
theorem rprint_any (a b : Int) (a0 : -9223372036854775808 ≤ a) (a1 : a ≤ 9223372036854775807) (b0 : -9223372036854775808 ≤ b) (b1 : b ≤ 9223372036854775807) (w : World) :
    Calls Tryd.prog 14 #[.int .i64 a, .int .i64 b] w fun e w' => e = .returned (.string (printS a b)) ∧ w = w' := by
  unfold printS
  by_cases h1 : a = 2 ∧ b = 0
  · rw [if_pos h1]
    obtain ⟨rfl, rfl⟩ := h1
    go_enter Tryd.func14, Tryd.ntmps14
    go_wp2
    go_ret
    exact ⟨rfl, rfl⟩
  by_cases h2 : a = 2 ∧ b = 1
  · rw [if_neg h1, if_pos h2]
    obtain ⟨rfl, rfl⟩ := h2
    go_enter Tryd.func14, Tryd.ntmps14
    go_wp2
    go_ret
    exact ⟨rfl, rfl⟩
  rw [if_neg h1, if_neg h2]
  have db := fun w => rdigits_any b b0 b1 w
  have da := fun w => rdigits_any a a0 a1 w
  have sb := it_size b
  have sa := it_size a
  by_cases h3 : a = 0
  · rw [if_pos h3]
    subst h3
    generalize itS b = s at *
    clear h1 h2 da
    go_enter Tryd.func14, Tryd.ntmps14
    go_wp2_with (go_at_call 29; fail)
    refine (db _).mono ?_
    rintro e w' ⟨rfl, rfl⟩
    go_wp2
    go_ret
    exact ⟨rfl, rfl⟩
  rw [if_neg h3]
  have z3 : (a == 0) = false := by simpa using h3
  by_cases h4 : a = 1
  · subst h4
    rw [mid_one]
    by_cases hb0 : b = 0
    · subst hb0
      have HT : Hid ((⟨#[110]⟩ : ByteArray) ++ plusS 0 = (⟨#[110]⟩ : ByteArray)) := tail_zero _
      generalize plusS 0 = PB at *
      generalize itS 0 = B at *
      generalize itS 1 = A0 at da sa
      clear h1 h2 h3
      go_enter Tryd.func14, Tryd.ntmps14
      go_wp2_with (go_at_call 29; fail)
      refine (da _).mono ?_
      rintro e w' ⟨rfl, rfl⟩
      go_wp2
      go_ret
      exact ⟨congrArg (fun s => Ending.returned (.string s)) HT.out.symm, rfl⟩
    · by_cases hb1 : b < 0
      · have HT : Hid ((⟨#[110]⟩ : ByteArray) ++ plusS b = (⟨#[110]⟩ : ByteArray) ++ itS b) := tail_neg hb1 _
        have y0 : (b == 0) = false := by simpa using hb0
        have y1 : (b != 0) = true := by simpa using hb0
        generalize plusS b = PB at *
        generalize itS b = B at *
        generalize itS 1 = A0 at da sa
        clear h1 h2 h3
        go_enter Tryd.func14, Tryd.ntmps14
        go_wp2_with (go_at_call 29; fail)
        refine (da _).mono ?_
        rintro e w' ⟨rfl, rfl⟩
        go_wp2_with (go_at_call 29; fail)
        refine (db _).mono ?_
        rintro e w' ⟨rfl, rfl⟩
        go_wp2
        go_ret
        exact ⟨congrArg (fun s => Ending.returned (.string s)) HT.out.symm, rfl⟩
      · have hb2 : 0 < b := by omega
        have HT : Hid ((⟨#[110]⟩ : ByteArray) ++ plusS b = (⟨#[110]⟩ : ByteArray) ++ ⟨#[43]⟩ ++ itS b) := tail_pos hb2 _
        have y0 : (b == 0) = false := by simpa using hb0
        have y1 : (b != 0) = true := by simpa using hb0
        generalize plusS b = PB at *
        generalize itS b = B at *
        generalize itS 1 = A0 at da sa
        clear h1 h2 h3
        go_enter Tryd.func14, Tryd.ntmps14
        go_wp2_with (go_at_call 29; fail)
        refine (da _).mono ?_
        rintro e w' ⟨rfl, rfl⟩
        go_wp2_with (go_at_call 29; fail)
        refine (db _).mono ?_
        rintro e w' ⟨rfl, rfl⟩
        go_wp2
        go_ret
        exact ⟨congrArg (fun s => Ending.returned (.string s)) HT.out.symm, rfl⟩
  by_cases h5 : a = -1
  · subst h5
    rw [mid_neg]
    by_cases hb0 : b = 0
    · subst hb0
      have HT : Hid ((⟨#[45, 110]⟩ : ByteArray) ++ plusS 0 = (⟨#[45, 110]⟩ : ByteArray)) := tail_zero _
      generalize plusS 0 = PB at *
      generalize itS 0 = B at *
      generalize itS (-1) = A0 at da sa
      clear h1 h2 h3
      go_enter Tryd.func14, Tryd.ntmps14
      go_wp2_with (go_at_call 29; fail)
      refine (da _).mono ?_
      rintro e w' ⟨rfl, rfl⟩
      go_wp2
      go_ret
      exact ⟨congrArg (fun s => Ending.returned (.string s)) HT.out.symm, rfl⟩
    · by_cases hb1 : b < 0
      · have HT : Hid ((⟨#[45, 110]⟩ : ByteArray) ++ plusS b = (⟨#[45, 110]⟩ : ByteArray) ++ itS b) := tail_neg hb1 _
        have y0 : (b == 0) = false := by simpa using hb0
        have y1 : (b != 0) = true := by simpa using hb0
        generalize plusS b = PB at *
        generalize itS b = B at *
        generalize itS (-1) = A0 at da sa
        clear h1 h2 h3
        go_enter Tryd.func14, Tryd.ntmps14
        go_wp2_with (go_at_call 29; fail)
        refine (da _).mono ?_
        rintro e w' ⟨rfl, rfl⟩
        go_wp2_with (go_at_call 29; fail)
        refine (db _).mono ?_
        rintro e w' ⟨rfl, rfl⟩
        go_wp2
        go_ret
        exact ⟨congrArg (fun s => Ending.returned (.string s)) HT.out.symm, rfl⟩
      · have hb2 : 0 < b := by omega
        have HT : Hid ((⟨#[45, 110]⟩ : ByteArray) ++ plusS b = (⟨#[45, 110]⟩ : ByteArray) ++ ⟨#[43]⟩ ++ itS b) := tail_pos hb2 _
        have y0 : (b == 0) = false := by simpa using hb0
        have y1 : (b != 0) = true := by simpa using hb0
        generalize plusS b = PB at *
        generalize itS b = B at *
        generalize itS (-1) = A0 at da sa
        clear h1 h2 h3
        go_enter Tryd.func14, Tryd.ntmps14
        go_wp2_with (go_at_call 29; fail)
        refine (da _).mono ?_
        rintro e w' ⟨rfl, rfl⟩
        go_wp2_with (go_at_call 29; fail)
        refine (db _).mono ?_
        rintro e w' ⟨rfl, rfl⟩
        go_wp2
        go_ret
        exact ⟨congrArg (fun s => Ending.returned (.string s)) HT.out.symm, rfl⟩
  have z4 : (a == 1) = false := by simpa using h4
  have z5 : (a == -1) = false := by simpa using h5
  rw [mid_any h4 h5]
  by_cases h6 : a = 2
  · subst h6
    have x0 : ¬ b = 0 := by omega
    have x1 : ¬ b = 1 := by omega
    have y2 : (b == 1) = false := by simpa using x1
    by_cases hb0 : b = 0
    · exact absurd hb0 x0
    · by_cases hb1 : b < 0
      · have HT : Hid ((itS 2 ++ ⟨#[110]⟩) ++ plusS b = (itS 2 ++ ⟨#[110]⟩) ++ itS b) := tail_neg hb1 _
        have y0 : (b == 0) = false := by simpa using hb0
        have y1 : (b != 0) = true := by simpa using hb0
        generalize plusS b = PB at *
        generalize itS b = B at *
        generalize itS 2 = A0 at *
        clear h1 h2 h3
        go_enter Tryd.func14, Tryd.ntmps14
        go_wp2_with (go_at_call 29; fail)
        refine (da _).mono ?_
        rintro e w' ⟨rfl, rfl⟩
        go_wp2_with (go_at_call 29; fail)
        refine (db _).mono ?_
        rintro e w' ⟨rfl, rfl⟩
        go_wp2
        go_ret
        exact ⟨congrArg (fun s => Ending.returned (.string s)) HT.out.symm, rfl⟩
      · have hb2 : 0 < b := by omega
        have HT : Hid ((itS 2 ++ ⟨#[110]⟩) ++ plusS b = (itS 2 ++ ⟨#[110]⟩) ++ ⟨#[43]⟩ ++ itS b) := tail_pos hb2 _
        have y0 : (b == 0) = false := by simpa using hb0
        have y1 : (b != 0) = true := by simpa using hb0
        generalize plusS b = PB at *
        generalize itS b = B at *
        generalize itS 2 = A0 at *
        clear h1 h2 h3
        go_enter Tryd.func14, Tryd.ntmps14
        go_wp2_with (go_at_call 29; fail)
        refine (da _).mono ?_
        rintro e w' ⟨rfl, rfl⟩
        go_wp2_with (go_at_call 29; fail)
        refine (db _).mono ?_
        rintro e w' ⟨rfl, rfl⟩
        go_wp2
        go_ret
        exact ⟨congrArg (fun s => Ending.returned (.string s)) HT.out.symm, rfl⟩
  have z6 : (a == 2) = false := by simpa using h6
  by_cases hb0 : b = 0
  · subst hb0
    have HT : Hid ((itS a ++ ⟨#[110]⟩) ++ plusS 0 = (itS a ++ ⟨#[110]⟩)) := tail_zero _
    generalize plusS 0 = PB at *
    generalize itS 0 = B at *
    generalize itS a = A0 at *
    clear h1 h2 h3
    go_enter Tryd.func14, Tryd.ntmps14
    go_wp2_with (go_at_call 29; fail)
    refine (da _).mono ?_
    rintro e w' ⟨rfl, rfl⟩
    go_wp2
    go_ret
    exact ⟨congrArg (fun s => Ending.returned (.string s)) HT.out.symm, rfl⟩
  · by_cases hb1 : b < 0
    · have HT : Hid ((itS a ++ ⟨#[110]⟩) ++ plusS b = (itS a ++ ⟨#[110]⟩) ++ itS b) := tail_neg hb1 _
      have y0 : (b == 0) = false := by simpa using hb0
      have y1 : (b != 0) = true := by simpa using hb0
      generalize plusS b = PB at *
      generalize itS b = B at *
      generalize itS a = A0 at *
      clear h1 h2 h3
      go_enter Tryd.func14, Tryd.ntmps14
      go_wp2_with (go_at_call 29; fail)
      refine (da _).mono ?_
      rintro e w' ⟨rfl, rfl⟩
      go_wp2_with (go_at_call 29; fail)
      refine (db _).mono ?_
      rintro e w' ⟨rfl, rfl⟩
      go_wp2
      go_ret
      exact ⟨congrArg (fun s => Ending.returned (.string s)) HT.out.symm, rfl⟩
    · have hb2 : 0 < b := by omega
      have HT : Hid ((itS a ++ ⟨#[110]⟩) ++ plusS b = (itS a ++ ⟨#[110]⟩) ++ ⟨#[43]⟩ ++ itS b) := tail_pos hb2 _
      have y0 : (b == 0) = false := by simpa using hb0
      have y1 : (b != 0) = true := by simpa using hb0
      generalize plusS b = PB at *
      generalize itS b = B at *
      generalize itS a = A0 at *
      clear h1 h2 h3
      go_enter Tryd.func14, Tryd.ntmps14
      go_wp2_with (go_at_call 29; fail)
      refine (da _).mono ?_
      rintro e w' ⟨rfl, rfl⟩
      go_wp2_with (go_at_call 29; fail)
      refine (db _).mono ?_
      rintro e w' ⟨rfl, rfl⟩
      go_wp2
      go_ret
      exact ⟨congrArg (fun s => Ending.returned (.string s)) HT.out.symm, rfl⟩

set_option maxHeartbeats 400000 in
theorem fits_walk (w : World) (a b n : Int) (a0 : -9223372036854775808 ≤ a) (a1 : a ≤ 9223372036854775807) (b0 : -9223372036854775808 ≤ b) (b1 : b ≤ 9223372036854775807) (n0 : -9223372036854775808 ≤ n) (n1 : n ≤ 9223372036854775807) (hp : Pow w) :
    Calls Tryd.prog 4 #[.int .i64 a, .int .i64 b, .int .i64 n] w fun e w' => e = .returned (.bool true) ∧ Below w.heap.size w w' := by
  have h1 := fun w => fits_any a b n a0 a1 b0 b1 n0 n1 w
  have h2 := fun w => rfits_any a b n a0 a1 b0 b1 n0 n1 w
  have h3 := print_any a b a0 a1 b0 b1 w hp
  have h4 := fun w => rprint_any a b a0 a1 b0 b1 w
  generalize fitsB a b n = z at *
  generalize printS a b = s at *
  go_enter Tryd.func4, Tryd.ntmps4
  go_wp2_with (go_at_call 11; fail)
  refine (h1 _).mono ?_
  rintro e w' ⟨rfl, rfl⟩
  go_wp2_with (go_at_call 12; fail)
  refine (h2 _).mono ?_
  rintro e w' ⟨rfl, rfl⟩
  go_wp2_with (go_at_call 13; fail)
  refine (h3).mono ?_
  rintro e w1 ⟨rfl, hb⟩
  go_wp2_with (go_at_call 14; fail)
  refine (h4 _).mono ?_
  rintro e w' ⟨rfl, rfl⟩
  go_wp2_with (go_at_call 8; fail)
  refine (lives_any _).mono ?_
  rintro e w' ⟨rfl, rfl⟩
  go_wp2
  go_ret
  exact ⟨rfl, hb⟩

end Go.Proofs.YtpflliophellgaaDoor
