/- The document's examples of layer 4 are as it says. -/
import Derived.Test.YtpflliophellgaaDoorFirst
namespace Go.Proofs.YtpflliophellgaaDoor
open Go.RowKit

set_option maxHeartbeats 400000 in
theorem print_odd (w : World) : Calls Tryd.prog 13 #[.int .i64 2, .int .i64 1] w fun e w' => e = .returned (.string ⟨#[111, 100, 100]⟩) ∧ w = w' := by
  go_enter Tryd.func13, Tryd.ntmps13
  go_wp2
  go_ret
  exact ⟨rfl, rfl⟩
set_option maxHeartbeats 400000 in
theorem times_m1 (w : World) : Calls Tryd.prog 27 #[.int .i64 (-1)] w fun e w' => e = .returned (.string ⟨#[45]⟩) ∧ w = w' := by
  go_enter Tryd.func27, Tryd.ntmps27
  go_wp2
  go_ret
  exact ⟨rfl, rfl⟩
set_option maxHeartbeats 400000 in
theorem small_3 (w : World) : Calls Tryd.prog 65 #[.int .i64 3] w fun e w' => e = .returned (.string ⟨#[51]⟩) ∧ w = w' := by
  have h : (⟨#[48, 49, 50, 51, 52, 53, 54, 55, 56, 57, 97, 98, 99, 100, 101, 102, 103, 104, 105, 106, 107, 108, 109, 110, 111, 112, 113, 114, 115, 116, 117, 118, 119, 120, 121, 122]⟩ : ByteArray).extract 3 4 = ⟨#[51]⟩ := by decide +kernel
  go_enter Tryd.func65, Tryd.ntmps65
  go_wp2
  go_ret
  exact ⟨congrArg (fun s => Ending.returned (.string s)) h, rfl⟩
set_option maxHeartbeats 400000 in
theorem format_3 (w : World) : Calls Tryd.prog 58 #[.int .i64 3, .int .i64 10] w fun e w' => e = .returned (.string ⟨#[51]⟩) ∧ w = w' := by
  go_enter Tryd.func58, Tryd.ntmps58
  go_wp2_with (go_at_call 65; fail)
  refine (small_3 _).mono ?_
  rintro e w' ⟨rfl, rfl⟩
  go_wp2
  go_ret
  exact ⟨rfl, rfl⟩
set_option maxHeartbeats 400000 in
theorem inner_3 (w : World) : Calls Tryd.prog 48 #[.int .i64 3] w fun e w' => e = .returned (.string ⟨#[51]⟩) ∧ w = w' := by
  go_enter Tryd.func48, Tryd.ntmps48
  go_wp2_with (go_at_call 58; fail)
  refine (format_3 _).mono ?_
  rintro e w' ⟨rfl, rfl⟩
  go_wp2
  go_ret
  exact ⟨rfl, rfl⟩
set_option maxHeartbeats 400000 in
theorem itoa_3 (w : World) : Calls Tryd.prog 26 #[.int .i64 3] w fun e w' => e = .returned (.string ⟨#[51]⟩) ∧ w = w' := by
  go_enter Tryd.func26, Tryd.ntmps26
  go_wp2_with (go_at_call 48; fail)
  refine (inner_3 _).mono ?_
  rintro e w' ⟨rfl, rfl⟩
  go_wp2
  go_ret
  exact ⟨rfl, rfl⟩
set_option maxHeartbeats 400000 in
theorem plus_3 (w : World) : Calls Tryd.prog 28 #[.int .i64 3] w fun e w' => e = .returned (.string ⟨#[43, 51]⟩) ∧ w = w' := by
  have hi := fun w => itoa_3 w
  go_enter Tryd.func28, Tryd.ntmps28
  go_wp2_with (go_at_call 26; fail)
  refine (hi _).mono ?_
  rintro e w' ⟨rfl, rfl⟩
  go_wp2
  go_ret
  exact ⟨congrArg (fun s => Ending.returned (.string s)) (by decide +kernel : ((⟨#[43]⟩ : ByteArray) ++ ⟨#[51]⟩) = ⟨#[43, 51]⟩), rfl⟩
set_option maxHeartbeats 400000 in
theorem print_m1 (w : World) : Calls Tryd.prog 13 #[.int .i64 (-1), .int .i64 3] w fun e w' => e = .returned (.string ⟨#[45, 110, 43, 51]⟩) ∧ w = w' := by
  go_enter Tryd.func13, Tryd.ntmps13
  go_wp2_with (go_at_call 27; fail)
  refine (times_m1 _).mono ?_
  rintro e w' ⟨rfl, rfl⟩
  go_wp2_with (go_at_call 28; fail)
  refine (plus_3 _).mono ?_
  rintro e w' ⟨rfl, rfl⟩
  go_wp2
  go_ret
  exact ⟨congrArg (fun s => Ending.returned (.string s)) (by decide +kernel : ((⟨#[45]⟩ : ByteArray) ++ ⟨#[110]⟩ ++ ⟨#[43, 51]⟩) = ⟨#[45, 110, 43, 51]⟩), rfl⟩

theorem lives_any (w : World) : Calls Tryd.prog 8 #[] w fun e w' => e = .returned (.bool true) ∧ w = w' := by
  have h1 : ∀ w, Calls Tryd.prog 11 #[.int .i64 (-1), .int .i64 3, .int .i64 1] w fun e w' => e = .returned (.bool true) ∧ w = w' := fun w => fits_any (-1) 3 1 (by omega) (by omega) (by omega) (by omega) (by omega) (by omega) w
  have h2 : ∀ w, Calls Tryd.prog 11 #[.int .i64 (-1), .int .i64 3, .int .i64 3] w fun e w' => e = .returned (.bool true) ∧ w = w' := fun w => fits_any (-1) 3 3 (by omega) (by omega) (by omega) (by omega) (by omega) (by omega) w
  have h3 : ∀ w, Calls Tryd.prog 11 #[.int .i64 (-1), .int .i64 3, .int .i64 4] w fun e w' => e = .returned (.bool false) ∧ w = w' := fun w => fits_any (-1) 3 4 (by omega) (by omega) (by omega) (by omega) (by omega) (by omega) w
  have h4 : ∀ w, Calls Tryd.prog 15 #[.int .i64 3, .int .i64 0] w fun e w' => e = .returned (.int .i64 3) ∧ w = w' := fun w => first_any 3 0 (by omega) (by omega) (by omega) (by omega) w
  go_enter Tryd.func8, Tryd.ntmps8
  go_wp2_with (go_at_call 11; fail)
  refine (h1 _).mono ?_
  rintro e w' ⟨rfl, rfl⟩
  go_wp2_with (go_at_call 11; fail)
  refine (h2 _).mono ?_
  rintro e w' ⟨rfl, rfl⟩
  go_wp2_with (go_at_call 11; fail)
  refine (h3 _).mono ?_
  rintro e w' ⟨rfl, rfl⟩
  go_wp2_with (go_at_call 13; fail)
  refine (print_odd _).mono ?_
  rintro e w' ⟨rfl, rfl⟩
  go_wp2_with (go_at_call 13; fail)
  refine (print_m1 _).mono ?_
  rintro e w' ⟨rfl, rfl⟩
  go_wp2_with (go_at_call 15; fail)
  refine (h4 _).mono ?_
  rintro e w' ⟨rfl, rfl⟩
  go_wp2
  go_ret
  exact ⟨rfl, rfl⟩

end Go.Proofs.YtpflliophellgaaDoor
