/- The document's examples of layer 4 are as it says. -/
import Derived.Test.YtpflliophellgaaGreatDoorNFirst
namespace Go.Proofs.YtpflliophellgaaGreatDoor.N
open Go.RowKit

set_option maxHeartbeats 400000 in
theorem print_odd (w : World) : Calls Tryz.prog 9 #[.int .i64 2, .int .i64 1] w fun e w' => e = .returned (.string ⟨#[111, 100, 100]⟩) ∧ w = w' := by
  go_enter Tryz.func9, Tryz.ntmps9
  go_wp2
  go_ret
  exact ⟨rfl, rfl⟩
set_option maxHeartbeats 400000 in
theorem times_m1 (w : World) : Calls Tryz.prog 31 #[.int .i64 (-1)] w fun e w' => e = .returned (.string ⟨#[45]⟩) ∧ w = w' := by
  go_enter Tryz.func31, Tryz.ntmps31
  go_wp2
  go_ret
  exact ⟨rfl, rfl⟩
set_option maxHeartbeats 400000 in
theorem small_3 (w : World) : Calls Tryz.prog 110 #[.int .i64 3] w fun e w' => e = .returned (.string ⟨#[51]⟩) ∧ w = w' := by
  have h : (⟨#[48, 49, 50, 51, 52, 53, 54, 55, 56, 57, 97, 98, 99, 100, 101, 102, 103, 104, 105, 106, 107, 108, 109, 110, 111, 112, 113, 114, 115, 116, 117, 118, 119, 120, 121, 122]⟩ : ByteArray).extract 3 4 = ⟨#[51]⟩ := by decide +kernel
  go_enter Tryz.func110, Tryz.ntmps110
  go_wp2
  go_ret
  exact ⟨congrArg (fun s => Ending.returned (.string s)) h, rfl⟩
set_option maxHeartbeats 400000 in
theorem format_3 (w : World) : Calls Tryz.prog 98 #[.int .i64 3, .int .i64 10] w fun e w' => e = .returned (.string ⟨#[51]⟩) ∧ w = w' := by
  go_enter Tryz.func98, Tryz.ntmps98
  go_wp2_with (go_at_call 110; fail)
  refine (small_3 _).mono ?_
  rintro e w' ⟨rfl, rfl⟩
  go_wp2
  go_ret
  exact ⟨rfl, rfl⟩
set_option maxHeartbeats 400000 in
theorem inner_3 (w : World) : Calls Tryz.prog 73 #[.int .i64 3] w fun e w' => e = .returned (.string ⟨#[51]⟩) ∧ w = w' := by
  go_enter Tryz.func73, Tryz.ntmps73
  go_wp2_with (go_at_call 98; fail)
  refine (format_3 _).mono ?_
  rintro e w' ⟨rfl, rfl⟩
  go_wp2
  go_ret
  exact ⟨rfl, rfl⟩
set_option maxHeartbeats 400000 in
theorem itoa_3 (w : World) : Calls Tryz.prog 30 #[.int .i64 3] w fun e w' => e = .returned (.string ⟨#[51]⟩) ∧ w = w' := by
  go_enter Tryz.func30, Tryz.ntmps30
  go_wp2_with (go_at_call 73; fail)
  refine (inner_3 _).mono ?_
  rintro e w' ⟨rfl, rfl⟩
  go_wp2
  go_ret
  exact ⟨rfl, rfl⟩
set_option maxHeartbeats 400000 in
theorem plus_3 (w : World) : Calls Tryz.prog 32 #[.int .i64 3] w fun e w' => e = .returned (.string ⟨#[43, 51]⟩) ∧ w = w' := by
  have hi := fun w => itoa_3 w
  go_enter Tryz.func32, Tryz.ntmps32
  go_wp2_with (go_at_call 30; fail)
  refine (hi _).mono ?_
  rintro e w' ⟨rfl, rfl⟩
  go_wp2
  go_ret
  exact ⟨congrArg (fun s => Ending.returned (.string s)) (by decide +kernel : ((⟨#[43]⟩ : ByteArray) ++ ⟨#[51]⟩) = ⟨#[43, 51]⟩), rfl⟩
set_option maxHeartbeats 400000 in
theorem print_m1 (w : World) : Calls Tryz.prog 9 #[.int .i64 (-1), .int .i64 3] w fun e w' => e = .returned (.string ⟨#[45, 110, 43, 51]⟩) ∧ w = w' := by
  go_enter Tryz.func9, Tryz.ntmps9
  go_wp2_with (go_at_call 31; fail)
  refine (times_m1 _).mono ?_
  rintro e w' ⟨rfl, rfl⟩
  go_wp2_with (go_at_call 32; fail)
  refine (plus_3 _).mono ?_
  rintro e w' ⟨rfl, rfl⟩
  go_wp2
  go_ret
  exact ⟨congrArg (fun s => Ending.returned (.string s)) (by decide +kernel : ((⟨#[45]⟩ : ByteArray) ++ ⟨#[110]⟩ ++ ⟨#[43, 51]⟩) = ⟨#[45, 110, 43, 51]⟩), rfl⟩

theorem lives_any (w : World) : Calls Tryz.prog 4 #[] w fun e w' => e = .returned (.bool true) ∧ w = w' := by
  have h1 : ∀ w, Calls Tryz.prog 10 #[.int .i64 (-1), .int .i64 3, .int .i64 1] w fun e w' => e = .returned (.bool true) ∧ w = w' := fun w => fits_any (-1) 3 1 (by omega) (by omega) (by omega) (by omega) (by omega) (by omega) w
  have h2 : ∀ w, Calls Tryz.prog 10 #[.int .i64 (-1), .int .i64 3, .int .i64 3] w fun e w' => e = .returned (.bool true) ∧ w = w' := fun w => fits_any (-1) 3 3 (by omega) (by omega) (by omega) (by omega) (by omega) (by omega) w
  have h3 : ∀ w, Calls Tryz.prog 10 #[.int .i64 (-1), .int .i64 3, .int .i64 4] w fun e w' => e = .returned (.bool false) ∧ w = w' := fun w => fits_any (-1) 3 4 (by omega) (by omega) (by omega) (by omega) (by omega) (by omega) w
  have h4 : ∀ w, Calls Tryz.prog 11 #[.int .i64 3, .int .i64 0] w fun e w' => e = .returned (.int .i64 3) ∧ w = w' := fun w => first_any 3 0 (by omega) (by omega) (by omega) (by omega) w
  go_enter Tryz.func4, Tryz.ntmps4
  go_wp2_with (go_at_call 10; fail)
  refine (h1 _).mono ?_
  rintro e w' ⟨rfl, rfl⟩
  go_wp2_with (go_at_call 10; fail)
  refine (h2 _).mono ?_
  rintro e w' ⟨rfl, rfl⟩
  go_wp2_with (go_at_call 10; fail)
  refine (h3 _).mono ?_
  rintro e w' ⟨rfl, rfl⟩
  go_wp2_with (go_at_call 9; fail)
  refine (print_odd _).mono ?_
  rintro e w' ⟨rfl, rfl⟩
  go_wp2_with (go_at_call 9; fail)
  refine (print_m1 _).mono ?_
  rintro e w' ⟨rfl, rfl⟩
  go_wp2_with (go_at_call 11; fail)
  refine (h4 _).mono ?_
  rintro e w' ⟨rfl, rfl⟩
  go_wp2
  go_ret
  exact ⟨rfl, rfl⟩

end Go.Proofs.YtpflliophellgaaGreatDoor.N
