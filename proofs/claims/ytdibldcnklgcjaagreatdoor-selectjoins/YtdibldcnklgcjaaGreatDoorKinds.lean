/- What the calls on one character answer: Digit, Hex, Blank, Start, Part, of the program and of the document's answer: the same. -/
import Derived.Test.YtdibldcnklgcjaaGreatDoorName
namespace Go.Proofs.YtdibldcnklgcjaaGreatDoor
open Go.RowKit
set_option maxRecDepth 100000

theorem ret_int {k : IntKind} {a b : Int} (h : a = b) : Ending.returned (.int k a) = .returned (.int k b) := by rw [h]

theorem startZ_yes {c : Int} (h : (97 ≤ c ∧ c ≤ 122) ∨ (65 ≤ c ∧ c ≤ 90) ∨ c = 95 ∨ 128 ≤ c) : startZ c = true := decide_eq_true h
theorem startZ_no {c : Int} (h : ¬ ((97 ≤ c ∧ c ≤ 122) ∨ (65 ≤ c ∧ c ≤ 90) ∨ c = 95 ∨ 128 ≤ c)) : startZ c = false := decide_eq_false h

theorem digitZ_yes {c : Int} (h1 : 48 ≤ c) (h2 : c ≤ 57) : digitZ c = true := by simp [digitZ, h1, h2]
theorem digitZ_no {c : Int} (h : ¬ (48 ≤ c ∧ c ≤ 57)) : digitZ c = false := by
  simp only [digitZ, Bool.and_eq_false_iff, decide_eq_false_iff_not]; omega

set_option maxHeartbeats 1000000 in
theorem hex_any (c : Int) (w : World) (hb : -2147483648 ≤ c ∧ c ≤ 2147483647) : Calls Tryz.prog 94 #[.int .i32 c] w fun e w' => e = .returned (.int .i64 (hexZ c)) ∧ w = w' := by
  obtain ⟨hb1, hb2⟩ := hb
  rcases (show (48 ≤ c ∧ c ≤ 57) ∨ c < 48 ∨ (58 ≤ c ∧ c < 65) ∨ (65 ≤ c ∧ c ≤ 70) ∨ (71 ≤ c ∧ c < 97) ∨ (97 ≤ c ∧ c ≤ 102) ∨ 102 < c by omega) with ⟨h1, h2⟩ | h1 | ⟨h1, h2⟩ | ⟨h1, h2⟩ | ⟨h1, h2⟩ | ⟨h1, h2⟩ | h1
  · have hd := digitZ_yes h1 h2
    have HX : Hid (hexZ c = c - 48) := by show hexZ c = _; unfold hexZ; rw [if_pos (by omega)]
    go_enter Tryz.func94, Tryz.ntmps94
    go_wp2_with (go_at_call 77; refine (digit_any _ _).mono ?_; rintro e w' ⟨rfl, rfl⟩)
    go_ret
    exact ⟨ret_int (by rw [HX.out]), rfl⟩
  · have hd := digitZ_no (c := c) (by omega)
    have HX : Hid (hexZ c = -1) := by show hexZ c = _; unfold hexZ; repeat' split; all_goals omega
    go_enter Tryz.func94, Tryz.ntmps94
    go_wp2_with (go_at_call 77; refine (digit_any _ _).mono ?_; rintro e w' ⟨rfl, rfl⟩)
    go_ret
    exact ⟨ret_int (by rw [HX.out]; first | done | omega), rfl⟩
  · have hd := digitZ_no (c := c) (by omega)
    have HX : Hid (hexZ c = -1) := by show hexZ c = _; unfold hexZ; repeat' split; all_goals omega
    go_enter Tryz.func94, Tryz.ntmps94
    go_wp2_with (go_at_call 77; refine (digit_any _ _).mono ?_; rintro e w' ⟨rfl, rfl⟩)
    go_ret
    exact ⟨ret_int (by rw [HX.out]; first | done | omega), rfl⟩
  · have hd := digitZ_no (c := c) (by omega)
    have HX : Hid (hexZ c = c - 55) := by show hexZ c = _; unfold hexZ; repeat' split; all_goals omega
    go_enter Tryz.func94, Tryz.ntmps94
    go_wp2_with (go_at_call 77; refine (digit_any _ _).mono ?_; rintro e w' ⟨rfl, rfl⟩)
    go_ret
    exact ⟨ret_int (by rw [HX.out]; first | done | omega), rfl⟩
  · have hd := digitZ_no (c := c) (by omega)
    have HX : Hid (hexZ c = -1) := by show hexZ c = _; unfold hexZ; repeat' split; all_goals omega
    go_enter Tryz.func94, Tryz.ntmps94
    go_wp2_with (go_at_call 77; refine (digit_any _ _).mono ?_; rintro e w' ⟨rfl, rfl⟩)
    go_ret
    exact ⟨ret_int (by rw [HX.out]; first | done | omega), rfl⟩
  · have hd := digitZ_no (c := c) (by omega)
    have HX : Hid (hexZ c = c - 87) := by show hexZ c = _; unfold hexZ; repeat' split; all_goals omega
    go_enter Tryz.func94, Tryz.ntmps94
    go_wp2_with (go_at_call 77; refine (digit_any _ _).mono ?_; rintro e w' ⟨rfl, rfl⟩)
    go_ret
    exact ⟨ret_int (by rw [HX.out]; first | done | omega), rfl⟩
  · have hd := digitZ_no (c := c) (by omega)
    have HX : Hid (hexZ c = -1) := by show hexZ c = _; unfold hexZ; repeat' split; all_goals omega
    go_enter Tryz.func94, Tryz.ntmps94
    go_wp2_with (go_at_call 77; refine (digit_any _ _).mono ?_; rintro e w' ⟨rfl, rfl⟩)
    go_ret
    exact ⟨ret_int (by rw [HX.out]; first | done | omega), rfl⟩

theorem blank_any (c : Int) (w : World) : Calls Tryz.prog 45 #[.int .i32 c] w fun e w' => e = .returned (.bool (blankZ c)) ∧ w = w' := by
  by_cases h1 : c = 32
  · subst h1
    go_enter Tryz.func45, Tryz.ntmps45
    go_wp2
    go_ret
    exact ⟨rfl, rfl⟩
  · by_cases h2 : c = 9
    · subst h2
      go_enter Tryz.func45, Tryz.ntmps45
      go_wp2
      go_ret
      exact ⟨rfl, rfl⟩
    · by_cases h3 : c = 10
      · subst h3
        go_enter Tryz.func45, Tryz.ntmps45
        go_wp2
        go_ret
        exact ⟨rfl, rfl⟩
      · have e1 : (c == 32) = false := by simpa using h1
        have e2 : (c == 9) = false := by simpa using h2
        have e3 : (c == 10) = false := by simpa using h3
        have HX : Hid (blankZ c = false) := by show blankZ c = _; simp [blankZ, e1, e2, e3]
        go_enter Tryz.func45, Tryz.ntmps45
        go_wp2
        go_ret
        exact ⟨ret_bool (by rw [HX.out]), rfl⟩

theorem smallZ_yes {c : Int} (h1 : 97 ≤ c) (h2 : c ≤ 122) : smallZ c = true := by simp [smallZ, h1, h2]
theorem smallZ_no {c : Int} (h : ¬ (97 ≤ c ∧ c ≤ 122)) : smallZ c = false := by
  simp only [smallZ, Bool.and_eq_false_iff, decide_eq_false_iff_not]; omega

set_option maxHeartbeats 1000000 in
theorem start_any (c : Int) (w : World) : Calls Tryz.prog 76 #[.int .i32 c] w fun e w' => e = .returned (.bool (startZ c)) ∧ w = w' := by
  rcases (show c < 65 ∨ (65 ≤ c ∧ c ≤ 90) ∨ (91 ≤ c ∧ c < 95) ∨ c = 95 ∨ c = 96 ∨ (97 ≤ c ∧ c ≤ 122) ∨ (123 ≤ c ∧ c < 128) ∨ 128 ≤ c by omega) with h | ⟨h, h2⟩ | ⟨h, h2⟩ | rfl | rfl | ⟨h, h2⟩ | ⟨h, h2⟩ | h
  · have HX : Hid (startZ c = false) := startZ_no (c := c) (by omega)
    have e95 : (c == 95) = false := beq_eq_false_iff_ne.2 (by omega)
    go_enter Tryz.func76, Tryz.ntmps76
    go_wp2
    go_ret
    exact ⟨ret_bool (by rw [HX.out]; first | done | (simp only [decide_eq_false_iff_not]; omega) | (simp only [Bool.or_eq_false_iff, decide_eq_false_iff_not]; omega)), rfl⟩
  · have HX : Hid (startZ c = true) := startZ_yes (c := c) (by omega)
    have e95 : (c == 95) = false := beq_eq_false_iff_ne.2 (by omega)
    go_enter Tryz.func76, Tryz.ntmps76
    go_wp2
    go_ret
    exact ⟨ret_bool (by rw [HX.out]; first | done | (simp only [decide_eq_false_iff_not]; omega) | (simp only [Bool.or_eq_false_iff, decide_eq_false_iff_not]; omega)), rfl⟩
  · have HX : Hid (startZ c = false) := startZ_no (c := c) (by omega)
    have e95 : (c == 95) = false := beq_eq_false_iff_ne.2 (by omega)
    go_enter Tryz.func76, Tryz.ntmps76
    go_wp2
    go_ret
    exact ⟨ret_bool (by rw [HX.out]; first | done | (simp only [decide_eq_false_iff_not]; omega) | (simp only [Bool.or_eq_false_iff, decide_eq_false_iff_not]; omega)), rfl⟩
  · go_enter Tryz.func76, Tryz.ntmps76
    go_wp2
    go_ret
    exact ⟨rfl, rfl⟩
  · go_enter Tryz.func76, Tryz.ntmps76
    go_wp2
    go_ret
    exact ⟨rfl, rfl⟩
  · have HX : Hid (startZ c = true) := startZ_yes (c := c) (by omega)
    have e95 : (c == 95) = false := beq_eq_false_iff_ne.2 (by omega)
    go_enter Tryz.func76, Tryz.ntmps76
    go_wp2
    go_ret
    exact ⟨ret_bool (by rw [HX.out]; first | done | (simp only [decide_eq_false_iff_not]; omega) | (simp only [Bool.or_eq_false_iff, decide_eq_false_iff_not]; omega)), rfl⟩
  · have HX : Hid (startZ c = false) := startZ_no (c := c) (by omega)
    have e95 : (c == 95) = false := beq_eq_false_iff_ne.2 (by omega)
    go_enter Tryz.func76, Tryz.ntmps76
    go_wp2
    go_ret
    exact ⟨ret_bool (by rw [HX.out]; first | done | (simp only [decide_eq_false_iff_not]; omega) | (simp only [Bool.or_eq_false_iff, decide_eq_false_iff_not]; omega)), rfl⟩
  · have HX : Hid (startZ c = true) := startZ_yes (c := c) (by omega)
    have e95 : (c == 95) = false := beq_eq_false_iff_ne.2 (by omega)
    go_enter Tryz.func76, Tryz.ntmps76
    go_wp2
    go_ret
    exact ⟨ret_bool (by rw [HX.out]; first | done | (simp only [decide_eq_false_iff_not]; omega) | (simp only [Bool.or_eq_false_iff, decide_eq_false_iff_not]; omega)), rfl⟩

theorem part_any (c : Int) (w : World) : Calls Tryz.prog 53 #[.int .i32 c] w fun e w' => e = .returned (.bool (partZ c)) ∧ w = w' := by
  cases hs : startZ c
  · cases hd : digitZ c
    · have HX : Hid (partZ c = (c == 45)) := by show partZ c = _; simp [partZ, hs, hd]
      go_enter Tryz.func53, Tryz.ntmps53
      go_wp2_with (first | (go_at_call 76; refine (start_any _ _).mono ?_; rintro e w' ⟨rfl, rfl⟩) | (go_at_call 77; refine (digit_any _ _).mono ?_; rintro e w' ⟨rfl, rfl⟩))
      go_ret
      exact ⟨ret_bool (by rw [HX.out]), rfl⟩
    · have HX : Hid (partZ c = true) := by show partZ c = _; simp [partZ, hd]
      go_enter Tryz.func53, Tryz.ntmps53
      go_wp2_with (first | (go_at_call 76; refine (start_any _ _).mono ?_; rintro e w' ⟨rfl, rfl⟩) | (go_at_call 77; refine (digit_any _ _).mono ?_; rintro e w' ⟨rfl, rfl⟩))
      go_ret
      exact ⟨ret_bool (by rw [HX.out]), rfl⟩
  · have HX : Hid (partZ c = true) := by show partZ c = _; simp [partZ, hs]
    go_enter Tryz.func53, Tryz.ntmps53
    go_wp2_with (first | (go_at_call 76; refine (start_any _ _).mono ?_; rintro e w' ⟨rfl, rfl⟩) | (go_at_call 77; refine (digit_any _ _).mono ?_; rintro e w' ⟨rfl, rfl⟩))
    go_ret
    exact ⟨ret_bool (by rw [HX.out]), rfl⟩

end Go.Proofs.YtdibldcnklgcjaaGreatDoor
