/- What the second reading of tokens (gouacheref02) sees at a place of the characters: a character, an escape, the beginning of a name and of a number. -/
import Derived.Test.YtihdiaklhkecmabMath
import Derived.Test.YtihdiaklhkecmabFold
namespace Go.Proofs.Ytihdiaklhkecmab
open Go.RowKit

def Fine (xs : List Int) : Prop := xs.length ≤ 1000000000 ∧ ∀ c ∈ xs, IsChar c
theorem hid_mk {p : Prop} (h : p) : Hid p := h
theorem hd_drop (l : List Int) (i j : Nat) : hd (l.drop i) j = hd l (i + j) := by simp [hd, List.getD]
theorem hd_bounds {xs : List Int} (fx : Fine xs) (i : Nat) : -1 ≤ hd xs i ∧ hd xs i ≤ 1114111 := by
  unfold hd
  by_cases h : i < xs.length
  · have hm : xs.getD i (-1) ∈ xs := by simp [List.getD, h]
    have := fx.2 _ hm
    unfold IsChar at this
    omega
  · have : xs.getD i (-1) = -1 := by simp [List.getD, List.getElem?_eq_none (Nat.le_of_not_lt h)]
    omega

section
variable {w : World} {v : Value} {xs : List Int}

theorem rat_any (hv : RowAt .i32 w v xs) (fx : Fine xs) (i : Nat) (j : Int) (hj : j = i) :
    Calls Try.prog 39 #[v, .int .i64 j] w fun e w' => e = .returned (.int .i32 (hd xs i)) ∧ w = w' := by
  subst hj
  obtain ⟨a, cap, rfl, hcap, hc⟩ := hv
  have hl := fx.1
  clear fx
  by_cases h : i < xs.length
  · obtain ⟨b, off, rfl, hcell⟩ := hc (by omega)
    have c0 := hcell i h
    have HE : Hid (hd xs i = xs.getD i 0) := by show hd xs i = xs.getD i 0; simp [hd, List.getD, h]
    generalize xs.getD i 0 = c at c0 HE
    clear hc hcell
    go_enter Try.func39, Try.ntmps39
    go_wp2
    go_ret
    exact ⟨ret_int (by rw [HE.out]), rfl⟩
  · have HE : Hid (hd xs i = -1) := by show hd xs i = -1; simp [hd, List.getD, List.getElem?_eq_none (Nat.le_of_not_lt h)]
    have h2 : (xs.length : Int) ≤ i := by omega
    clear hc
    go_enter Try.func39, Try.ntmps39
    go_wp2
    go_ret
    exact ⟨ret_int (by rw [HE.out]), rfl⟩
theorem rstart_any (c : Int) (w : World) : Calls Try.prog 55 #[.int .i32 c] w fun e w' => e = .returned (.bool (startZ c)) ∧ w = w' := by
  by_cases h : c = -1
  · subst h
    have HE : Hid (startZ (-1) = false) := by show startZ (-1) = false; decide
    go_enter Try.func55, Try.ntmps55
    go_wp2
    go_ret
    exact ⟨ret_bool (by rw [HE.out]), rfl⟩
  · have e1 : (c != -1) = true := by simpa using h
    go_enter Try.func55, Try.ntmps55
    go_wp2_with (go_at_call 61; fail)
    refine (refStart_any _ _).mono ?_
    rintro e w' ⟨rfl, rfl⟩
    go_wp2
    go_ret
    exact ⟨rfl, rfl⟩
theorem rpart_any (c : Int) (w : World) : Calls Try.prog 43 #[.int .i32 c] w fun e w' => e = .returned (.bool (partZ c)) ∧ w = w' := by
  by_cases h : c = -1
  · subst h
    have HE : Hid (partZ (-1) = false) := by show partZ (-1) = false; decide
    go_enter Try.func43, Try.ntmps43
    go_wp2
    go_ret
    exact ⟨ret_bool (by rw [HE.out]), rfl⟩
  · have e1 : (c != -1) = true := by simpa using h
    go_enter Try.func43, Try.ntmps43
    go_wp2_with (go_at_call 54; fail)
    refine (refPart_any _ _).mono ?_
    rintro e w' ⟨rfl, rfl⟩
    go_wp2
    go_ret
    exact ⟨rfl, rfl⟩
theorem rdigit_any (c : Int) (w : World) : Calls Try.prog 56 #[.int .i32 c] w fun e w' => e = .returned (.bool (digitZ c)) ∧ w = w' := by
  by_cases h : c = -1
  · subst h
    have HE : Hid (digitZ (-1) = false) := by show digitZ (-1) = false; decide
    go_enter Try.func56, Try.ntmps56
    go_wp2
    go_ret
    exact ⟨ret_bool (by rw [HE.out]), rfl⟩
  · have e1 : (c != -1) = true := by simpa using h
    go_enter Try.func56, Try.ntmps56
    go_wp2_with (go_at_call 62; fail)
    refine (refDigit_any _ _).mono ?_
    rintro e w' ⟨rfl, rfl⟩
    go_wp2
    go_ret
    exact ⟨rfl, rfl⟩
set_option maxHeartbeats 400000 in
theorem resc_any (hv : RowAt .i32 w v xs) (fx : Fine xs) (i : Nat) (j : Int) (hj : j = i) (hi : i ≤ 2000000000) :
    Calls Try.prog 44 #[v, .int .i64 j] w fun e w' => e = .returned (.bool (escB (xs.drop i))) ∧ w = w' := by
  subst hj
  have ha := rat_any hv fx i i rfl
  have hb := rat_any hv fx (i + 1) (i + 1) (by omega)
  have HE : Hid (escB (xs.drop i) = (hd xs i == 92 && hd xs (i + 1) != 10)) := by show escB (xs.drop i) = _; simp only [escB, hd_drop]; rfl
  clear hv fx
  generalize hd xs i = c0 at ha HE
  generalize hd xs (i + 1) = c1 at hb HE
  by_cases h0 : c0 = 92
  · subst h0
    go_enter Try.func44, Try.ntmps44
    go_wp2_with (go_at_call 39; fail)
    refine (ha).mono ?_
    rintro e w' ⟨rfl, rfl⟩
    go_wp2_with (go_at_call 39; fail)
    refine (hb).mono ?_
    rintro e w' ⟨rfl, rfl⟩
    go_wp2
    go_ret
    exact ⟨ret_bool (by rw [HE.out]; simp), rfl⟩
  · have e0 : (c0 == 92) = false := by simpa using h0
    go_enter Try.func44, Try.ntmps44
    go_wp2_with (go_at_call 39; fail)
    refine (ha).mono ?_
    rintro e w' ⟨rfl, rfl⟩
    go_wp2
    go_ret
    exact ⟨ret_bool (by rw [HE.out, e0]; rfl), rfl⟩

set_option maxHeartbeats 400000 in
theorem rnames_any (hv : RowAt .i32 w v xs) (fx : Fine xs) (i : Nat) (j : Int) (hj : j = i) (hi : i ≤ 1500000000) :
    Calls Try.prog 45 #[v, .int .i64 j] w fun e w' => e = .returned (.bool (nameB (xs.drop i))) ∧ w = w' := by
  subst hj
  have ha := rat_any hv fx i i rfl
  have hb := rat_any hv fx (i + 1) (i + 1) (by omega)
  have hc := resc_any hv fx i i rfl (by omega)
  have hd' := resc_any hv fx (i + 1) (i + 1) (by omega) (by omega)
  have HE : Hid (nameB (xs.drop i) = if hd xs i == 45 then (hd xs (i + 1) == 45 || (startZ (hd xs (i + 1)) || escB (xs.drop (i + 1)))) else (startZ (hd xs i) || escB (xs.drop i))) := by
    show nameB (xs.drop i) = _; simp only [nameB, wordB, hd_drop, List.drop_drop]; rfl
  clear hv fx
  generalize hd xs i = c0 at ha HE
  generalize hd xs (i + 1) = c1 at hb HE
  generalize escB (xs.drop i) = x0 at hc HE
  generalize escB (xs.drop (i + 1)) = x1 at hd' HE
  by_cases h0 : c0 = 45
  · subst h0
    cases hs : startZ c1
    · by_cases h1 : c1 = 45
      · subst h1
        go_enter Try.func45, Try.ntmps45
        go_wp2_with (go_at_call 39; fail)
        refine (ha).mono ?_
        rintro e w' ⟨rfl, rfl⟩
        go_wp2_with (go_at_call 39; fail)
        refine (hb).mono ?_
        rintro e w' ⟨rfl, rfl⟩
        go_wp2_with (go_at_call 55; fail)
        refine (rstart_any _ _).mono ?_
        rintro e w' ⟨rfl, rfl⟩
        go_wp2_with (go_at_call 39; fail)
        refine (hb).mono ?_
        rintro e w' ⟨rfl, rfl⟩
        go_wp2
        go_ret
        exact ⟨ret_bool (by rw [HE.out]; simp), rfl⟩
      · have e1 : (c1 == 45) = false := by simpa using h1
        go_enter Try.func45, Try.ntmps45
        go_wp2_with (go_at_call 39; fail)
        refine (ha).mono ?_
        rintro e w' ⟨rfl, rfl⟩
        go_wp2_with (go_at_call 39; fail)
        refine (hb).mono ?_
        rintro e w' ⟨rfl, rfl⟩
        go_wp2_with (go_at_call 55; fail)
        refine (rstart_any _ _).mono ?_
        rintro e w' ⟨rfl, rfl⟩
        go_wp2_with (go_at_call 39; fail)
        refine (hb).mono ?_
        rintro e w' ⟨rfl, rfl⟩
        go_wp2_with (go_at_call 44; fail)
        refine (hd').mono ?_
        rintro e w' ⟨rfl, rfl⟩
        go_wp2
        go_ret
        exact ⟨ret_bool (by rw [HE.out, hs, e1]; simp), rfl⟩
    · 
      go_enter Try.func45, Try.ntmps45
      go_wp2_with (go_at_call 39; fail)
      refine (ha).mono ?_
      rintro e w' ⟨rfl, rfl⟩
      go_wp2_with (go_at_call 39; fail)
      refine (hb).mono ?_
      rintro e w' ⟨rfl, rfl⟩
      go_wp2_with (go_at_call 55; fail)
      refine (rstart_any _ _).mono ?_
      rintro e w' ⟨rfl, rfl⟩
      go_wp2
      go_ret
      exact ⟨ret_bool (by rw [HE.out, hs]; simp), rfl⟩
  · have e0 : (c0 == 45) = false := by simpa using h0
    cases hs : startZ c0
    · 
      go_enter Try.func45, Try.ntmps45
      go_wp2_with (go_at_call 39; fail)
      refine (ha).mono ?_
      rintro e w' ⟨rfl, rfl⟩
      go_wp2_with (go_at_call 55; fail)
      refine (rstart_any _ _).mono ?_
      rintro e w' ⟨rfl, rfl⟩
      go_wp2_with (go_at_call 44; fail)
      refine (hc).mono ?_
      rintro e w' ⟨rfl, rfl⟩
      go_wp2
      go_ret
      exact ⟨ret_bool (by rw [HE.out, hs, e0]; simp), rfl⟩
    · 
      go_enter Try.func45, Try.ntmps45
      go_wp2_with (go_at_call 39; fail)
      refine (ha).mono ?_
      rintro e w' ⟨rfl, rfl⟩
      go_wp2_with (go_at_call 55; fail)
      refine (rstart_any _ _).mono ?_
      rintro e w' ⟨rfl, rfl⟩
      go_wp2
      go_ret
      exact ⟨ret_bool (by rw [HE.out, hs, e0]; simp), rfl⟩

theorem numB_eq (l : List Int) : numB l = if hd l 0 == 43 || hd l 0 == 45 then (digitZ (hd l 1) || (hd l 1 == 46 && digitZ (hd l 2))) else (digitZ (hd l 0) || (hd l 0 == 46 && digitZ (hd l 1))) := by
  unfold numB unsignZ
  by_cases h : signB l = true
  · have h' : (hd l 0 == 43 || hd l 0 == 45) = true := h
    rw [if_pos h, if_pos h']
    show (digitZ (hd (l.drop 1) 0) || (hd (l.drop 1) 0 == 46 && digitZ (hd (l.drop 1) 1))) = _
    rw [hd_drop, hd_drop]
  · have h' : ¬ (hd l 0 == 43 || hd l 0 == 45) = true := h
    rw [if_neg h, if_neg h']
    rfl
set_option maxHeartbeats 1000000 in
theorem rnumbers_any (hv : RowAt .i32 w v xs) (fx : Fine xs) (i : Nat) (j : Int) (hj : j = i) (hi : i ≤ 1500000000) :
    Calls Try.prog 47 #[v, .int .i64 j] w fun e w' => e = .returned (.bool (numB (xs.drop i))) ∧ w = w' := by
  subst hj
  have ha := rat_any hv fx i i rfl
  have hb := rat_any hv fx (i + 1) (i + 1) (by omega)
  have hc := rat_any hv fx (i + 2) (i + 1 + 1) (by omega)
  have HE : Hid (numB (xs.drop i) = if hd xs i == 43 || hd xs i == 45 then (digitZ (hd xs (i + 1)) || (hd xs (i + 1) == 46 && digitZ (hd xs (i + 2)))) else (digitZ (hd xs i) || (hd xs i == 46 && digitZ (hd xs (i + 1))))) := by
    show numB (xs.drop i) = _; rw [numB_eq]; simp only [hd_drop, Nat.add_zero]
  clear hv fx
  generalize hd xs i = c0 at ha HE
  generalize hd xs (i + 1) = c1 at hb HE
  generalize hd xs (i + 2) = c2 at hc HE
  rcases (show c0 = 43 ∨ c0 = 45 ∨ (c0 ≠ 43 ∧ c0 ≠ 45) by omega) with rfl | rfl | ⟨n43, n45⟩
  · cases hdg : digitZ c1
    · by_cases h1 : c1 = 46
      · subst h1
        go_enter Try.func47, Try.ntmps47
        go_wp2_with (go_at_call 39; fail)
        refine (ha).mono ?_
        rintro e w' ⟨rfl, rfl⟩
        go_wp2_with (go_at_call 39; fail)
        refine (hb).mono ?_
        rintro e w' ⟨rfl, rfl⟩
        go_wp2_with (go_at_call 56; fail)
        refine (rdigit_any _ _).mono ?_
        rintro e w' ⟨rfl, rfl⟩
        go_wp2_with (go_at_call 39; fail)
        refine (hc).mono ?_
        rintro e w' ⟨rfl, rfl⟩
        go_wp2_with (go_at_call 56; fail)
        refine (rdigit_any _ _).mono ?_
        rintro e w' ⟨rfl, rfl⟩
        go_wp2
        go_ret
        exact ⟨ret_bool (by rw [HE.out, hdg]; simp), rfl⟩
      · have e1 : (c1 == 46) = false := by simpa using h1
        go_enter Try.func47, Try.ntmps47
        go_wp2_with (go_at_call 39; fail)
        refine (ha).mono ?_
        rintro e w' ⟨rfl, rfl⟩
        go_wp2_with (go_at_call 39; fail)
        refine (hb).mono ?_
        rintro e w' ⟨rfl, rfl⟩
        go_wp2_with (go_at_call 56; fail)
        refine (rdigit_any _ _).mono ?_
        rintro e w' ⟨rfl, rfl⟩
        go_wp2
        go_ret
        exact ⟨ret_bool (by rw [HE.out, hdg, e1]; simp), rfl⟩
    · 
      go_enter Try.func47, Try.ntmps47
      go_wp2_with (go_at_call 39; fail)
      refine (ha).mono ?_
      rintro e w' ⟨rfl, rfl⟩
      go_wp2_with (go_at_call 39; fail)
      refine (hb).mono ?_
      rintro e w' ⟨rfl, rfl⟩
      go_wp2_with (go_at_call 56; fail)
      refine (rdigit_any _ _).mono ?_
      rintro e w' ⟨rfl, rfl⟩
      go_wp2
      go_ret
      exact ⟨ret_bool (by rw [HE.out, hdg]; simp), rfl⟩
  · cases hdg : digitZ c1
    · by_cases h1 : c1 = 46
      · subst h1
        go_enter Try.func47, Try.ntmps47
        go_wp2_with (go_at_call 39; fail)
        refine (ha).mono ?_
        rintro e w' ⟨rfl, rfl⟩
        go_wp2_with (go_at_call 39; fail)
        refine (hb).mono ?_
        rintro e w' ⟨rfl, rfl⟩
        go_wp2_with (go_at_call 56; fail)
        refine (rdigit_any _ _).mono ?_
        rintro e w' ⟨rfl, rfl⟩
        go_wp2_with (go_at_call 39; fail)
        refine (hc).mono ?_
        rintro e w' ⟨rfl, rfl⟩
        go_wp2_with (go_at_call 56; fail)
        refine (rdigit_any _ _).mono ?_
        rintro e w' ⟨rfl, rfl⟩
        go_wp2
        go_ret
        exact ⟨ret_bool (by rw [HE.out, hdg]; simp), rfl⟩
      · have e1 : (c1 == 46) = false := by simpa using h1
        go_enter Try.func47, Try.ntmps47
        go_wp2_with (go_at_call 39; fail)
        refine (ha).mono ?_
        rintro e w' ⟨rfl, rfl⟩
        go_wp2_with (go_at_call 39; fail)
        refine (hb).mono ?_
        rintro e w' ⟨rfl, rfl⟩
        go_wp2_with (go_at_call 56; fail)
        refine (rdigit_any _ _).mono ?_
        rintro e w' ⟨rfl, rfl⟩
        go_wp2
        go_ret
        exact ⟨ret_bool (by rw [HE.out, hdg, e1]; simp), rfl⟩
    · 
      go_enter Try.func47, Try.ntmps47
      go_wp2_with (go_at_call 39; fail)
      refine (ha).mono ?_
      rintro e w' ⟨rfl, rfl⟩
      go_wp2_with (go_at_call 39; fail)
      refine (hb).mono ?_
      rintro e w' ⟨rfl, rfl⟩
      go_wp2_with (go_at_call 56; fail)
      refine (rdigit_any _ _).mono ?_
      rintro e w' ⟨rfl, rfl⟩
      go_wp2
      go_ret
      exact ⟨ret_bool (by rw [HE.out, hdg]; simp), rfl⟩
  · have e43 : (c0 == 43) = false := by simpa using n43
    have e45 : (c0 == 45) = false := by simpa using n45
    cases hdg : digitZ c0
    · by_cases h1 : c0 = 46
      · subst h1
        go_enter Try.func47, Try.ntmps47
        go_wp2_with (go_at_call 39; fail)
        refine (ha).mono ?_
        rintro e w' ⟨rfl, rfl⟩
        go_wp2_with (go_at_call 56; fail)
        refine (rdigit_any _ _).mono ?_
        rintro e w' ⟨rfl, rfl⟩
        go_wp2_with (go_at_call 39; fail)
        refine (hb).mono ?_
        rintro e w' ⟨rfl, rfl⟩
        go_wp2_with (go_at_call 56; fail)
        refine (rdigit_any _ _).mono ?_
        rintro e w' ⟨rfl, rfl⟩
        go_wp2
        go_ret
        exact ⟨ret_bool (by rw [HE.out, hdg]; simp), rfl⟩
      · have e1 : (c0 == 46) = false := by simpa using h1
        go_enter Try.func47, Try.ntmps47
        go_wp2_with (go_at_call 39; fail)
        refine (ha).mono ?_
        rintro e w' ⟨rfl, rfl⟩
        go_wp2_with (go_at_call 56; fail)
        refine (rdigit_any _ _).mono ?_
        rintro e w' ⟨rfl, rfl⟩
        go_wp2
        go_ret
        exact ⟨ret_bool (by rw [HE.out, hdg, e1, e43, e45]; simp), rfl⟩
    · 
      go_enter Try.func47, Try.ntmps47
      go_wp2_with (go_at_call 39; fail)
      refine (ha).mono ?_
      rintro e w' ⟨rfl, rfl⟩
      go_wp2_with (go_at_call 56; fail)
      refine (rdigit_any _ _).mono ?_
      rintro e w' ⟨rfl, rfl⟩
      go_wp2
      go_ret
      exact ⟨ret_bool (by rw [HE.out, hdg, e43, e45]; simp), rfl⟩
end
end Go.Proofs.Ytihdiaklhkecmab
