/- What begins at the cutter's place: an escape, a name, a number: as the characters that are left say. -/
import Derived.Test.YtdibldcnklgcjaaGreatDoorCut
namespace Go.Proofs.YtdibldcnklgcjaaGreatDoor
open Go.RowKit
set_option maxRecDepth 100000

theorem drew0 (w : World) : w.drewN 0 = w := rfl

section
variable {w : World} {b : Nat} {v out : Value} {xs l : List Int}

theorem ahead_r (h : At w b v out xs l) (fx : Fine xs) (i : Nat) (j : Int) (hj : j = i) (hi : i ≤ 1000000000) (n : Nat) :
    Calls Tryz.prog 46 #[.pointer (some ⟨b, 0, none⟩), .int .i64 j] (w.drewN n) fun e w' => e = .returned (.int .i32 (hd l i)) ∧ ∃ m, w' = w.drewN m := by
  subst hj
  refine (ahead_any b v out xs l i _ fx (at_drew h n) hi).mono ?_
  rintro e w' ⟨rfl, m, rfl⟩
  exact ⟨rfl, _, drewN_twice _ _ _⟩
theorem done_r (h : At w b v out xs l) (fx : Fine xs) (n : Nat) :
    Calls Tryz.prog 28 #[.pointer (some ⟨b, 0, none⟩)] (w.drewN n) fun e w' => e = .returned (.bool (decide (l = []))) ∧ ∃ m, w' = w.drewN m := by
  refine (done_any b v out xs l _ fx (at_drew h n)).mono ?_
  rintro e w' ⟨rfl, m, rfl⟩
  exact ⟨rfl, _, drewN_twice _ _ _⟩
theorem hd_drop (l : List Int) (i j : Nat) : hd (l.drop i) j = hd l (i + j) := by simp [hd, List.getD]

set_option maxHeartbeats 400000 in
theorem escB_r (h : At w b v out xs l) (fx : Fine xs) (i : Nat) (j : Int) (hj : j = i) (hi : i ≤ 1000000) (n : Nat) :
    Calls Tryz.prog 54 #[.pointer (some ⟨b, 0, none⟩), .int .i64 j] (w.drewN n) fun e w' => e = .returned (.bool (escB (l.drop i))) ∧ ∃ m, w' = w.drewN m := by
  subst hj
  have ha := fun m => ahead_r h fx i i rfl (by omega) m
  have hb := fun m => ahead_r h fx (i + 1) (i + 1) (by omega) (by omega) m
  have HE : Hid (escB (l.drop i) = (hd l i == 92 && hd l (i + 1) != 10)) := by show escB (l.drop i) = _; simp only [escB, hd_drop]; rfl
  clear h fx
  generalize hd l i = c0 at ha HE
  generalize hd l (i + 1) = c1 at hb HE
  by_cases h0 : c0 = 92
  · subst h0
    go_enter Tryz.func54, Tryz.ntmps54
    go_wp2_with (go_at_call 46; fail)
    refine (ha _).mono ?_
    rintro e w' ⟨rfl, m, rfl⟩
    go_wp2_with (go_at_call 46; fail)
    refine (hb _).mono ?_
    rintro e w' ⟨rfl, m, rfl⟩
    go_wp2
    go_ret
    exact ⟨ret_bool (by rw [HE.out]; simp), _, rfl⟩
  · have e0 : (c0 == 92) = false := by simpa using h0
    go_enter Tryz.func54, Tryz.ntmps54
    go_wp2_with (go_at_call 46; fail)
    refine (ha _).mono ?_
    rintro e w' ⟨rfl, m, rfl⟩
    go_wp2
    go_ret
    exact ⟨ret_bool (by rw [HE.out, e0]; rfl), _, rfl⟩

set_option maxHeartbeats 400000 in
theorem wordB_r (h : At w b v out xs l) (fx : Fine xs) (i : Nat) (j : Int) (hj : j = i) (hi : i ≤ 100000) (n : Nat) :
    Calls Tryz.prog 78 #[.pointer (some ⟨b, 0, none⟩), .int .i64 j] (w.drewN n) fun e w' => e = .returned (.bool (wordB (l.drop i))) ∧ ∃ m, w' = w.drewN m := by
  subst hj
  have ha := fun m => ahead_r h fx i i rfl (by omega) m
  have hb := fun m => escB_r h fx i i rfl (by omega) m
  have HE : Hid (wordB (l.drop i) = (startZ (hd l i) || escB (l.drop i))) := by show wordB (l.drop i) = _; simp only [wordB, hd_drop]; rfl
  clear h fx
  generalize hd l i = c0 at ha HE
  generalize escB (l.drop i) = c1 at hb HE
  cases h0 : startZ c0
  · go_enter Tryz.func78, Tryz.ntmps78
    go_wp2_with (go_at_call 46; fail)
    refine (ha _).mono ?_
    rintro e w' ⟨rfl, m, rfl⟩
    go_wp2_with (go_at_call 76; fail)
    refine (start_any _ _).mono ?_
    rintro e w' ⟨rfl, rfl⟩
    go_wp2_with (go_at_call 54; fail)
    refine (hb _).mono ?_
    rintro e w' ⟨rfl, m, rfl⟩
    go_wp2
    go_ret
    exact ⟨ret_bool (by rw [HE.out, h0]; simp), _, rfl⟩
  · go_enter Tryz.func78, Tryz.ntmps78
    go_wp2_with (go_at_call 46; fail)
    refine (ha _).mono ?_
    rintro e w' ⟨rfl, m, rfl⟩
    go_wp2_with (go_at_call 76; fail)
    refine (start_any _ _).mono ?_
    rintro e w' ⟨rfl, rfl⟩
    go_wp2
    go_ret
    exact ⟨ret_bool (by rw [HE.out, h0]; simp), _, rfl⟩

set_option maxHeartbeats 400000 in
theorem nameB_r (h : At w b v out xs l) (fx : Fine xs) (i : Nat) (j : Int) (hj : j = i) (hi : i ≤ 10000) (n : Nat) :
    Calls Tryz.prog 55 #[.pointer (some ⟨b, 0, none⟩), .int .i64 j] (w.drewN n) fun e w' => e = .returned (.bool (nameB (l.drop i))) ∧ ∃ m, w' = w.drewN m := by
  subst hj
  have ha := fun m => ahead_r h fx i i rfl (by omega) m
  have hb := fun m => ahead_r h fx (i + 1) (i + 1) (by omega) (by omega) m
  have hc := fun m => wordB_r h fx i i rfl (by omega) m
  have hd' := fun m => wordB_r h fx (i + 1) (i + 1) (by omega) (by omega) m
  have HE : Hid (nameB (l.drop i) = if hd l i == 45 then (hd l (i + 1) == 45 || wordB (l.drop (i + 1))) else wordB (l.drop i)) := by
    show nameB (l.drop i) = _; simp only [nameB, hd_drop, List.drop_drop]; rfl
  clear h fx
  generalize hd l i = c0 at ha HE
  generalize hd l (i + 1) = c1 at hb HE
  generalize wordB (l.drop i) = x0 at hc HE
  generalize wordB (l.drop (i + 1)) = x1 at hd' HE
  by_cases h0 : c0 = 45
  · subst h0
    by_cases h1 : c1 = 45
    · subst h1
      go_enter Tryz.func55, Tryz.ntmps55
      go_wp2_with (go_at_call 46; fail)
      refine (ha _).mono ?_
      rintro e w' ⟨rfl, m, rfl⟩
      go_wp2_with (go_at_call 46; fail)
      refine (hb _).mono ?_
      rintro e w' ⟨rfl, m, rfl⟩
      go_wp2
      go_ret
      exact ⟨ret_bool (by rw [HE.out]; simp), _, rfl⟩
    · have e1 : (c1 == 45) = false := by simpa using h1
      go_enter Tryz.func55, Tryz.ntmps55
      go_wp2_with (go_at_call 46; fail)
      refine (ha _).mono ?_
      rintro e w' ⟨rfl, m, rfl⟩
      go_wp2_with (go_at_call 46; fail)
      refine (hb _).mono ?_
      rintro e w' ⟨rfl, m, rfl⟩
      go_wp2_with (go_at_call 78; fail)
      refine (hd' _).mono ?_
      rintro e w' ⟨rfl, m, rfl⟩
      go_wp2
      go_ret
      exact ⟨ret_bool (by rw [HE.out, e1]; simp), _, rfl⟩
  · have e0 : (c0 == 45) = false := by simpa using h0
    go_enter Tryz.func55, Tryz.ntmps55
    go_wp2_with (go_at_call 46; fail)
    refine (ha _).mono ?_
    rintro e w' ⟨rfl, m, rfl⟩
    go_wp2_with (go_at_call 78; fail)
    refine (hc _).mono ?_
    rintro e w' ⟨rfl, m, rfl⟩
    go_wp2
    go_ret
    exact ⟨ret_bool (by rw [HE.out, e0]; rfl), _, rfl⟩

set_option maxHeartbeats 400000 in
theorem signB_r (h : At w b v out xs l) (fx : Fine xs) (i : Nat) (j : Int) (hj : j = i) (hi : i ≤ 100000) (n : Nat) :
    Calls Tryz.prog 79 #[.pointer (some ⟨b, 0, none⟩), .int .i64 j] (w.drewN n) fun e w' => e = .returned (.bool (signB (l.drop i))) ∧ ∃ m, w' = w.drewN m := by
  subst hj
  have ha := fun m => ahead_r h fx i i rfl (by omega) m
  have HE : Hid (signB (l.drop i) = (hd l i == 43 || hd l i == 45)) := by show signB (l.drop i) = _; simp only [signB, hd_drop]; rfl
  clear h fx
  generalize hd l i = c0 at ha HE
  by_cases h0 : c0 = 43
  · subst h0
    go_enter Tryz.func79, Tryz.ntmps79
    go_wp2_with (go_at_call 46; fail)
    refine (ha _).mono ?_
    rintro e w' ⟨rfl, m, rfl⟩
    go_wp2
    go_ret
    exact ⟨ret_bool (by rw [HE.out]; simp), _, rfl⟩
  · have e0 : (c0 == 43) = false := by simpa using h0
    go_enter Tryz.func79, Tryz.ntmps79
    go_wp2_with (go_at_call 46; fail)
    refine (ha _).mono ?_
    rintro e w' ⟨rfl, m, rfl⟩
    go_wp2_with (go_at_call 46; fail)
    refine (ha _).mono ?_
    rintro e w' ⟨rfl, m, rfl⟩
    go_wp2
    go_ret
    exact ⟨ret_bool (by rw [HE.out, e0]; simp), _, rfl⟩

set_option maxHeartbeats 400000 in
theorem dotB_r (h : At w b v out xs l) (fx : Fine xs) (i : Nat) (j : Int) (hj : j = i) (hi : i ≤ 100000) (n : Nat) :
    Calls Tryz.prog 80 #[.pointer (some ⟨b, 0, none⟩), .int .i64 j] (w.drewN n) fun e w' => e = .returned (.bool (dotB (l.drop i))) ∧ ∃ m, w' = w.drewN m := by
  subst hj
  have ha := fun m => ahead_r h fx i i rfl (by omega) m
  have hb := fun m => ahead_r h fx (i + 1) (i + 1) (by omega) (by omega) m
  have HE : Hid (dotB (l.drop i) = (hd l i == 46 && digitZ (hd l (i + 1)))) := by show dotB (l.drop i) = _; simp only [dotB, hd_drop]; rfl
  clear h fx
  generalize hd l i = c0 at ha HE
  generalize hd l (i + 1) = c1 at hb HE
  by_cases h0 : c0 = 46
  · subst h0
    go_enter Tryz.func80, Tryz.ntmps80
    go_wp2_with (go_at_call 46; fail)
    refine (ha _).mono ?_
    rintro e w' ⟨rfl, m, rfl⟩
    go_wp2_with (go_at_call 46; fail)
    refine (hb _).mono ?_
    rintro e w' ⟨rfl, m, rfl⟩
    go_wp2_with (go_at_call 77; fail)
    refine (digit_any _ _).mono ?_
    rintro e w' ⟨rfl, rfl⟩
    go_wp2
    go_ret
    exact ⟨ret_bool (by rw [HE.out]; simp), _, rfl⟩
  · have e0 : (c0 == 46) = false := by simpa using h0
    go_enter Tryz.func80, Tryz.ntmps80
    go_wp2_with (go_at_call 46; fail)
    refine (ha _).mono ?_
    rintro e w' ⟨rfl, m, rfl⟩
    go_wp2
    go_ret
    exact ⟨ret_bool (by rw [HE.out, e0]; rfl), _, rfl⟩

set_option maxHeartbeats 400000 in
theorem numB_r (h : At w b v out xs l) (fx : Fine xs) (n : Nat) :
    Calls Tryz.prog 57 #[.pointer (some ⟨b, 0, none⟩)] (w.drewN n) fun e w' => e = .returned (.bool (numB l)) ∧ ∃ m, w' = w.drewN m := by
  have hs := fun m => signB_r h fx 0 0 rfl (by omega) m
  have a0 := fun m => ahead_r h fx 0 0 rfl (by omega) m
  have a1 := fun m => ahead_r h fx 1 1 rfl (by omega) m
  have d0 := fun m => dotB_r h fx 0 0 rfl (by omega) m
  have d1 := fun m => dotB_r h fx 1 1 rfl (by omega) m
  have HE : Hid (numB l = if signB l then (digitZ (hd l 1) || dotB (l.drop 1)) else (digitZ (hd l 0) || dotB l)) := by
    show numB l = _
    unfold numB unsignZ
    split
    · rw [hd_drop]
    · rfl
  simp only [List.drop_zero] at hs d0
  clear h fx
  generalize hd l 0 = c0 at a0 HE
  generalize hd l 1 = c1 at a1 HE
  generalize dotB l = x0 at d0 HE
  generalize dotB (l.drop 1) = x1 at d1 HE
  cases hsg : signB l
  · rw [hsg] at hs
    cases h0 : digitZ c0
    · go_enter Tryz.func57, Tryz.ntmps57
      go_wp2_with (go_at_call 79; fail)
      refine (hs _).mono ?_
      rintro e w' ⟨rfl, m, rfl⟩
      go_wp2_with (go_at_call 46; fail)
      refine (a0 _).mono ?_
      rintro e w' ⟨rfl, m, rfl⟩
      go_wp2_with (go_at_call 77; fail)
      refine (digit_any _ _).mono ?_
      rintro e w' ⟨rfl, rfl⟩
      go_wp2_with (go_at_call 80; fail)
      refine (d0 _).mono ?_
      rintro e w' ⟨rfl, m, rfl⟩
      go_wp2
      go_ret
      exact ⟨ret_bool (by rw [HE.out, hsg, h0]; simp), _, rfl⟩
    · go_enter Tryz.func57, Tryz.ntmps57
      go_wp2_with (go_at_call 79; fail)
      refine (hs _).mono ?_
      rintro e w' ⟨rfl, m, rfl⟩
      go_wp2_with (go_at_call 46; fail)
      refine (a0 _).mono ?_
      rintro e w' ⟨rfl, m, rfl⟩
      go_wp2_with (go_at_call 77; fail)
      refine (digit_any _ _).mono ?_
      rintro e w' ⟨rfl, rfl⟩
      go_wp2
      go_ret
      exact ⟨ret_bool (by rw [HE.out, hsg, h0]; simp), _, rfl⟩
  · rw [hsg] at hs
    cases h0 : digitZ c1
    · go_enter Tryz.func57, Tryz.ntmps57
      go_wp2_with (go_at_call 79; fail)
      refine (hs _).mono ?_
      rintro e w' ⟨rfl, m, rfl⟩
      go_wp2_with (go_at_call 46; fail)
      refine (a1 _).mono ?_
      rintro e w' ⟨rfl, m, rfl⟩
      go_wp2_with (go_at_call 77; fail)
      refine (digit_any _ _).mono ?_
      rintro e w' ⟨rfl, rfl⟩
      go_wp2_with (go_at_call 80; fail)
      refine (d1 _).mono ?_
      rintro e w' ⟨rfl, m, rfl⟩
      go_wp2
      go_ret
      exact ⟨ret_bool (by rw [HE.out, hsg, h0]; simp), _, rfl⟩
    · go_enter Tryz.func57, Tryz.ntmps57
      go_wp2_with (go_at_call 79; fail)
      refine (hs _).mono ?_
      rintro e w' ⟨rfl, m, rfl⟩
      go_wp2_with (go_at_call 46; fail)
      refine (a1 _).mono ?_
      rintro e w' ⟨rfl, m, rfl⟩
      go_wp2_with (go_at_call 77; fail)
      refine (digit_any _ _).mono ?_
      rintro e w' ⟨rfl, rfl⟩
      go_wp2
      go_ret
      exact ⟨ret_bool (by rw [HE.out, hsg, h0]; simp), _, rfl⟩
end
end Go.Proofs.YtdibldcnklgcjaaGreatDoor
