/- A number in the second reading: a Number, a Percent, a Dimension. -/
import Derived.Test.YtihdiaklhkecmabRefWord
import Derived.Deep.DeepCutAuto
namespace Go.Proofs.Ytihdiaklhkecmab
open Go.RowKit

theorem exp_no {xs : List Int} {p : Nat} (h : (hd xs p == 101 || hd xs p == 69) = false) : expN (xs.drop p) = 0 := by
  unfold expN
  rw [hd_drop, Nat.add_zero, if_neg]
  simpa using h
theorem exp_yes {xs : List Int} {p : Nat} (h : (hd xs p == 101 || hd xs p == 69) = true) : expN (xs.drop p) = if (hd xs (p + 1) == 43 || hd xs (p + 1) == 45) then (if digitZ (hd xs (p + 2)) then 2 else 0) else (if digitZ (hd xs (p + 1)) then 1 else 0) := by
  unfold expN signB
  simp only [hd_drop, List.drop_drop, Nat.add_zero]
  rw [if_pos (by simpa using h)]
theorem digit_lt {xs : List Int} {p : Nat} (h : digitZ (hd xs p) = true) : p < xs.length := by
  by_cases hp : p < xs.length
  · exact hp
  · rw [hd_end hp] at h
    exact absurd h (by decide)
theorem row_part {w : World} {b off cap i p : Nat} {xs : List Int} (hv : RowAt .i32 w (.slice (some ⟨b, off, none⟩) xs.length cap) xs) (hi : i ≤ p) (hp : p ≤ xs.length) :
    RowAt .i32 w (.slice (some ⟨b, off + i, none⟩) (p - i) (cap - i)) ((xs.drop i).take (p - i)) := by
  obtain ⟨a, cap', e, hcap, hc⟩ := hv
  cases e
  have hlen : ((xs.drop i).take (p - i)).length = p - i := by simp; omega
  refine ⟨_, _, by rw [hlen], by rw [hlen]; omega, fun h0 => ?_⟩
  rw [hlen] at h0 ⊢
  obtain ⟨b', off', e, q⟩ := hc (by omega)
  cases e
  refine ⟨b, off + i, rfl, fun j hj => ?_⟩
  have := q (i + j) (by omega)
  rw [← Nat.add_assoc] at this
  rw [this]
  congr 2
  simp [List.getD, List.getElem?_drop, hj]
theorem WN_below (w : World) (x y : Obj) : Below w.heap.size w ((w.alloc x).alloc y) := ((Below.refl _ _).alloc (Nat.le_refl _) _).alloc (by simp) _
theorem five_cells {w : World} {n : Nat} {x0 x1 x2 x3 x4 : Value} (h : w.heap[n]? = some (.cells #[x0, x1, x2, x3, x4] 27 (0, 0))) :
    w.cell? ⟨n, 0, none⟩ = some x0 ∧ w.cell? ⟨n, 1, none⟩ = some x1 ∧ w.cell? ⟨n, 2, none⟩ = some x2 ∧ w.cell? ⟨n, 3, none⟩ = some x3 ∧ w.cell? ⟨n, 4, none⟩ = some x4 ∧ w.frozen? ⟨n, 2, none⟩ = false := by
  refine ⟨?_, ?_, ?_, ?_, ?_, ?_⟩
  all_goals first | (simp only [World.cell?, h]; rfl) | (simp only [World.frozen?, h]; rfl)
theorem gone_at {xs : List Int} {i p : Nat} (hip : i ≤ p) (hp : p ≤ xs.length) : gone (xs.drop i) (xs.drop p) = (xs.drop i).take (p - i) := by
  unfold gone
  rw [List.length_drop, List.length_drop]
  congr 1
  omega

set_option maxHeartbeats 8000000 in
set_option maxRecDepth 100000 in
theorem rnumber_any {w : World} {v : Value} {xs : List Int} (hv : RowAt .i32 w v xs) (fx : Fine xs) (i : Nat) (j : Int) (hj : j = i) (hi : i < xs.length) :
    Calls Try.prog 48 #[v, .int .i64 j] w fun e w' => ∃ p : Nat, e = .returned (.tuple #[tokV (numZ (xs.drop i)).1, .int .i64 p]) ∧ xs.drop p = (numZ (xs.drop i)).2 ∧ i ≤ p ∧ p ≤ xs.length ∧ Below w.heap.size w w' := by
  subst hj
  have hl := fx.1
  have HH : Hid (RowAt .i32 w v xs ∧ Fine xs) := And.intro hv fx
  have hrow0 : RowAt .i32 ((w.alloc (.cells #[.int .i64 0, .string ⟨#[]⟩, .string ⟨#[]⟩, .bool false, .bool false] 27)).alloc (.cells #[.int .i64 10, .string (⟨#[]⟩), .string (⟨#[]⟩), .bool true, .bool false] 27)) v xs := hv.below (WN_below w _ _)
  obtain ⟨b, off, cap, rfl, hcap, c0⟩ := row_cell hrow0 i hi
  have HUS : Hid (xs.drop (if hd xs i == 43 || hd xs i == 45 then i + 1 else i) = unsignZ (xs.drop i)) := by
    show xs.drop _ = unsignZ (xs.drop i)
    unfold unsignZ signB
    simp only [hd_drop, Nat.add_zero]
    by_cases h : (hd xs i == 43 || hd xs i == 45) = true
    · rw [if_pos h, if_pos h, List.drop_drop]
    · rw [if_neg h, if_neg h]
  have c0' : ((w.alloc (.cells #[.int .i64 0, .string ⟨#[]⟩, .string ⟨#[]⟩, .bool false, .bool false] 27)).alloc (.cells #[.int .i64 10, .string ⟨#[]⟩, .string ⟨#[]⟩, .bool true, .bool false] 27)).cell? ⟨b, off + i, none⟩ = some (.int .i32 (hd xs i)) := c0
  clear c0 hrow0 hv fx
  generalize hd xs i = ci at c0' HUS
  go_enter Try.func48, Try.ntmps48
  go_upto_region 3 with fail
  go_cut [22] (fun s22 wx => s22 = .bool (ci == 43 || ci == 45) ∧ wx = ((w.alloc (.cells #[.int .i64 0, .string ⟨#[]⟩, .string ⟨#[]⟩, .bool false, .bool false] 27)).alloc (.cells #[.int .i64 10, .string (⟨#[]⟩), .string (⟨#[]⟩), .bool true, .bool false] 27)))
  case first =>
    rcases (show ci = 43 ∨ ci = 45 ∨ (ci ≠ 43 ∧ ci ≠ 45) by omega) with rfl | rfl | ⟨n43, n45⟩
    · go_wp2_with fail
      go_meet
      exact ⟨rfl, rfl⟩
    · go_wp2_with fail
      go_meet
      exact ⟨rfl, rfl⟩
    · have m43 : (ci == 43) = false := by simpa using n43
      have m45 : (ci == 45) = false := by simpa using n45
      go_wp2_with fail
      go_meet
      exact ⟨by rw [m43, m45]; rfl, rfl⟩
  case rest =>
  obtain ⟨rfl, rfl⟩ := hcut
  clear c0'
  generalize (ci == 43 || ci == 45) = sg at *
  go_upto_if 22 with fail
  go_cut [1] (fun s1 wx => s1 = .int .i64 ((if sg then i + 1 else i : Nat) : Int) ∧ wx = ((w.alloc (.cells #[.int .i64 0, .string ⟨#[]⟩, .string ⟨#[]⟩, .bool false, .bool false] 27)).alloc (.cells #[.int .i64 10, .string (⟨#[]⟩), .string (⟨#[]⟩), .bool true, .bool false] 27)))
  case first =>
    cases sg
    · go_wp2_with fail
      go_meet
      exact ⟨rfl, rfl⟩
    · go_wp2_with fail
      go_meet
      exact ⟨by go_num, rfl⟩
  case rest =>
  obtain ⟨rfl, rfl⟩ := hcut
  have hp0 : i ≤ (if sg = true then i + 1 else i) ∧ (if sg = true then i + 1 else i) ≤ xs.length := by split <;> omega
  generalize (if sg = true then i + 1 else i) = p0 at *
  have hdg := rdigits_any (w := ((w.alloc (.cells #[.int .i64 0, .string ⟨#[]⟩, .string ⟨#[]⟩, .bool false, .bool false] 27)).alloc (.cells #[.int .i64 10, .string (⟨#[]⟩), .string (⟨#[]⟩), .bool true, .bool false] 27))) (HH.out.1.below (WN_below w _ _)) HH.out.2 p0 p0 rfl hp0.2
  have HM : Hid (∀ p1, xs.drop p1 = digitsR (xs.drop p0) → xs.drop p1 = mantR (xs.drop i)) := by
    show ∀ p1, xs.drop p1 = digitsR (xs.drop p0) → xs.drop p1 = mantR (xs.drop i)
    intro p1 h
    rw [h, HUS.out]
    rfl
  go_wp2_with (go_at_call 57; fail)
  refine (hdg).mono ?_
  rintro e w' ⟨p1, rfl, hd1, hp1, hp1', rfl⟩
  have HD1 := hid_mk (HM.out p1 hd1)
  clear hd1 hdg HM HUS
  have hdot : dotB (xs.drop p1) = (hd xs p1 == 46 && digitZ (hd xs (p1 + 1))) := by
    unfold dotB
    rw [hd_drop, hd_drop, Nat.add_zero]
  have hat1 := rat_any (w := ((w.alloc (.cells #[.int .i64 0, .string ⟨#[]⟩, .string ⟨#[]⟩, .bool false, .bool false] 27)).alloc (.cells #[.int .i64 10, .string (⟨#[]⟩), .string (⟨#[]⟩), .bool true, .bool false] 27))) (HH.out.1.below (WN_below w _ _)) HH.out.2 p1 p1 rfl
  have hat2 := rat_any (w := ((w.alloc (.cells #[.int .i64 0, .string ⟨#[]⟩, .string ⟨#[]⟩, .bool false, .bool false] 27)).alloc (.cells #[.int .i64 10, .string (⟨#[]⟩), .string (⟨#[]⟩), .bool true, .bool false] 27))) (HH.out.1.below (WN_below w _ _)) HH.out.2 (p1 + 1) ((p1 : Int) + 1) (by omega)
  have HDOT := hid_mk hdot
  clear hdot
  go_upto_region 6 with fail
  go_cut [38] (fun s38 wx => s38 = .bool (dotB (xs.drop p1)) ∧ wx = ((w.alloc (.cells #[.int .i64 0, .string ⟨#[]⟩, .string ⟨#[]⟩, .bool false, .bool false] 27)).alloc (.cells #[.int .i64 10, .string (⟨#[]⟩), .string (⟨#[]⟩), .bool true, .bool false] 27)))
  case first =>
    generalize hd xs p1 = c1 at *
    generalize hd xs (p1 + 1) = c2 at *
    by_cases h46 : c1 = 46
    · subst h46
      go_wp2_with (go_at_call 39; fail)
      refine (hat1).mono ?_
      rintro e w' ⟨rfl, rfl⟩
      go_wp2_with (go_at_call 39; fail)
      refine (hat2).mono ?_
      rintro e w' ⟨rfl, rfl⟩
      go_wp2_with (go_at_call 56; fail)
      refine (rdigit_any _ _).mono ?_
      rintro e w' ⟨rfl, rfl⟩
      go_wp2_with fail
      go_meet
      exact ⟨by rw [HDOT.out]; simp, rfl⟩
    · have m46 : (c1 == 46) = false := by simpa using h46
      go_wp2_with (go_at_call 39; fail)
      refine (hat1).mono ?_
      rintro e w' ⟨rfl, rfl⟩
      go_wp2_with fail
      go_meet
      exact ⟨by rw [HDOT.out, m46]; rfl, rfl⟩
  case rest =>
  obtain ⟨rfl, rfl⟩ := hcut
  clear hat1 hat2
  go_upto_if 38 with fail
  go_cut [1] (fun s1 wx => ∃ p2 : Nat, s1 = .int .i64 (p2 : Int) ∧ xs.drop p2 = fracR (xs.drop p1) ∧ p1 ≤ p2 ∧ p2 ≤ xs.length ∧ wx = ((w.alloc (.cells #[.int .i64 0, .string ⟨#[]⟩, .string ⟨#[]⟩, .bool false, .bool false] 27)).alloc (.cells #[.int .i64 10, .string (⟨#[]⟩), .string (⟨#[]⟩), .bool (!dotB (xs.drop p1)), .bool false] 27)))
  case first =>
    cases hdt : dotB (xs.drop p1)
    · have HF : Hid (xs.drop p1 = fracR (xs.drop p1)) := by show xs.drop p1 = fracR (xs.drop p1); unfold fracR; rw [hdt]; rfl
      have HDT := hid_mk hdt
      clear hdt
      go_wp2_with fail
      go_meet
      exact ⟨p1, rfl, HF.out, Nat.le_refl _, hp1', by rw [HDT.out]; rfl⟩
    · have hlt : p1 + 1 < xs.length := by
        have := HDOT.out
        rw [hdt] at this
        exact digit_lt (Bool.and_eq_true_iff.1 this.symm).2
      have HF : Hid (digitsR (xs.drop (p1 + 1)) = fracR (xs.drop p1)) := by show digitsR (xs.drop (p1 + 1)) = fracR (xs.drop p1); unfold fracR; rw [hdt, List.drop_drop]; rfl
      have hdg := rdigits_any (w := ((w.alloc (.cells #[.int .i64 0, .string ⟨#[]⟩, .string ⟨#[]⟩, .bool false, .bool false] 27)).alloc (.cells #[.int .i64 10, .string (⟨#[]⟩), .string (⟨#[]⟩), .bool false, .bool false] 27))) (HH.out.1.below (WN_below w _ _)) HH.out.2 (p1 + 1) ((p1 : Int) + 1) (by omega) (by omega)
      have HDT := hid_mk hdt
      clear hdt
      go_wp2_with (go_at_call 57; fail)
      refine (hdg).mono ?_
      rintro e w' ⟨p2, rfl, hd2, hp2, hp2', rfl⟩
      go_wp2_with fail
      go_meet
      exact ⟨p2, rfl, hd2.trans HF.out, by omega, hp2', by rw [HDT.out]; rfl⟩
  case rest =>
  obtain ⟨p2, rfl, hd2, hp2, hp2', rfl⟩ := hcut
  have HD2 := hid_mk hd2
  clear hd2
  generalize hwh : (!dotB (xs.drop p1)) = wh at *
  have HWH := hid_mk hwh
  clear hwh
  have hat1 := rat_any (w := ((w.alloc (.cells #[.int .i64 0, .string ⟨#[]⟩, .string ⟨#[]⟩, .bool false, .bool false] 27)).alloc (.cells #[.int .i64 10, .string (⟨#[]⟩), .string (⟨#[]⟩), .bool wh, .bool false] 27))) (HH.out.1.below (WN_below w _ _)) HH.out.2 p2 p2 rfl
  go_upto_region 9 with fail
  go_cut [53] (fun s53 wx => s53 = .bool (hd xs p2 == 101 || hd xs p2 == 69) ∧ wx = ((w.alloc (.cells #[.int .i64 0, .string ⟨#[]⟩, .string ⟨#[]⟩, .bool false, .bool false] 27)).alloc (.cells #[.int .i64 10, .string (⟨#[]⟩), .string (⟨#[]⟩), .bool wh, .bool false] 27)))
  case first =>
    generalize hd xs p2 = c1 at *
    rcases (show c1 = 101 ∨ c1 = 69 ∨ (c1 ≠ 101 ∧ c1 ≠ 69) by omega) with rfl | rfl | ⟨n1, n2⟩
    · 
      go_wp2_with (go_at_call 39; fail)
      refine (hat1).mono ?_
      rintro e w' ⟨rfl, rfl⟩
      go_wp2_with fail
      go_meet
      exact ⟨rfl, rfl⟩
    · 
      go_wp2_with (go_at_call 39; fail)
      refine (hat1).mono ?_
      rintro e w' ⟨rfl, rfl⟩
      go_wp2_with (go_at_call 39; fail)
      refine (hat1).mono ?_
      rintro e w' ⟨rfl, rfl⟩
      go_wp2_with fail
      go_meet
      exact ⟨rfl, rfl⟩
    · have m1 : (c1 == 101) = false := by simpa using n1
      have m2 : (c1 == 69) = false := by simpa using n2
      go_wp2_with (go_at_call 39; fail)
      refine (hat1).mono ?_
      rintro e w' ⟨rfl, rfl⟩
      go_wp2_with (go_at_call 39; fail)
      refine (hat1).mono ?_
      rintro e w' ⟨rfl, rfl⟩
      go_wp2_with fail
      go_meet
      exact ⟨by rw [m1, m2]; rfl, rfl⟩
  case rest =>
  obtain ⟨rfl, rfl⟩ := hcut
  clear hat1
  go_upto_if 53 with fail
  go_cut [1] (fun s1 wx => ∃ p3 : Nat, s1 = .int .i64 (p3 : Int) ∧ xs.drop p3 = expR (xs.drop p2) ∧ p2 ≤ p3 ∧ p3 ≤ xs.length ∧ wx = ((w.alloc (.cells #[.int .i64 0, .string ⟨#[]⟩, .string ⟨#[]⟩, .bool false, .bool false] 27)).alloc (.cells #[.int .i64 10, .string (⟨#[]⟩), .string (⟨#[]⟩), .bool (wh && !decide (0 < expN (xs.drop p2))), .bool false] 27)))
  case first =>
    cases hE : (hd xs p2 == 101 || hd xs p2 == 69)
    · have hx := exp_no hE
      have HF : Hid (xs.drop p2 = expR (xs.drop p2)) := by show xs.drop p2 = expR (xs.drop p2); unfold expR; rw [hx, if_neg (by omega)]
      have HW : Hid ((wh && !decide (0 < expN (xs.drop p2))) = wh) := by show (wh && !decide (0 < expN (xs.drop p2))) = wh; rw [hx]; simp
      clear hE hx
      go_wp2_with fail
      go_meet
      exact ⟨p2, rfl, HF.out, Nat.le_refl _, hp2', by rw [HW.out]⟩
    · have HX := hid_mk (exp_yes hE)
      have hlt : p2 < xs.length := by
        by_cases h : p2 < xs.length
        · exact h
        · rw [hd_end h] at hE; exact absurd hE (by decide)
      clear hE
      have hb1 := rat_any (w := ((w.alloc (.cells #[.int .i64 0, .string ⟨#[]⟩, .string ⟨#[]⟩, .bool false, .bool false] 27)).alloc (.cells #[.int .i64 10, .string (⟨#[]⟩), .string (⟨#[]⟩), .bool wh, .bool false] 27))) (HH.out.1.below (WN_below w _ _)) HH.out.2 (p2 + 1) ((p2 : Int) + 1) (by omega)
      have hb2 := rat_any (w := ((w.alloc (.cells #[.int .i64 0, .string ⟨#[]⟩, .string ⟨#[]⟩, .bool false, .bool false] 27)).alloc (.cells #[.int .i64 10, .string (⟨#[]⟩), .string (⟨#[]⟩), .bool wh, .bool false] 27))) (HH.out.1.below (WN_below w _ _)) HH.out.2 (p2 + 2) ((p2 : Int) + 1 + 1) (by omega)
      have HL1 := hid_mk (fun h => digit_lt (xs := xs) (p := p2 + 1) h)
      have HL2 := hid_mk (fun h => digit_lt (xs := xs) (p := p2 + 2) h)
      generalize hd xs (p2 + 1) = c1 at *
      generalize hd xs (p2 + 2) = c2 at *
      rcases (show c1 = 43 ∨ c1 = 45 ∨ (c1 ≠ 43 ∧ c1 ≠ 45) by omega) with rfl | rfl | ⟨n1, n2⟩
      · cases hg : digitZ c2
        · have hx : expN (xs.drop p2) = 0 := by rw [HX.out, hg]; rfl
          have HF : Hid (xs.drop p2 = expR (xs.drop p2)) := by show xs.drop p2 = expR (xs.drop p2); unfold expR; rw [hx, if_neg (by omega)]
          have HW : Hid ((wh && !decide (0 < expN (xs.drop p2))) = wh) := by show (wh && !decide (0 < expN (xs.drop p2))) = wh; rw [hx]; simp
          clear hx
          go_wp2_with (go_at_call 39; fail)
          refine (hb1).mono ?_
          rintro e w' ⟨rfl, rfl⟩
          go_wp2_with (go_at_call 39; fail)
          refine (hb2).mono ?_
          rintro e w' ⟨rfl, rfl⟩
          go_wp2_with (go_at_call 56; fail)
          refine (rdigit_any _ _).mono ?_
          rintro e w' ⟨rfl, rfl⟩
          go_wp2_with fail
          go_meet
          exact ⟨p2, rfl, HF.out, Nat.le_refl _, hp2', by rw [HW.out]⟩
        · have hx : expN (xs.drop p2) = 2 := by rw [HX.out, hg]; rfl
          have hl2 := HL2.out hg
          have HF : Hid (digitsR (xs.drop (p2 + 2)) = expR (xs.drop p2)) := by show digitsR (xs.drop (p2 + 2)) = expR (xs.drop p2); unfold expR; rw [hx, if_pos (by omega), List.drop_drop]
          have HW : Hid ((wh && !decide (0 < expN (xs.drop p2))) = false) := by show (wh && !decide (0 < expN (xs.drop p2))) = false; rw [hx]; simp
          have hdg := rdigits_any (w := ((w.alloc (.cells #[.int .i64 0, .string ⟨#[]⟩, .string ⟨#[]⟩, .bool false, .bool false] 27)).alloc (.cells #[.int .i64 10, .string (⟨#[]⟩), .string (⟨#[]⟩), .bool false, .bool false] 27))) (HH.out.1.below (WN_below w _ _)) HH.out.2 (p2 + 2) ((p2 : Int) + 1 + 1) (by omega) (by omega)
          clear hx
          go_wp2_with (go_at_call 39; fail)
          refine (hb1).mono ?_
          rintro e w' ⟨rfl, rfl⟩
          go_wp2_with (go_at_call 39; fail)
          refine (hb2).mono ?_
          rintro e w' ⟨rfl, rfl⟩
          go_wp2_with (go_at_call 56; fail)
          refine (rdigit_any _ _).mono ?_
          rintro e w' ⟨rfl, rfl⟩
          go_wp2_with (go_at_call 57; fail)
          refine (hdg).mono ?_
          rintro e w' ⟨p3, rfl, hd3, hp3, hp3', rfl⟩
          go_wp2_with fail
          go_meet
          exact ⟨p3, rfl, hd3.trans HF.out, by omega, hp3', by rw [HW.out]⟩
      · cases hg : digitZ c2
        · have hx : expN (xs.drop p2) = 0 := by rw [HX.out, hg]; rfl
          have HF : Hid (xs.drop p2 = expR (xs.drop p2)) := by show xs.drop p2 = expR (xs.drop p2); unfold expR; rw [hx, if_neg (by omega)]
          have HW : Hid ((wh && !decide (0 < expN (xs.drop p2))) = wh) := by show (wh && !decide (0 < expN (xs.drop p2))) = wh; rw [hx]; simp
          clear hx
          go_wp2_with (go_at_call 39; fail)
          refine (hb1).mono ?_
          rintro e w' ⟨rfl, rfl⟩
          go_wp2_with (go_at_call 39; fail)
          refine (hb1).mono ?_
          rintro e w' ⟨rfl, rfl⟩
          go_wp2_with (go_at_call 39; fail)
          refine (hb2).mono ?_
          rintro e w' ⟨rfl, rfl⟩
          go_wp2_with (go_at_call 56; fail)
          refine (rdigit_any _ _).mono ?_
          rintro e w' ⟨rfl, rfl⟩
          go_wp2_with fail
          go_meet
          exact ⟨p2, rfl, HF.out, Nat.le_refl _, hp2', by rw [HW.out]⟩
        · have hx : expN (xs.drop p2) = 2 := by rw [HX.out, hg]; rfl
          have hl2 := HL2.out hg
          have HF : Hid (digitsR (xs.drop (p2 + 2)) = expR (xs.drop p2)) := by show digitsR (xs.drop (p2 + 2)) = expR (xs.drop p2); unfold expR; rw [hx, if_pos (by omega), List.drop_drop]
          have HW : Hid ((wh && !decide (0 < expN (xs.drop p2))) = false) := by show (wh && !decide (0 < expN (xs.drop p2))) = false; rw [hx]; simp
          have hdg := rdigits_any (w := ((w.alloc (.cells #[.int .i64 0, .string ⟨#[]⟩, .string ⟨#[]⟩, .bool false, .bool false] 27)).alloc (.cells #[.int .i64 10, .string (⟨#[]⟩), .string (⟨#[]⟩), .bool false, .bool false] 27))) (HH.out.1.below (WN_below w _ _)) HH.out.2 (p2 + 2) ((p2 : Int) + 1 + 1) (by omega) (by omega)
          clear hx
          go_wp2_with (go_at_call 39; fail)
          refine (hb1).mono ?_
          rintro e w' ⟨rfl, rfl⟩
          go_wp2_with (go_at_call 39; fail)
          refine (hb1).mono ?_
          rintro e w' ⟨rfl, rfl⟩
          go_wp2_with (go_at_call 39; fail)
          refine (hb2).mono ?_
          rintro e w' ⟨rfl, rfl⟩
          go_wp2_with (go_at_call 56; fail)
          refine (rdigit_any _ _).mono ?_
          rintro e w' ⟨rfl, rfl⟩
          go_wp2_with (go_at_call 57; fail)
          refine (hdg).mono ?_
          rintro e w' ⟨p3, rfl, hd3, hp3, hp3', rfl⟩
          go_wp2_with fail
          go_meet
          exact ⟨p3, rfl, hd3.trans HF.out, by omega, hp3', by rw [HW.out]⟩
      · have m1 : (c1 == 43) = false := by simpa using n1
        have m2 : (c1 == 45) = false := by simpa using n2
        cases hg : digitZ c1
        · have hx : expN (xs.drop p2) = 0 := by rw [HX.out, m1, m2, hg]; rfl
          have HF : Hid (xs.drop p2 = expR (xs.drop p2)) := by show xs.drop p2 = expR (xs.drop p2); unfold expR; rw [hx, if_neg (by omega)]
          have HW : Hid ((wh && !decide (0 < expN (xs.drop p2))) = wh) := by show (wh && !decide (0 < expN (xs.drop p2))) = wh; rw [hx]; simp
          clear hx
          go_wp2_with (go_at_call 39; fail)
          refine (hb1).mono ?_
          rintro e w' ⟨rfl, rfl⟩
          go_wp2_with (go_at_call 39; fail)
          refine (hb1).mono ?_
          rintro e w' ⟨rfl, rfl⟩
          go_wp2_with (go_at_call 39; fail)
          refine (hb1).mono ?_
          rintro e w' ⟨rfl, rfl⟩
          go_wp2_with (go_at_call 56; fail)
          refine (rdigit_any _ _).mono ?_
          rintro e w' ⟨rfl, rfl⟩
          go_wp2_with fail
          go_meet
          exact ⟨p2, rfl, HF.out, Nat.le_refl _, hp2', by rw [HW.out]⟩
        · have hx : expN (xs.drop p2) = 1 := by rw [HX.out, m1, m2, hg]; rfl
          have hl2 := HL1.out hg
          have HF : Hid (digitsR (xs.drop (p2 + 1)) = expR (xs.drop p2)) := by show digitsR (xs.drop (p2 + 1)) = expR (xs.drop p2); unfold expR; rw [hx, if_pos (by omega), List.drop_drop]
          have HW : Hid ((wh && !decide (0 < expN (xs.drop p2))) = false) := by show (wh && !decide (0 < expN (xs.drop p2))) = false; rw [hx]; simp
          have hdg := rdigits_any (w := ((w.alloc (.cells #[.int .i64 0, .string ⟨#[]⟩, .string ⟨#[]⟩, .bool false, .bool false] 27)).alloc (.cells #[.int .i64 10, .string (⟨#[]⟩), .string (⟨#[]⟩), .bool false, .bool false] 27))) (HH.out.1.below (WN_below w _ _)) HH.out.2 (p2 + 1) ((p2 : Int) + 1) (by omega) (by omega)
          clear hx
          go_wp2_with (go_at_call 39; fail)
          refine (hb1).mono ?_
          rintro e w' ⟨rfl, rfl⟩
          go_wp2_with (go_at_call 39; fail)
          refine (hb1).mono ?_
          rintro e w' ⟨rfl, rfl⟩
          go_wp2_with (go_at_call 39; fail)
          refine (hb1).mono ?_
          rintro e w' ⟨rfl, rfl⟩
          go_wp2_with (go_at_call 56; fail)
          refine (rdigit_any _ _).mono ?_
          rintro e w' ⟨rfl, rfl⟩
          go_wp2_with (go_at_call 57; fail)
          refine (hdg).mono ?_
          rintro e w' ⟨p3, rfl, hd3, hp3, hp3', rfl⟩
          go_wp2_with fail
          go_meet
          exact ⟨p3, rfl, hd3.trans HF.out, by omega, hp3', by rw [HW.out]⟩
  case rest =>
  obtain ⟨p3, rfl, hd3, hp3, hp3', rfl⟩ := hcut
  have HD3 : Hid (xs.drop p3 = numR (xs.drop i)) := by
    show xs.drop p3 = numR (xs.drop i)
    unfold numR
    rw [hd3, HD2.out, HD1.out]
  have HWW : Hid ((wh && !decide (0 < expN (xs.drop p2))) = numW (xs.drop i)) := by
    show (wh && !decide (0 < expN (xs.drop p2))) = numW (xs.drop i)
    unfold numW
    rw [← HWH.out, HD2.out, HD1.out]
  clear hd3
  generalize (wh && !decide (0 < expN (xs.drop p2))) = wf at *
  have HG : Hid (gone (xs.drop i) (numR (xs.drop i)) = (xs.drop i).take (p3 - i)) := by
    show gone (xs.drop i) (numR (xs.drop i)) = (xs.drop i).take (p3 - i)
    rw [← HD3.out]
    exact gone_at (by omega) hp3'
  have hcv := conv_runes (row_part (w := ((w.alloc (.cells #[.int .i64 0, .string ⟨#[]⟩, .string ⟨#[]⟩, .bool false, .bool false] 27)).alloc (.cells #[.int .i64 10, .string (⟨#[]⟩), .string (⟨#[]⟩), .bool wf, .bool false] 27))) (HH.out.1.below (WN_below w _ _)) (show i ≤ p3 by omega) hp3') (fun c hc => HH.out.2.2 c (List.mem_of_mem_drop (List.mem_of_mem_take hc)))
  have hci : ¬ cap = i := by omega
  have hi3 : i ≤ p3 := by omega
  have hnb := rnames_any (w := ((w.alloc (.cells #[.int .i64 0, .string ⟨#[]⟩, .string ⟨#[]⟩, .bool false, .bool false] 27)).alloc (.cells #[.int .i64 10, .string (strT ((xs.drop i).take (p3 - i))), .string (⟨#[]⟩), .bool wf, .bool false] 27))) (HH.out.1.below (WN_below w _ _)) HH.out.2 p3 p3 rfl (by omega)
  have hat := rat_any (w := ((w.alloc (.cells #[.int .i64 0, .string ⟨#[]⟩, .string ⟨#[]⟩, .bool false, .bool false] 27)).alloc (.cells #[.int .i64 10, .string (strT ((xs.drop i).take (p3 - i))), .string (⟨#[]⟩), .bool wf, .bool false] 27))) (HH.out.1.below (WN_below w _ _)) HH.out.2 p3 p3 rfl
  have hnm := rname_any (w := ((w.alloc (.cells #[.int .i64 0, .string ⟨#[]⟩, .string ⟨#[]⟩, .bool false, .bool false] 27)).alloc (.cells #[.int .i64 12, .string (strT ((xs.drop i).take (p3 - i))), .string (⟨#[]⟩), .bool wf, .bool false] 27))) (HH.out.1.below (WN_below w _ _)) HH.out.2 p3 p3 rfl hp3'
  have HNZ : Hid (numZ (xs.drop i) = if nameB (xs.drop p3) then (mkTok 12 ((xs.drop i).take (p3 - i)) (nameT (xs.drop p3) 0) wf false, nameR (xs.drop p3) 0) else if hd xs p3 = 37 then (mkTok 11 ((xs.drop i).take (p3 - i)) [] wf false, xs.drop (p3 + 1)) else (mkTok 10 ((xs.drop i).take (p3 - i)) [] wf false, xs.drop p3)) := by
    show numZ (xs.drop i) = _
    unfold numZ
    rw [HG.out, ← HWW.out, ← HD3.out, hd_drop, Nat.add_zero, List.drop_drop]
  clear HG HWW HD3
  generalize (xs.drop i).take (p3 - i) = tx at *
  generalize hst : strT tx = sx at *
  have HSX := hid_mk hst
  clear hst
  cases hN : nameB (xs.drop p3)
  · rw [hN] at hnb
    have hZ := HNZ.out
    rw [hN] at hZ
    simp only [Bool.false_eq_true, if_false] at hZ
    by_cases h37 : hd xs p3 = 37
    · rw [if_pos h37] at hZ
      have HV := hid_mk hZ
      rw [h37] at hat
      have hlt : p3 < xs.length := by
        by_cases h : p3 < xs.length
        · exact h
        · rw [hd_end h] at h37; exact absurd h37 (by decide)
      clear hZ HNZ hN h37 hnm
      go_wp2_with (go_at_call 45; fail)
      refine (hnb).mono ?_
      rintro e w' ⟨rfl, rfl⟩
      go_wp2_with (go_at_call 39; fail)
      refine (hat).mono ?_
      rintro e w' ⟨rfl, rfl⟩
      go_wp2
      refine bodyPost_ret (v := .tuple #[.agg #[.int .i64 11, .string sx, .string ⟨#[]⟩, .bool wf, .bool false], .int .i64 ((p3 + 1 : Nat) : Int)]) (by simp [results, Try.results48, go_sem]) rfl ⟨p3 + 1, by rw [HV.out, ← HSX.out]; rfl, by rw [HV.out], by omega, by omega, ?_⟩
      exact WN_below w _ _
    · rw [if_neg h37] at hZ
      have HV := hid_mk hZ
      have m37 : (hd xs p3 == 37) = false := by simpa using h37
      clear hZ HNZ hN h37 hnm
      generalize hd xs p3 = c at *
      go_wp2_with (go_at_call 45; fail)
      refine (hnb).mono ?_
      rintro e w' ⟨rfl, rfl⟩
      go_wp2_with (go_at_call 39; fail)
      refine (hat).mono ?_
      rintro e w' ⟨rfl, rfl⟩
      go_wp2
      refine bodyPost_ret (v := .tuple #[.agg #[.int .i64 10, .string sx, .string ⟨#[]⟩, .bool wf, .bool false], .int .i64 ((p3 : Nat) : Int)]) (by simp [results, Try.results48, go_sem]) rfl ⟨p3, by rw [HV.out, ← HSX.out]; rfl, by rw [HV.out], by omega, by omega, ?_⟩
      exact WN_below w _ _
  · rw [hN] at hnb
    have hZ := HNZ.out
    rw [hN, if_pos rfl] at hZ
    have HV := hid_mk hZ
    clear hZ HNZ hN hat
    go_wp2_with (go_at_call 45; fail)
    refine (hnb).mono ?_
    rintro e w' ⟨rfl, rfl⟩
    go_wp2_with (go_at_call 46; fail)
    refine (hnm).mono ?_
    rintro e w6 ⟨p4, rfl, hd4, hp4, hp4', b6⟩
    have hB6 : Below w.heap.size w w6 := (WN_below w _ _).trans (b6.mono (by simp; omega))
    have hblk0 : w6.heap[w.heap.size]? = some (.cells #[.int .i64 0, .string ⟨#[]⟩, .string ⟨#[]⟩, .bool false, .bool false] 27 (0, 0)) := (b6.block _ (by simp; omega)).trans ((heap_alloc_old _ _ (by simp)).trans (heap_alloc_new w _))
    have hblk1 : w6.heap[w.heap.size + 1]? = some (.cells #[.int .i64 12, .string sx, .string ⟨#[]⟩, .bool wf, .bool false] 27 (0, 0)) := by
      have h := heap_alloc_new (w.alloc (.cells #[.int .i64 0, .string ⟨#[]⟩, .string ⟨#[]⟩, .bool false, .bool false] 27)) (.cells #[.int .i64 12, .string sx, .string ⟨#[]⟩, .bool wf, .bool false] 27)
      have e : (w.alloc (.cells #[.int .i64 0, .string ⟨#[]⟩, .string ⟨#[]⟩, .bool false, .bool false] 27)).heap.size = w.heap.size + 1 := by simp
      rw [e] at h
      exact (b6.block _ (by simp)).trans h
    obtain ⟨k0, k1, k2, k3, k4, f0, f1, f2, f3, f4⟩ := zero_cells hblk0
    obtain ⟨t0, t1, t2, t3, t4, tf⟩ := five_cells hblk1
    have HD4 := hid_mk hd4
    clear hd4
    generalize hun : strT (nameT (xs.drop p3) 0) = un at *
    have HUN := hid_mk hun
    clear hun
    go_wp2
    refine bodyPost_ret (v := .tuple #[.agg #[.int .i64 12, .string sx, .string un, .bool wf, .bool false], .int .i64 ((p4 : Nat) : Int)]) (by simp [results, Try.results48, go_sem, k0, k1, k2, k3, k4]) rfl ⟨p4, by rw [HV.out, ← HSX.out, ← HUN.out]; rfl, by rw [HV.out, HD4.out], by omega, by omega, ?_⟩
    exact (((((hB6.setCell (by simp) _).setCell (Nat.le_refl _) _).setCell (Nat.le_refl _) _).setCell (Nat.le_refl _) _).setCell (Nat.le_refl _) _).setCell (Nat.le_refl _) _
end Go.Proofs.Ytihdiaklhkecmab
