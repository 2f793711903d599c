/- The cutter over a number's characters: exponent, numeral. -/
import Derived.Test.YtdibldcnklgcjaaGreatDoorQuo
namespace Go.Proofs.YtdibldcnklgcjaaGreatDoor
open Go.RowKit
set_option maxRecDepth 100000

section
variable {w w1 w2 : World} {b : Nat} {v out : Value} {xs l l' : List Int} {ts : List Tok}

set_option maxHeartbeats 1000000 in
theorem exp_r (h : At w b v out xs l) (fx : Fine xs) (n : Nat) :
    Calls Tryz.prog 82 #[.pointer (some ⟨b, 0, none⟩)] (w.drewN n) fun e w' => e = .returned (.int .i64 (expN l)) ∧ ∃ m, w' = w.drewN m := by
  have a0 := fun m => ahead_r h fx 0 0 rfl (by omega) m
  have a1 := fun m => ahead_r h fx 1 1 rfl (by omega) m
  have a2 := fun m => ahead_r h fx 2 2 rfl (by omega) m
  have hs := fun m => signB_r h fx 1 1 rfl (by omega) m
  have HE : Hid (expN l = if hd l 0 = 101 ∨ hd l 0 = 69 then (if signB (l.drop 1) then (if digitZ (hd l 2) then 2 else 0) else (if digitZ (hd l 1) then 1 else 0)) else 0) := rfl
  generalize expN l = ex at *
  generalize hd l 0 = c0 at *
  generalize hd l 1 = c1 at *
  generalize hd l 2 = c2 at *
  generalize signB (l.drop 1) = sg at *
  by_cases h1 : c0 = 101
  · subst h1
    cases sg
    · cases h2 : digitZ c1
      all_goals
        go_enter Tryz.func82, Tryz.ntmps82
        go_wp2_with (go_at_call 46; fail)
        refine (a0 _).mono ?_
        rintro e w' ⟨rfl, m, rfl⟩
        go_wp2_with (go_at_call 79; fail)
        refine (hs _).mono ?_
        rintro e w' ⟨rfl, m, rfl⟩
        go_wp2_with (go_at_call 46; fail)
        refine (a1 _).mono ?_
        rintro e w' ⟨rfl, m, rfl⟩
        go_wp2_with (go_at_call 77; fail)
        refine (digit_any _ _).mono ?_
        rintro e w' ⟨rfl, rfl⟩
        go_wp2
        go_ret
        exact ⟨ret_int (by rw [HE.out]; simp [h2]), _, rfl⟩
    · cases h2 : digitZ c2
      all_goals
        go_enter Tryz.func82, Tryz.ntmps82
        go_wp2_with (go_at_call 46; fail)
        refine (a0 _).mono ?_
        rintro e w' ⟨rfl, m, rfl⟩
        go_wp2_with (go_at_call 79; fail)
        refine (hs _).mono ?_
        rintro e w' ⟨rfl, m, rfl⟩
        go_wp2_with (go_at_call 46; fail)
        refine (a2 _).mono ?_
        rintro e w' ⟨rfl, m, rfl⟩
        go_wp2_with (go_at_call 77; fail)
        refine (digit_any _ _).mono ?_
        rintro e w' ⟨rfl, rfl⟩
        go_wp2
        go_ret
        exact ⟨ret_int (by rw [HE.out]; simp [h2]), _, rfl⟩
  · have e1 : (c0 != 101) = true := by simpa using h1
    by_cases h69 : c0 = 69
    · subst h69
      cases sg
      · cases h2 : digitZ c1
        all_goals
          go_enter Tryz.func82, Tryz.ntmps82
          go_wp2_with (go_at_call 46; fail)
          refine (a0 _).mono ?_
          rintro e w' ⟨rfl, m, rfl⟩
          go_wp2_with (go_at_call 46; fail)
          refine (a0 _).mono ?_
          rintro e w' ⟨rfl, m, rfl⟩
          go_wp2_with (go_at_call 79; fail)
          refine (hs _).mono ?_
          rintro e w' ⟨rfl, m, rfl⟩
          go_wp2_with (go_at_call 46; fail)
          refine (a1 _).mono ?_
          rintro e w' ⟨rfl, m, rfl⟩
          go_wp2_with (go_at_call 77; fail)
          refine (digit_any _ _).mono ?_
          rintro e w' ⟨rfl, rfl⟩
          go_wp2
          go_ret
          exact ⟨ret_int (by rw [HE.out]; simp [h2]), _, rfl⟩
      · cases h2 : digitZ c2
        all_goals
          go_enter Tryz.func82, Tryz.ntmps82
          go_wp2_with (go_at_call 46; fail)
          refine (a0 _).mono ?_
          rintro e w' ⟨rfl, m, rfl⟩
          go_wp2_with (go_at_call 46; fail)
          refine (a0 _).mono ?_
          rintro e w' ⟨rfl, m, rfl⟩
          go_wp2_with (go_at_call 79; fail)
          refine (hs _).mono ?_
          rintro e w' ⟨rfl, m, rfl⟩
          go_wp2_with (go_at_call 46; fail)
          refine (a2 _).mono ?_
          rintro e w' ⟨rfl, m, rfl⟩
          go_wp2_with (go_at_call 77; fail)
          refine (digit_any _ _).mono ?_
          rintro e w' ⟨rfl, rfl⟩
          go_wp2
          go_ret
          exact ⟨ret_int (by rw [HE.out]; simp [h2]), _, rfl⟩
    · have e2 : (c0 != 69) = true := by simpa using h69
      go_enter Tryz.func82, Tryz.ntmps82
      go_wp2_with (go_at_call 46; fail)
      refine (a0 _).mono ?_
      rintro e w' ⟨rfl, m, rfl⟩
      go_wp2_with (go_at_call 46; fail)
      refine (a0 _).mono ?_
      rintro e w' ⟨rfl, m, rfl⟩
      go_wp2
      go_ret
      exact ⟨ret_int (by rw [HE.out]; simp [h1, h69]), _, rfl⟩

theorem exp_le (h : 0 < expN l) : expN l ≤ l.length := by
  have aux : ∀ k, digitZ (hd l k) = true → k < l.length := by
    intro k hk
    rcases Nat.lt_or_ge k l.length with h1 | h1
    · exact h1
    · have : hd l k = -1 := by simp [hd, List.getD, h1]
      rw [this] at hk
      exact absurd hk (by decide)
  unfold expN at h ⊢
  split at h
  · rename_i h0
    rw [if_pos h0]
    split at h
    · rename_i h1
      rw [if_pos h1]
      split at h
      · rename_i h2
        rw [if_pos h2]
        have := aux 2 h2
        omega
      · omega
    · rename_i h1
      rw [if_neg h1]
      split at h
      · rename_i h2
        rw [if_pos h2]
        have := aux 1 h2
        omega
      · omega
  · omega
theorem sign_cons (h : signB l = true) : ∃ c t, l = c :: t := by
  cases l with
  | nil => exact absurd h (by decide)
  | cons c t => exact ⟨c, t, rfl⟩
theorem dot_cons (h : dotB l = true) : ∃ c t, l = c :: t := by
  cases l with
  | nil => exact absurd h (by decide)
  | cons c t => exact ⟨c, t, rfl⟩

/-- The end of a numeral: its exponent. -/
theorem exp_bound : expN l ≤ 2 := by
  unfold expN
  split
  · split <;> split <;> omega
  · omega

set_option maxHeartbeats 2000000 in
theorem numeral_any (h : At w b v out xs l) (fx : Fine xs) :
    Calls Tryz.prog 58 #[.pointer (some ⟨b, 0, none⟩)] w fun e w' => e = .returned (.bool (numW l)) ∧ At w' b v out xs (numR l) ∧ Kept b w w' := by
  have hfx := fx.1
  have hs := signB_r h fx 0 0 rfl (by omega) 0
  rw [drew0] at hs
  simp only [List.drop_zero] at hs
  cases hsg : signB l
  · rw [hsg] at hs
    have HM : Hid (mantR l = digitsR l) := by
      show mantR l = _
      unfold mantR unsignZ
      rw [if_neg (by simp [hsg])]
    go_enter Tryz.func58, Tryz.ntmps58
    go_wp2_with (go_at_call 79; fail)
    refine (hs).mono ?_
    rintro e w' ⟨rfl, m1, rfl⟩
    have hdg := digits_any (at_drew h m1) fx
    go_wp2_with (go_at_call 81; fail)
    refine (hdg).mono ?_
    rintro e w2 ⟨rfl, h2, k2'⟩
    have k2 := (Kept.drewN b w m1).trans k2'
    have hdt := dotB_r h2 fx 0 0 rfl (by omega) 0
    rw [drew0] at hdt
    simp only [List.drop_zero] at hdt
    cases hdz : dotB (digitsR l)
    · rw [hdz] at hdt
      have HF : Hid (fracR (digitsR l) = digitsR l) := by
        show fracR _ = _
        unfold fracR
        rw [if_neg (by simp [hdz])]
      have HR : Hid (numR l = expR (digitsR l)) := by
        show numR l = _
        unfold numR
        rw [HM.out, HF.out]
      have HW : Hid (numW l = !decide (0 < expN (digitsR l))) := by
        show numW l = _
        unfold numW
        rw [HM.out, HF.out, hdz]
        rfl
      go_wp2_with (go_at_call 80; fail)
      refine (hdt).mono ?_
      rintro e w' ⟨rfl, m5, rfl⟩
      have hat5 := at_drew h2 m5
      have kp5 := k2.trans (Kept.drewN b w2 m5)
      generalize w2.drewN m5 = w5 at *
      have hx := exp_r hat5 fx 0
      rw [drew0] at hx
      have hxb := exp_bound (l := digitsR l)
      by_cases hz : 0 < expN (digitsR l)
      · have hle := exp_le hz
        obtain ⟨p9, hc9, hf9, hp9, hset9⟩ := at_raw (at_drew hat5 0) fx
        have HN : Hid (expR (digitsR l) = digitsR (List.drop (expN (digitsR l)) (digitsR l))) := by
          show expR _ = _
          unfold expR
          rw [if_pos hz]
        have hz2 : (0 : Int) < (expN (digitsR l) : Int) := by omega
        go_wp2_with (go_at_call 82; fail)
        refine (hx).mono ?_
        rintro e w' ⟨rfl, m9, rfl⟩
        have hs9 := (at_raw (at_drew hat5 m9) fx)
        obtain ⟨p8, hc8, hf8, hp8, hset8⟩ := hs9
        have ep : p8 = p9 := by
          have e1 : (w5.drewN m9).cell? ⟨b, 1, none⟩ = (w5.drewN 0).cell? ⟨b, 1, none⟩ := rfl
          rw [e1, hc9] at hc8
          simp at hc8
          omega
        subst ep
        have hA := hset8 (expN (digitsR l)) (p8 + expN (digitsR l)) rfl hle
        have kA : Kept b w5 ((w5.drewN m9).setCell ⟨b, 1, none⟩ (.int .i64 ((p8 : Int) + (expN (digitsR l) : Int)))) := (Kept.drewN b w5 m9).setCell 1 _
        clear hset8 hset9 hc8
        rw [drew0] at hc9 hf9
        have hdg := digits_any hA fx
        go_wp2_with (go_at_call 81; fail)
        refine (hdg).mono ?_
        rintro e w8 ⟨rfl, h8, k8⟩
        go_wp2
        go_ret
        exact ⟨ret_bool (by rw [HW.out]; simp [hz]), by rw [HR.out, HN.out]; exact h8, kp5.trans (kA.trans k8)⟩
      · have hz0 : expN (digitsR l) = 0 := by omega
        have HN : Hid (expR (digitsR l) = digitsR l) := by
          show expR _ = _
          unfold expR
          rw [if_neg hz]
        rw [hz0] at hx
        go_wp2_with (go_at_call 82; fail)
        refine (hx).mono ?_
        rintro e w' ⟨rfl, m9, rfl⟩
        go_wp2
        go_ret
        exact ⟨ret_bool (by rw [HW.out]; simp [hz0]), by rw [HR.out, HN.out]; exact at_drew hat5 m9, kp5.trans (Kept.drewN b w5 m9)⟩
    · rw [hdz] at hdt
      obtain ⟨c6, t6, hct⟩ := dot_cons hdz
      have HF : Hid (fracR (digitsR l) = digitsR t6) := by
        show fracR _ = _
        unfold fracR
        rw [if_pos hdz, hct]
        rfl
      have HR : Hid (numR l = expR (digitsR t6)) := by
        show numR l = _
        unfold numR
        rw [HM.out, HF.out]
      have HW : Hid (numW l = false) := by
        show numW l = _
        unfold numW
        rw [HM.out, hdz]
        rfl
      have hnx := fun m => next_r h2 fx c6 t6 hct m
      go_wp2_with (go_at_call 80; fail)
      refine (hdt).mono ?_
      rintro e w' ⟨rfl, m5, rfl⟩
      go_wp2_with (go_at_call 49; fail)
      refine (hnx _).mono ?_
      rintro e w6 ⟨rfl, h6, k6⟩
      have hdg6 := digits_any h6 fx
      go_wp2_with (go_at_call 81; fail)
      refine (hdg6).mono ?_
      rintro e w7 ⟨rfl, h7, k7⟩
      have kp7 := k2.trans (k6.trans k7)
      have hx := exp_r h7 fx 0
      rw [drew0] at hx
      have hxb := exp_bound (l := digitsR t6)
      by_cases hz : 0 < expN (digitsR t6)
      · have hle := exp_le hz
        obtain ⟨p9, hc9, hf9, hp9, hset9⟩ := at_raw (at_drew h7 0) fx
        have HN : Hid (expR (digitsR t6) = digitsR (List.drop (expN (digitsR t6)) (digitsR t6))) := by
          show expR _ = _
          unfold expR
          rw [if_pos hz]
        have hz2 : (0 : Int) < (expN (digitsR t6) : Int) := by omega
        go_wp2_with (go_at_call 82; fail)
        refine (hx).mono ?_
        rintro e w' ⟨rfl, m9, rfl⟩
        have hs9 := (at_raw (at_drew h7 m9) fx)
        obtain ⟨p8, hc8, hf8, hp8, hset8⟩ := hs9
        have ep : p8 = p9 := by
          have e1 : (w7.drewN m9).cell? ⟨b, 1, none⟩ = (w7.drewN 0).cell? ⟨b, 1, none⟩ := rfl
          rw [e1, hc9] at hc8
          simp at hc8
          omega
        subst ep
        have hA := hset8 (expN (digitsR t6)) (p8 + expN (digitsR t6)) rfl hle
        have kA : Kept b w7 ((w7.drewN m9).setCell ⟨b, 1, none⟩ (.int .i64 ((p8 : Int) + (expN (digitsR t6) : Int)))) := (Kept.drewN b w7 m9).setCell 1 _
        clear hset8 hset9 hc8
        rw [drew0] at hc9 hf9
        have hdg := digits_any hA fx
        go_wp2_with (go_at_call 81; fail)
        refine (hdg).mono ?_
        rintro e w8 ⟨rfl, h8, k8⟩
        go_wp2
        go_ret
        exact ⟨ret_bool (by rw [HW.out]), by rw [HR.out, HN.out]; exact h8, kp7.trans (kA.trans k8)⟩
      · have hz0 : expN (digitsR t6) = 0 := by omega
        have HN : Hid (expR (digitsR t6) = digitsR t6) := by
          show expR _ = _
          unfold expR
          rw [if_neg hz]
        rw [hz0] at hx
        go_wp2_with (go_at_call 82; fail)
        refine (hx).mono ?_
        rintro e w' ⟨rfl, m9, rfl⟩
        go_wp2
        go_ret
        exact ⟨ret_bool (by rw [HW.out]), by rw [HR.out, HN.out]; exact at_drew h7 m9, kp7.trans (Kept.drewN b w7 m9)⟩
  · rw [hsg] at hs
    obtain ⟨c1, t1, hct1⟩ := sign_cons hsg
    have HM : Hid (mantR l = digitsR t1) := by
      show mantR l = _
      unfold mantR unsignZ
      rw [if_pos hsg, hct1]
      rfl
    have hn1 := fun m => next_r h fx c1 t1 hct1 m
    go_enter Tryz.func58, Tryz.ntmps58
    go_wp2_with (go_at_call 79; fail)
    refine (hs).mono ?_
    rintro e w' ⟨rfl, m1, rfl⟩
    go_wp2_with (go_at_call 49; fail)
    refine (hn1 _).mono ?_
    rintro e w1 ⟨rfl, h1, k1⟩
    have hdg := digits_any h1 fx
    go_wp2_with (go_at_call 81; fail)
    refine (hdg).mono ?_
    rintro e w2 ⟨rfl, h2, k2'⟩
    have k2 := k1.trans k2'
    have hdt := dotB_r h2 fx 0 0 rfl (by omega) 0
    rw [drew0] at hdt
    simp only [List.drop_zero] at hdt
    cases hdz : dotB (digitsR t1)
    · rw [hdz] at hdt
      have HF : Hid (fracR (digitsR t1) = digitsR t1) := by
        show fracR _ = _
        unfold fracR
        rw [if_neg (by simp [hdz])]
      have HR : Hid (numR l = expR (digitsR t1)) := by
        show numR l = _
        unfold numR
        rw [HM.out, HF.out]
      have HW : Hid (numW l = !decide (0 < expN (digitsR t1))) := by
        show numW l = _
        unfold numW
        rw [HM.out, HF.out, hdz]
        rfl
      go_wp2_with (go_at_call 80; fail)
      refine (hdt).mono ?_
      rintro e w' ⟨rfl, m5, rfl⟩
      have hat5 := at_drew h2 m5
      have kp5 := k2.trans (Kept.drewN b w2 m5)
      generalize w2.drewN m5 = w5 at *
      have hx := exp_r hat5 fx 0
      rw [drew0] at hx
      have hxb := exp_bound (l := digitsR t1)
      by_cases hz : 0 < expN (digitsR t1)
      · have hle := exp_le hz
        obtain ⟨p9, hc9, hf9, hp9, hset9⟩ := at_raw (at_drew hat5 0) fx
        have HN : Hid (expR (digitsR t1) = digitsR (List.drop (expN (digitsR t1)) (digitsR t1))) := by
          show expR _ = _
          unfold expR
          rw [if_pos hz]
        have hz2 : (0 : Int) < (expN (digitsR t1) : Int) := by omega
        go_wp2_with (go_at_call 82; fail)
        refine (hx).mono ?_
        rintro e w' ⟨rfl, m9, rfl⟩
        have hs9 := (at_raw (at_drew hat5 m9) fx)
        obtain ⟨p8, hc8, hf8, hp8, hset8⟩ := hs9
        have ep : p8 = p9 := by
          have e1 : (w5.drewN m9).cell? ⟨b, 1, none⟩ = (w5.drewN 0).cell? ⟨b, 1, none⟩ := rfl
          rw [e1, hc9] at hc8
          simp at hc8
          omega
        subst ep
        have hA := hset8 (expN (digitsR t1)) (p8 + expN (digitsR t1)) rfl hle
        have kA : Kept b w5 ((w5.drewN m9).setCell ⟨b, 1, none⟩ (.int .i64 ((p8 : Int) + (expN (digitsR t1) : Int)))) := (Kept.drewN b w5 m9).setCell 1 _
        clear hset8 hset9 hc8
        rw [drew0] at hc9 hf9
        have hdg := digits_any hA fx
        go_wp2_with (go_at_call 81; fail)
        refine (hdg).mono ?_
        rintro e w8 ⟨rfl, h8, k8⟩
        go_wp2
        go_ret
        exact ⟨ret_bool (by rw [HW.out]; simp [hz]), by rw [HR.out, HN.out]; exact h8, kp5.trans (kA.trans k8)⟩
      · have hz0 : expN (digitsR t1) = 0 := by omega
        have HN : Hid (expR (digitsR t1) = digitsR t1) := by
          show expR _ = _
          unfold expR
          rw [if_neg hz]
        rw [hz0] at hx
        go_wp2_with (go_at_call 82; fail)
        refine (hx).mono ?_
        rintro e w' ⟨rfl, m9, rfl⟩
        go_wp2
        go_ret
        exact ⟨ret_bool (by rw [HW.out]; simp [hz0]), by rw [HR.out, HN.out]; exact at_drew hat5 m9, kp5.trans (Kept.drewN b w5 m9)⟩
    · rw [hdz] at hdt
      obtain ⟨c6, t6, hct⟩ := dot_cons hdz
      have HF : Hid (fracR (digitsR t1) = digitsR t6) := by
        show fracR _ = _
        unfold fracR
        rw [if_pos hdz, hct]
        rfl
      have HR : Hid (numR l = expR (digitsR t6)) := by
        show numR l = _
        unfold numR
        rw [HM.out, HF.out]
      have HW : Hid (numW l = false) := by
        show numW l = _
        unfold numW
        rw [HM.out, hdz]
        rfl
      have hnx := fun m => next_r h2 fx c6 t6 hct m
      go_wp2_with (go_at_call 80; fail)
      refine (hdt).mono ?_
      rintro e w' ⟨rfl, m5, rfl⟩
      go_wp2_with (go_at_call 49; fail)
      refine (hnx _).mono ?_
      rintro e w6 ⟨rfl, h6, k6⟩
      have hdg6 := digits_any h6 fx
      go_wp2_with (go_at_call 81; fail)
      refine (hdg6).mono ?_
      rintro e w7 ⟨rfl, h7, k7⟩
      have kp7 := k2.trans (k6.trans k7)
      have hx := exp_r h7 fx 0
      rw [drew0] at hx
      have hxb := exp_bound (l := digitsR t6)
      by_cases hz : 0 < expN (digitsR t6)
      · have hle := exp_le hz
        obtain ⟨p9, hc9, hf9, hp9, hset9⟩ := at_raw (at_drew h7 0) fx
        have HN : Hid (expR (digitsR t6) = digitsR (List.drop (expN (digitsR t6)) (digitsR t6))) := by
          show expR _ = _
          unfold expR
          rw [if_pos hz]
        have hz2 : (0 : Int) < (expN (digitsR t6) : Int) := by omega
        go_wp2_with (go_at_call 82; fail)
        refine (hx).mono ?_
        rintro e w' ⟨rfl, m9, rfl⟩
        have hs9 := (at_raw (at_drew h7 m9) fx)
        obtain ⟨p8, hc8, hf8, hp8, hset8⟩ := hs9
        have ep : p8 = p9 := by
          have e1 : (w7.drewN m9).cell? ⟨b, 1, none⟩ = (w7.drewN 0).cell? ⟨b, 1, none⟩ := rfl
          rw [e1, hc9] at hc8
          simp at hc8
          omega
        subst ep
        have hA := hset8 (expN (digitsR t6)) (p8 + expN (digitsR t6)) rfl hle
        have kA : Kept b w7 ((w7.drewN m9).setCell ⟨b, 1, none⟩ (.int .i64 ((p8 : Int) + (expN (digitsR t6) : Int)))) := (Kept.drewN b w7 m9).setCell 1 _
        clear hset8 hset9 hc8
        rw [drew0] at hc9 hf9
        have hdg := digits_any hA fx
        go_wp2_with (go_at_call 81; fail)
        refine (hdg).mono ?_
        rintro e w8 ⟨rfl, h8, k8⟩
        go_wp2
        go_ret
        exact ⟨ret_bool (by rw [HW.out]), by rw [HR.out, HN.out]; exact h8, kp7.trans (kA.trans k8)⟩
      · have hz0 : expN (digitsR t6) = 0 := by omega
        have HN : Hid (expR (digitsR t6) = digitsR t6) := by
          show expR _ = _
          unfold expR
          rw [if_neg hz]
        rw [hz0] at hx
        go_wp2_with (go_at_call 82; fail)
        refine (hx).mono ?_
        rintro e w' ⟨rfl, m9, rfl⟩
        go_wp2
        go_ret
        exact ⟨ret_bool (by rw [HW.out]), by rw [HR.out, HN.out]; exact at_drew h7 m9, kp7.trans (Kept.drewN b w7 m9)⟩
end
end Go.Proofs.YtdibldcnklgcjaaGreatDoor
