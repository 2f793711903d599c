/- PropForms: the walk. -/
import Derived.Test.YtaoodkpbhehdgaaDoorPLv
namespace Go.Proofs.YtaoodkpbhehdgaaDoor
open Go.RowKit
set_option maxRecDepth 100000

theorem T_at (k : Nat) (hk : k < 48) : ∃ p, T[k]? = some p := ⟨_, List.getElem?_eq_getElem (by rw [T_len]; exact hk)⟩
set_option maxHeartbeats 8000000 in
theorem forms_walk (p : Pr) (i : Int) (hi : (Lit.int .u64 i).wf = true) (w : World) (hm : MC w) : Calls Tryd.prog 4 #[.agg (c4 p), .int .u64 i] w fun e w' => e = .returned (.bool true) ∧ Below w.heap.size w w' := by
  obtain ⟨pn, pi, ph, pf⟩ := p
  have hX0 := Bx.new w 24 (c4 ⟨pn, pi, ph, pf⟩)
  have hB0 : Below w.heap.size w (w.alloc (.cells (c4 ⟨pn, pi, ph, pf⟩) 24)) := (Below.refl _ w).alloc (Nat.le_refl _) _
  obtain ⟨w1, hw1⟩ : ∃ w1, w1 = w.alloc (.cells (c4 ⟨pn, pi, ph, pf⟩) 24) := ⟨_, rfl⟩
  rw [← hw1] at hX0 hB0
  have q4 : w1.cell? ⟨w.heap.size, 3, none⟩ = some (.string pf) := hX0.cell 3 _ rfl
  have HX0 := hid_mk hX0
  have HB0 := hid_mk hB0
  have HM := hid_mk hm
  have HW1 : Hid (w1 = w.alloc (.cells #[.string pn, .string pi, .bool ph, .string pf] 24)) := hw1
  clear hm hX0 hB0 hw1
  by_cases hsz : pf.size ≤ 1000
  · have hall := all_any w1
    obtain ⟨h0, h1⟩ := bounds_u64 hi
    go_enter Tryd.func4, Tryd.ntmps4
    go_upto_region 1 with fail
    rw [← HW1.out]
    clear HW1
    go_wp2_with (go_at_call 16; fail)
    refine hall.mono ?_
    rintro e w2 ⟨b, rfl, hA2, hb2⟩
    have hral := rall_any w2
    go_wp2_with (go_at_call 17; fail)
    refine hral.mono ?_
    rintro e w3 ⟨rfl, hw3⟩
    have hb3 : Below w2.heap.size w2 w3 := by rw [hw3]; exact (Below.refl _ w2).alloc (Nat.le_refl _) _
    have hR3 : Bx w3 w2.heap.size 27 TC.toArray := by rw [hw3]; exact Bx.new _ _ _
    have hA3 := hA2.below hb3
    have hX3 := (HX0.out.below hb2).below hb3
    have hB3 := later (later HB0.out hb2) hb3
    clear hall hral hb2 hA2 hw3 hb3 q4
    generalize w2.heap.size = r at *
    go_upto_region 5 with fail
    obtain ⟨k, hk, hk48⟩ : ∃ k : Nat, i % 48 = (k : Int) ∧ k < 48 := ⟨(i % 48).toNat, by omega, by omega⟩
    obtain ⟨⟨tn, ti, th, tf⟩, ht⟩ := T_at k hk48
    rw [hk]
    have HS : Hid (∀ w', Below w3.heap.size w3 w' → ((w'.cell? ⟨b, k * 4, none⟩ = some (.string tn) ∧ w'.cell? ⟨b, k * 4 + 1, none⟩ = some (.string ti) ∧ w'.cell? ⟨b, k * 4 + 2, none⟩ = some (.bool th) ∧ w'.cell? ⟨b, k * 4 + 3, none⟩ = some (.string tf)) ∧ (w'.cell? ⟨r, k * 4, none⟩ = some (.string tn) ∧ w'.cell? ⟨r, k * 4 + 1, none⟩ = some (.string ti) ∧ w'.cell? ⟨r, k * 4 + 2, none⟩ = some (.bool th) ∧ w'.cell? ⟨r, k * 4 + 3, none⟩ = some (.string tf))) ∧ w'.cell? ⟨w.heap.size, 0, none⟩ = some (.string pn) ∧ w'.cell? ⟨w.heap.size, 1, none⟩ = some (.string pi) ∧ w'.cell? ⟨w.heap.size, 2, none⟩ = some (.bool ph) ∧ w'.cell? ⟨w.heap.size, 3, none⟩ = some (.string pf)) := fun w' hb => by
      have h1 := row_at (hA3.below hb) k _ ht
      have h2 := row_at (hR3.below hb) k _ ht
      have h3 := hX3.below hb
      exact ⟨⟨h1, h2⟩, h3.cell 0 _ rfl, h3.cell 1 _ rfl, h3.cell 2 _ rfl, h3.cell 3 _ rfl⟩
    have HMC : Hid (∀ w', Below w3.heap.size w3 w' → MC w') := fun w' hb => HM.out.keep (later hB3 hb)
    have HB3 := hid_mk hB3
    have HF0 : Hid (∀ w, MC w → Calls Tryd.prog 14 #[.agg (c4 ⟨pn, pi, ph, pf⟩)] w fun e w' => (∃ a c, e = .returned (.slice a (prts pf).length c) ∧ StrAt w' (.slice a (prts pf).length c) (prts pf)) ∧ Below w.heap.size w w') := fun w h => forms_any ⟨pn, pi, ph, pf⟩ w h hsz
    have HG0 : Hid (∀ w, Calls Tryd.prog 15 #[.agg (c4 ⟨pn, pi, ph, pf⟩)] w fun e w' => (∃ a c, e = .returned (.slice a (prts pf).length c) ∧ StrAt w' (.slice a (prts pf).length c) (prts pf)) ∧ Below w.heap.size w w') := fun w => rforms_any ⟨pn, pi, ph, pf⟩ w hsz
    generalize (prts pf).length = FN at *
    generalize prts pf = FL at *
    have HF : Hid (∀ w', Below w3.heap.size w3 w' → Calls Tryd.prog 14 #[.agg #[.string pn, .string pi, .bool ph, .string pf]] w' fun e w'' => (∃ a c, e = .returned (.slice a FN c) ∧ StrAt w'' (.slice a FN c) FL) ∧ Below w3.heap.size w3 w'') := fun w' hb => (HF0.out w' (HMC.out w' hb)).mono fun e w'' h => ⟨h.1, later hb h.2⟩
    have HG : Hid (∀ v w', Below w3.heap.size w3 w' → StrAt w' v FL → Calls Tryd.prog 15 #[.agg #[.string pn, .string pi, .bool ph, .string pf]] w' fun e w'' => (∃ a c, e = .returned (.slice a FN c) ∧ StrAt w'' (.slice a FN c) FL ∧ StrAt w'' v FL) ∧ Below w3.heap.size w3 w'') := fun v w' hb hv => (HG0.out w').mono fun e w'' h => by
      obtain ⟨⟨a, c, h1, h2⟩, h3⟩ := h
      exact ⟨⟨a, c, h1, h2, hv.keep h3⟩, later hb h3⟩
    have HT : Hid (∀ L v1 v2 w', Below w3.heap.size w3 w' → StrAt w' v1 L → StrAt w' v2 L → Calls Tryd.prog 11 #[v1, v2] w' fun e w'' => e = .returned (.bool true) ∧ Below w3.heap.size w3 w'') := fun L v1 v2 w' hb h1 h2 => (texts_yes h1 h2).mono fun e w'' h => ⟨h.1, later hb h.2⟩
    have HSh : Hid (∀ w', Below w3.heap.size w3 w' → Calls Tryd.prog 18 #[] w' fun e w'' => (∃ a c, e = .returned (.slice a 6 c) ∧ StrAt w'' (.slice a 6 c) shs) ∧ Below w3.heap.size w3 w'') := fun w' hb => (shorts_any w').mono fun e w'' h => ⟨h.1, later hb h.2⟩
    have HSr : Hid (∀ v w', Below w3.heap.size w3 w' → StrAt w' v shs → Calls Tryd.prog 19 #[] w' fun e w'' => (∃ a c, e = .returned (.slice a 6 c) ∧ StrAt w'' (.slice a 6 c) shs ∧ StrAt w'' v shs) ∧ Below w3.heap.size w3 w'') := fun v w' hb hv => (rshorts_any w').mono fun e w'' h => by
      obtain ⟨⟨a, c, h1, h2⟩, h3⟩ := h
      exact ⟨⟨a, c, h1, h2, hv.keep h3⟩, later hb h3⟩
    have HV : Hid (∀ w', Below w3.heap.size w3 w' → Calls Tryd.prog 6 #[] w' fun e w'' => e = .returned (.bool true) ∧ Below w3.heap.size w3 w'') := fun w' hb => (lives_any w').mono fun e w'' h => ⟨h.1, later hb h.2⟩
    have hki : (k : Int) < 48 := by omega
    have hk0 : (0 : Int) ≤ (k : Int) := by omega
    have hkd : decide ((k : Int) < 48) = true := decide_eq_true hki
    have gd : Below w3.heap.size w3 w3 := Below.refl _ _
    have ge : Below w3.heap.size w3 w3.drew := (Below.refl _ _).drew
    clear hA3 hR3 hX3 hB3 HM HMC HF0 HG0 HX0 HB0 ht hi h0 h1 hk
    go_region_held3 (fun w' => ((w'.cell? ⟨b, k * 4, none⟩ = some (.string tn) ∧ w'.cell? ⟨b, k * 4 + 1, none⟩ = some (.string ti) ∧ w'.cell? ⟨b, k * 4 + 2, none⟩ = some (.bool th) ∧ w'.cell? ⟨b, k * 4 + 3, none⟩ = some (.string tf)) ∧ (w'.cell? ⟨r, k * 4, none⟩ = some (.string tn) ∧ w'.cell? ⟨r, k * 4 + 1, none⟩ = some (.string ti) ∧ w'.cell? ⟨r, k * 4 + 2, none⟩ = some (.bool th) ∧ w'.cell? ⟨r, k * 4 + 3, none⟩ = some (.string tf))) ∧ w'.cell? ⟨w.heap.size, 0, none⟩ = some (.string pn) ∧ w'.cell? ⟨w.heap.size, 1, none⟩ = some (.string pi) ∧ w'.cell? ⟨w.heap.size, 2, none⟩ = some (.bool ph) ∧ w'.cell? ⟨w.heap.size, 3, none⟩ = some (.string pf))
      (first | with_reducible exact HS.out _ gd | with_reducible exact HS.out _ ge | with_reducible exact HS.out _ ga | with_reducible exact HS.out _ gb | with_reducible exact HS.out _ gc | with_reducible exact HS.out _ gf | with_reducible exact HS.out _ gg | with_reducible exact HS.out _ gh | with_reducible exact HS.out _ gi)
      (first
        | (go_at_call 14; with_reducible refine (HF.out _ ge).mono ?_; rintro e wa ⟨⟨a1, c1, rfl, s1⟩, ga⟩)
        | (go_at_call 15; with_reducible refine (HG.out _ _ ga s1).mono ?_; rintro e wb ⟨⟨a2, c2, rfl, s2, s3⟩, gb⟩)
        | (go_at_call 11; with_reducible refine (HT.out _ _ _ _ gb s3 s2).mono ?_; rintro e wc ⟨rfl, gc⟩)
        | (go_at_call 18; with_reducible refine (HSh.out _ gc).mono ?_; rintro e wd ⟨⟨a3, c3, rfl, s4⟩, gf⟩)
        | (go_at_call 19; with_reducible refine (HSr.out _ _ gf s4).mono ?_; rintro e we ⟨⟨a4, c5, rfl, s5, s6⟩, gg⟩)
        | (go_at_call 11; with_reducible refine (HT.out _ _ _ _ gg s6 s5).mono ?_; rintro e wf ⟨rfl, gh⟩)
        | (go_at_call 6; with_reducible refine (HV.out _ gh).mono ?_; rintro e wg ⟨rfl, gi⟩))
    have hend := later HB3.out gi
    go_wp2
    go_ret
    exact ⟨rfl, hend⟩
  · have hv := lives_any w1
    have hlt : 1000 < pf.size := by omega
    clear HX0 HM
    go_enter Tryd.func4, Tryd.ntmps4
    go_upto_region 1 with fail
    rw [← HW1.out]
    clear HW1
    go_wp2_with (go_at_call 6; fail)
    refine hv.mono ?_
    rintro e w2 ⟨rfl, hb⟩
    have hend := later HB0.out hb
    clear hv hb q4
    go_wp2
    go_ret
    exact ⟨rfl, hend⟩
end Go.Proofs.YtaoodkpbhehdgaaDoor
