/- gouacheref15.Parse, gouacheref15.Wide. -/
import Derived.Test.YtfgnlgkpgihbmaaGreatDoorZRq
namespace Go.Proofs.YtfgnlgkpgihbmaaGreatDoor.Z
open Go.RowKit
open Go.Proofs.YtfgnlgkpgihbmaaGreatDoor.L (T5 V VsAt t5Cells vCells cell_of_heap hid_mk)
set_option maxRecDepth 100000

theorem T_fold : P.T.all (fun p => (P.prts p.f).all (fun x => decide (foldS x = x))) = true := by kernel_rfl
theorem prc_fold (name : ByteArray) : ∀ x ∈ P.prts (P.prc name).f, foldS x = x := by
  rcases P.fnd_cases name with ⟨_, h⟩ | ⟨k, p, _, _, h, hp⟩
  · rw [h]
    have e : P.prts P.z0.f = [⟨#[]⟩] := by kernel_rfl
    rw [e]
    intro x hx
    simp at hx
    subst hx
    kernel_rfl
  · rw [h]
    have h1 := List.all_eq_true.1 T_fold p (List.mem_of_getElem? hp)
    have h2 := List.all_eq_true.1 h1
    exact fun x hx => of_decide_eq_true (h2 x hx)
theorem one_cases (vs : List V) : (∃ x, Y.trimZ vs = [x] ∧ oneO vs = some x) ∨ ((Y.trimZ vs).length ≠ 1 ∧ oneO vs = none) := by
  unfold oneO
  cases h : Y.trimZ vs with
  | nil => exact .inr ⟨by simp, rfl⟩
  | cons a r => cases r with
    | nil => exact .inl ⟨a, rfl, rfl⟩
    | cons b r => exact .inr ⟨by simp, rfl⟩
set_option maxHeartbeats 4000000 in
theorem rparse_any {P0 : Nat → Prop} {W : World} {v : Value} {vs : List V} (name : ByteArray) (hv : VsAt P0 W v vs) (hm : vs.length ≤ 1954687338211) (hz : ∀ y ∈ vs, y.tok.tx.size ≤ 100000 ∧ y.tok.un.size ≤ 100000) :
    Calls Tryz.prog 11 #[.string name, v] W fun e w' => e = .returned (res (parseO name vs)) ∧ Below W.heap.size W w' := by
  have hf := P.rfind_any name W
  have HR : Hid (parseO name vs = if P.plc name < 0 then none else match oneO vs with | none => none | some x => frmO x.tok x.kids.length (P.prts (P.prc name).f)) := rfl
  obtain ⟨hfs, _⟩ := prc_forms name
  have HFX := hid_mk (prc_fold name)
  have HFO : Hid (∀ w, Calls Tryz.prog 31 #[.agg (P.c4 (P.prc name))] w fun e w' => (∃ a c, e = .returned (.slice a (P.prts (P.prc name).f).length c) ∧ P.StrAt w' (.slice a (P.prts (P.prc name).f).length c) (P.prts (P.prc name).f)) ∧ Below w.heap.size w w') := fun w => P.rforms_any (P.prc name) w hfs
  have HTR : Hid (∀ w, Below W.heap.size W w → Calls Tryz.prog 30 #[v] w fun e w' => ∃ a n c, e = .returned (.slice a n c) ∧ n = (Y.trimZ vs).length ∧ n ≤ 1954687338211 ∧ VsAt (fun _ => True) w' (.slice a n c) (Y.trimZ vs) ∧ Below w.heap.size w w') := fun w hb => (Y.rtrim_any (hv.keep hb) hm).mono fun e w' h => by
    obtain ⟨o, h1, h2, h3⟩ := h
    obtain ⟨a, c, ho, _, _⟩ := h2.slice
    rw [ho] at h1 h2
    exact ⟨a, _, c, h1, rfl, Nat.le_trans (Y.trim_len vs) hm, h2.wider (fun _ _ _ => trivial), h3⟩
  have hone := one_cases vs
  have HONE : Hid (∀ x, Y.trimZ vs = [x] → x.tok.tx.size ≤ 100000 ∧ x.tok.un.size ≤ 100000) := fun x hx => hz _ (Y.trim_sub vs _ (by rw [hx]; simp))
  obtain ⟨va, vc, rfl, _, _⟩ := hv.slice
  generalize hL : P.prts (P.prc name).f = FL at *
  generalize parseO name vs = R at *
  generalize P.prc name = p at *
  generalize P.plc name = pl at *
  generalize oneO vs = oo at *
  generalize Y.trimZ vs = tv at *
  generalize vs.length = vn at *
  obtain ⟨pn, pi, ph, pf⟩ := p
  clear hv hz hfs hL hm
  go_enter Tryz.func11, Tryz.ntmps11
  go_wp2_with (go_at_call 29; fail)
  refine hf.mono ?_
  rintro e w1 ⟨rfl, hb1⟩
  have hBa : Below W.heap.size W (w1.alloc (.cells #[.string pn, .string pi, .bool ph, .string pf] 57)) := hb1.alloc hb1.size _
  have hX1 := P.Bx.new w1 57 #[.string pn, .string pi, .bool ph, .string pf]
  have hs := HTR.out _ hBa
  clear hf hb1 HTR
  go_wp2_with (go_at_call 30; fail)
  refine hs.mono ?_
  rintro e w2 ⟨ta, tn, tc, rfl, htn, htm, hvt, hb2⟩
  have hX2 := hX1.below hb2
  have hB2 := hBa.trans (hb2.mono hBa.size)
  have HB2 := hid_mk hB2
  clear hs hX1 hBa hb2 hB2
  by_cases hp : pl < 0
  · have HN : Hid (R = none) := by show _ = _; rw [HR.out, if_pos hp]
    have hd : decide (0 ≤ pl) = false := decide_eq_false (by omega)
    clear HR hX2 hvt htn
    go_wp2
    go_ret2
    exact ⟨by rw [HN.out]; rfl, HB2.out⟩
  · have hd : decide (0 ≤ pl) = true := decide_eq_true (by omega)
    rcases hone with ⟨x, htv, hoo⟩ | ⟨hl, hoo⟩
    · subst hoo
      have hsz := HONE.out x htv
      rw [htv] at hvt htn
      replace htn : tn = 1 := htn
      subst htn
      obtain ⟨cap, b, off, ja, jc, ej, hc1, hc2, ⟨q0, q1, q2⟩, q3, q4, q5⟩ := val_one hvt
      cases ej
      have HN : Hid (R = frmO x.tok x.kids.length FL) := by show _ = _; rw [HR.out, if_neg hp]
      have HVC : Hid (∀ w', Below w2.heap.size w2 w' → (w'.cell? ⟨b, off, none⟩ = some (.int .i64 x.tok.k) ∧ w'.cell? ⟨b, off + 1, none⟩ = some (.string x.tok.tx) ∧ w'.cell? ⟨b, off + 2, none⟩ = some (.string x.tok.un)) ∧ w'.cell? ⟨b, off + 3, none⟩ = some (.bool x.tok.wh) ∧ w'.cell? ⟨b, off + 4, none⟩ = some (.bool x.tok.fl) ∧ w'.cell? ⟨b, off + 5, none⟩ = some (.slice ja x.kids.length jc)) := fun w' hb => by
        have g := fun o u (h : w2.cell? ⟨b, o, none⟩ = some u) => (hb.cell (p := ⟨b, o, none⟩) (P.lt_of_cell h)).trans h
        exact ⟨⟨g _ _ q0, g _ _ q1, g _ _ q2⟩, g _ _ q3, g _ _ q4, g _ _ q5⟩
      generalize x.kids.length = kn at *
      generalize x.tok = t at *
      obtain ⟨k, tx, un, wh, fl⟩ := t
      simp only at HVC hsz
      have hq1 := hX2.cell 0 _ rfl
      have hq2 := hX2.cell 1 _ rfl
      have hq3 := hX2.cell 2 _ rfl
      have hq4 := hX2.cell 3 _ rfl
      have hfo := HFO.out w2
      clear HFO hX2 hp hvt htv HONE HR q0 q1 q2 q3 q4 q5
      go_wp2_with (go_at_call 31; fail)
      refine hfo.mono ?_
      rintro e w4 ⟨⟨a, c, rfl, hst⟩, hb4⟩
      have HB4 : Hid (Below W.heap.size W w4) := HB2.out.trans (hb4.mono HB2.out.size)
      have HV4 : Hid (∀ w', Below w4.heap.size w4 w' → _) := fun w' hb => HVC.out w' (hb4.trans (hb.mono hb4.size))
      obtain ⟨a', cap', ea, hcl, hcm, hcell⟩ := hst.form
      cases ea
      have HC := hid_mk hcell
      clear hfo hst hb4 HB2 HVC hq1 hq2 hq3 hq4 hcell
      have hFL : FL.length ≤ 9223372036854775807 := by omega
      go_wp2
      go_loopw [29] (fun a29 wr => ∃ i : Nat, i ≤ FL.length ∧ a29 = .int .i64 (i : Int) ∧ Hid (Below w4.heap.size w4 wr) ∧ Hid (R = frmO ⟨k, tx, un, wh, fl⟩ kn (FL.drop i))) (fun a29 _ => FL.length + 1 - (intOf a29).toNat)
      case atStart => exact ⟨0, Nat.zero_le _, rfl, Below.refl _ _, HN⟩
      case round =>
        obtain ⟨i, hi, rfl, HBr, HE⟩ := hrel
        clear HN
        by_cases hlt : i < FL.length
        · have hd1 : decide ((i : Int) < (FL.length : Int)) = true := decide_eq_true (by omega)
          obtain ⟨g, ega, hcl2⟩ := HC.out (by omega)
          obtain ⟨f, hfi⟩ : ∃ f, FL[i]? = some f := ⟨_, List.getElem?_eq_getElem hlt⟩
          have hff := HFX.out f (List.mem_of_getElem? hfi)
          have hc1' := hcl2 i f hfi
          have hcf : wr.cell? ⟨g, i, none⟩ = some (.string f) := (HBr.out.cell (p := ⟨g, i, none⟩) (P.lt_of_cell hc1')).trans hc1'
          obtain ⟨⟨y0, y1, y2⟩, y3, y4, y5⟩ := HV4.out wr HBr.out
          have HEND : Hid (Below W.heap.size W wr) := HB4.out.trans (HBr.out.mono HB4.out.size)
          have hpa := rpart_any f hff ⟨k, tx, un, wh, fl⟩ ja kn jc hsz.1 (Nat.le_trans hsz.2 (by decide)) wr
          have HD : Hid (R = match partO f ⟨k, tx, un, wh, fl⟩ kn with | some s => some s | none => frmO ⟨k, tx, un, wh, fl⟩ kn (FL.drop (i + 1))) := by
            show _ = _
            rw [HE.out, drop_at hfi, frm_cons]
            cases partO f ⟨k, tx, un, wh, fl⟩ kn <;> rfl
          have hpa : Calls Tryz.prog 15 #[.string f, .agg #[.int .i64 k, .string tx, .string un, .bool wh, .bool fl, .slice ja kn jc]] wr _ := hpa
          subst ega
          clear HC hcl2 hc1' HE hfi hff HFX
          cases ho : partO f ⟨k, tx, un, wh, fl⟩ kn with
          | some so =>
            rw [ho] at hpa HD
            have HZ : Hid (R = some so) := HD.out
            rw [res_some] at hpa
            clear HD
            go_wp2_with (go_at_call 15; fail)
            refine hpa.mono ?_
            rintro e w5 ⟨rfl, hb5⟩
            have HE5 : Hid (Below W.heap.size W w5) := HEND.out.trans (hb5.mono HEND.out.size)
            clear hpa hb5
            go_wp2
            go_ret2
            exact ⟨by rw [HZ.out]; rfl, HE5.out⟩
          | none =>
            rw [ho] at hpa HD
            have HZ : Hid (R = frmO ⟨k, tx, un, wh, fl⟩ kn (FL.drop (i + 1))) := HD.out
            rw [res_none] at hpa
            clear HD
            go_wp2_with (go_at_call 15; fail)
            refine hpa.mono ?_
            rintro e w5 ⟨rfl, hb5⟩
            have HE5 : Hid (Below w4.heap.size w4 w5) := HBr.out.trans (hb5.mono HBr.out.size)
            clear hpa hb5
            go_wp2
            exact ⟨⟨i + 1, by omega, by go_num, HE5, HZ⟩, by simp only [intOf]; omega⟩
        · have hie : i = FL.length := by omega
          have HZ : Hid (R = none) := by show _ = _; rw [HE.out, hie, List.drop_length]; rfl
          have HEND : Hid (Below W.heap.size W wr) := HB4.out.trans (HBr.out.mono HB4.out.size)
          have hd1 : decide ((i : Int) < (FL.length : Int)) = false := decide_eq_false (by omega)
          clear HE hie HBr HC
          go_wp2
          go_ret2
          exact ⟨by rw [HZ.out]; rfl, HEND.out⟩
    · subst hoo
      have HN : Hid (R = none) := by show _ = _; rw [HR.out, if_neg hp]
      have hl1 : ((tn : Int) != 1) = true := by simpa using (by omega : (tn : Int) ≠ 1)
      clear HR hX2 hvt htn hl
      go_wp2
      go_ret2
      exact ⟨by rw [HN.out]; rfl, HB2.out⟩
set_option maxHeartbeats 4000000 in
theorem rwide_any {P0 : Nat → Prop} {W : World} {v : Value} {vs : List V} (hv : VsAt P0 W v vs) (hm : vs.length ≤ 1954687338211) (hz : ∀ y ∈ vs, y.tok.tx.size ≤ 100000 ∧ y.tok.un.size ≤ 100000) :
    Calls Tryz.prog 13 #[v] W fun e w' => e = .returned (.string (wideS vs)) ∧ Below W.heap.size W w' := by
  have HR : Hid (wideS vs = match oneO vs with | none => noS | some x => if x.tok.k = 1 ∧ ((foldS x.tok.tx).toList = [105, 110, 104, 101, 114, 105, 116] ∨ (foldS x.tok.tx).toList = [105, 110, 105, 116, 105, 97, 108] ∨ (foldS x.tok.tx).toList = [117, 110, 115, 101, 116]) then foldS x.tok.tx else noS) := rfl
  have htr : Calls Tryz.prog 30 #[v] W fun e w' => ∃ a n c, e = .returned (.slice a n c) ∧ n = (Y.trimZ vs).length ∧ n ≤ 1954687338211 ∧ VsAt (fun _ => True) w' (.slice a n c) (Y.trimZ vs) ∧ Below W.heap.size W w' := (Y.rtrim_any hv hm).mono fun e w' h => by
    obtain ⟨o, h1, h2, h3⟩ := h
    obtain ⟨a, c, ho, _, _⟩ := h2.slice
    rw [ho] at h1 h2
    exact ⟨a, _, c, h1, rfl, Nat.le_trans (Y.trim_len vs) hm, h2.wider (fun _ _ _ => trivial), h3⟩
  have hone := one_cases vs
  have HONE : Hid (∀ x, Y.trimZ vs = [x] → x.tok.tx.size ≤ 100000 ∧ x.tok.un.size ≤ 100000) := fun x hx => hz _ (Y.trim_sub vs _ (by rw [hx]; simp))
  obtain ⟨va, vc, rfl, _, _⟩ := hv.slice
  generalize wideS vs = R at *
  generalize oneO vs = oo at *
  generalize Y.trimZ vs = tv at *
  generalize vs.length = vn at *
  clear hv hz hm
  rcases hone with ⟨x, htv, hoo⟩ | ⟨hl, hoo⟩
  · subst hoo
    have hsz := HONE.out x htv
    rw [htv] at htr
    have HN : Hid (R = if x.tok.k = 1 ∧ ((foldS x.tok.tx).toList = [105, 110, 104, 101, 114, 105, 116] ∨ (foldS x.tok.tx).toList = [105, 110, 105, 116, 105, 97, 108] ∨ (foldS x.tok.tx).toList = [117, 110, 115, 101, 116]) then foldS x.tok.tx else noS) := HR.out
    have HID : Hid (∀ w' ja jc, Calls Tryz.prog 33 #[.agg #[.int .i64 x.tok.k, .string x.tok.tx, .string x.tok.un, .bool x.tok.wh, .bool x.tok.fl, .slice ja x.kids.length jc]] w' fun e w'' => e = .returned (.string (idS x.tok)) ∧ Below w'.heap.size w' w'') := fun w' ja jc => rident_any x.tok ja x.kids.length jc (by have := hsz.1; omega) w'
    have HIS : Hid (idS x.tok = if x.tok.k = 1 then foldS x.tok.tx else noS) := rfl
    obtain ⟨b1, b2, b3, g1, g2, g3⟩ : ∃ b1 b2 b3 : Bool, ((idS x.tok).toList == [105, 110, 104, 101, 114, 105, 116]) = b1 ∧ ((idS x.tok).toList == [105, 110, 105, 116, 105, 97, 108]) = b2 ∧ ((idS x.tok).toList == [117, 110, 115, 101, 116]) = b3 := ⟨_, _, _, rfl, rfl, rfl⟩
    have HZ : Hid (R = if (b1 || b2 || b3) = true then idS x.tok else ⟨#[]⟩) := by
      show _ = _
      rw [HN.out, ← g1, ← g2, ← g3]
      have hem : (noS).toList = [] := by unfold noS; rw [ByteArray.toList_eq]
      by_cases hk : x.tok.k = 1
      · have e : idS x.tok = foldS x.tok.tx := by rw [HIS.out, if_pos hk]
        rw [e]
        congr 1
        simp only [hk, true_and, Bool.or_eq_true, beq_iff_eq, or_assoc]
      · have e : idS x.tok = noS := by rw [HIS.out, if_neg hk]
        rw [e, if_neg (fun h => hk h.1), hem]
        rfl
    generalize idS x.tok = d at *
    clear HR HN HIS htv HONE hsz
    go_enter Tryz.func13, Tryz.ntmps13
    go_wp2_with (go_at_call 30; fail)
    refine htr.mono ?_
    rintro e w2 ⟨ta, tn, tc, rfl, htn, htm, hvt, hb2⟩
    replace htn : tn = 1 := htn
    subst htn
    obtain ⟨cap, b, off, ja, jc, ej, hc1, hc2, ⟨q0, q1, q2⟩, q3, q4, q5⟩ := val_one hvt
    cases ej
    have hid := HID.out w2 ja jc
    have HB2 := hid_mk hb2
    clear htr hvt hb2 HID
    generalize x.kids.length = kn at *
    generalize x.tok = t at *
    obtain ⟨k, tx, un, wh, fl⟩ := t
    simp only at q0 q1 q2 q3 q4 hid
    go_wp2_with (go_at_call 33; fail)
    refine hid.mono ?_
    rintro e w3 ⟨rfl, hb3⟩
    have HB3 : Hid (Below W.heap.size W w3) := HB2.out.trans (hb3.mono HB2.out.size)
    clear hid hb3 HB2 q0 q1 q2 q3 q4 q5
    cases b1 <;> cases b2 <;> cases b3
    all_goals
      go_wp2
      go_ret
      exact ⟨by rw [HZ.out]; rfl, HB3.out⟩
  · subst hoo
    have HN : Hid (R = ⟨#[]⟩) := HR.out
    clear HR HONE
    go_enter Tryz.func13, Tryz.ntmps13
    go_wp2_with (go_at_call 30; fail)
    refine htr.mono ?_
    rintro e w2 ⟨ta, tn, tc, rfl, htn, htm, hvt, hb2⟩
    have HB2 := hid_mk hb2
    have hl1 : ((tn : Int) != 1) = true := by simpa using (by omega : (tn : Int) ≠ 1)
    clear htr hvt hb2 htn hl
    go_wp2
    go_ret
    exact ⟨by rw [HN.out]; rfl, HB2.out⟩
end Go.Proofs.YtfgnlgkpgihbmaaGreatDoor.Z
