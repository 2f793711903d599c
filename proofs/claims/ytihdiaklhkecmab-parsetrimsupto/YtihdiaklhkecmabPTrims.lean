/- gouachelaw03.ParseTrims: the walk. -/
import Derived.Test.YtihdiaklhkecmabPDecls
import Derived.Deep.DeepCutAuto
namespace Go.Proofs.Ytihdiaklhkecmab
open Go.RowKit
set_option maxRecDepth 100000

/-- A row of one block that a literal makes. -/
theorem VsAt.oneK {P : Nat → Prop} {w : World} {k : Int} {a : Option Addr} {cap : Nat} {ks : List V} (hk : VsAt P w (.slice a ks.length cap) ks) : VsAt (fun _ => True) (w.alloc (.cells #[.int .i64 k, .string ⟨#[]⟩, .string ⟨#[]⟩, .bool false, .bool false, .slice a ks.length cap] 29)) (.slice (some ⟨w.heap.size, 0, none⟩) 1 1) [V.mk ⟨k, ⟨#[]⟩, ⟨#[]⟩, false, false⟩ ks] := by
  have h : Row (fun _ => True) w.heap.size (w.alloc (.cells #[.int .i64 k, .string ⟨#[]⟩, .string ⟨#[]⟩, .bool false, .bool false, .slice a ks.length cap] 29)) (.slice (some ⟨w.heap.size, 0, none⟩) 1 1) [((⟨k, ⟨#[]⟩, ⟨#[]⟩, false, false⟩ : T5), .slice a ks.length cap, ks)] := by
    refine ⟨World.ownsRow_lit (base := w.heap.size) (e := 29) (size := 6) w #[.int .i64 k, .string ⟨#[]⟩, .string ⟨#[]⟩, .bool false, .bool false, .slice a ks.length cap] 1 (Nat.le_refl _) (by decide) rfl, fun _ _ => trivial, fun p hp => ?_⟩
    simp at hp
    subst hp
    exact ((hk.wider (Q := fun b => b < w.heap.size) (fun b _ h => h)).keep ((Below.refl _ w).alloc (Nat.le_refl _) _)).wider (fun b hb _ => ⟨trivial, fun e => by have : w.heap.size = b := Option.some.inj e; omega⟩)
  exact h.vals
set_option maxHeartbeats 1000000 in
theorem ptrims_walk {P : Nat → Prop} {W : World} {v u : Value} {vs us : List V} (hv : VsAt P W v vs) (hc : countL vs ≤ 2000000) (hu : VsAt P W u us) (hd : countL us ≤ 2000000) : Calls Try.prog 3 #[v, u] W fun e w' => e = .returned (.bool true) ∧ Below W.heap.size W w' := by
  have HV := hid_mk hv
  have HU := hid_mk hu
  have HL : Hid (∀ w, Calls Try.prog 5 #[] w fun e w' => e = .returned (.bool true) ∧ Below w.heap.size w w') := lives_any
  have h4 := great_any hv W (Below.refl _ _) hc
  have H4 : Hid (∀ w, Below W.heap.size W w → Calls Try.prog 4 #[u] w fun e w' => e = .returned (.bool (greatZ us)) ∧ Below w.heap.size w w') := fun w hw => great_any HU.out w hw hd
  have HGR : Hid (greatZ vs = false → countL vs ≤ 3000) := great_no
  have HGU : Hid (greatZ us = false → countL us ≤ 3000) := great_no
  obtain ⟨a, cap, rfl, hl, hcap⟩ := hv.slice
  obtain ⟨a', cap', rfl, hl', hcap'⟩ := hu.slice
  clear hv hu
  generalize greatZ vs = gz at *
  generalize greatZ us = gy at *
  go_enter Try.func3, Try.ntmps3
  go_wp2_with (go_at_call 4; fail)
  refine h4.mono ?_
  rintro e w1 ⟨rfl, hb1⟩
  have HB1 := hid_mk hb1
  clear h4 hb1
  cases gz with
  | true =>
    clear HGR HGU
    go_wp2_with (go_at_call 5; fail)
    refine (HL.out _).mono ?_
    rintro e w2 ⟨rfl, hb2⟩
    have HB2 : Hid (Below W.heap.size W w2) := HB1.out.trans (hb2.mono HB1.out.size)
    clear hb2
    go_wp2
    go_ret
    exact ⟨rfl, HB2.out⟩
  | false =>
    have h4 := H4.out w1 HB1.out
    go_wp2_with (go_at_call 4; fail)
    refine h4.mono ?_
    rintro e w2 ⟨rfl, hb2⟩
    have HB2 : Hid (Below W.heap.size W w2) := HB1.out.trans (hb2.mono HB1.out.size)
    clear h4 hb2 H4 HB1
    cases gy with
    | true =>
      clear HGR HGU
      go_wp2_with (go_at_call 5; fail)
      refine (HL.out _).mono ?_
      rintro e w3 ⟨rfl, hb3⟩
      have HB3 : Hid (Below W.heap.size W w3) := HB2.out.trans (hb3.mono HB2.out.size)
      clear hb3
      go_wp2
      go_ret
      exact ⟨rfl, HB3.out⟩
    | false =>
      have hct := HGR.out (by first | rfl | trivial)
      have hcu := HGU.out (by first | rfl | trivial)
      have HM := hid_mk (count_most _ vs (Nat.le_refl _) (by omega))
      have hln := count_len vs
      have hlu := count_len us
      have h6 := ptrim_any (HV.out.keep HB2.out) HM.out
      clear HGR HGU
      go_wp2_with (go_at_call 6; fail)
      refine h6.mono ?_
      rintro e w3 ⟨o3, rfl, ho3, hb3⟩
      have HB3 : Hid (Below W.heap.size W w3) := HB2.out.trans (hb3.mono HB2.out.size)
      have HT3 := hid_mk ho3
      obtain ⟨ta, tc, rfl, htl, htc⟩ := ho3.slice
      have HTL := hid_mk (trim_len vs)
      clear h6 ho3 hb3 HB2
      have HTI := hid_mk (trim_id vs)
      have HHD : Hid (∀ x r, trimZ vs = x :: r → (x.tok.k == 13) = false) := fun x r h => by rw [← space_eq]; exact trim_head vs x r h
      have HLA : Hid (∀ x r, trimZ vs = r ++ [x] → (x.tok.k == 13) = false) := fun x r h => by rw [← space_eq]; exact trim_last vs x r h
      have HMT := hid_mk (trim_most HM.out)
      generalize trimZ vs = tv at *
      go_upto_region 4 with fail
      go_cut [54] (fun a54 wx => a54 = .bool false ∧ Below W.heap.size W wx)
      case first =>
        have h6 := ptrim_any HT3.out HMT.out
        rw [HTI.out] at h6
        have htv := HTL.out
        have zl : decide ((vs.length : Int) < (tv.length : Int)) = false := decide_eq_false (by omega)
        have H7 : Hid (∀ w4 o4, VsAt (fun b => w3.heap.size ≤ b) w4 o4 tv → Below w3.heap.size w3 w4 → Calls Try.prog 7 #[o4, .slice ta tv.length tc] w4 fun e w' => e = .returned (.bool true) ∧ Below w4.heap.size w4 w') := fun w4 o4 h1 h2 => psame_any h1 _ _ (HT3.out.keep h2) w4 (Below.refl _ _) true (by simp)
        rcases List.eq_nil_or_concat tv with rfl | ⟨r, x, htv2⟩
        · clear HHD HLA
          simp only [List.length_nil] at *
          go_wp2_with (go_at_call 6; fail)
          refine h6.mono ?_
          rintro e w4 ⟨o4, rfl, ho4, hb4⟩
          have h7 := H7.out w4 o4 ho4 hb4
          have HB4 : Hid (Below W.heap.size W w4) := HB3.out.trans (hb4.mono HB3.out.size)
          obtain ⟨a4, c4, rfl, _, _⟩ := ho4.slice
          clear h6 ho4 hb4 H7
          go_wp2_with (go_at_call 7; fail)
          refine h7.mono ?_
          rintro e w5 ⟨rfl, hb5⟩
          have HB5 : Hid (Below W.heap.size W w5) := HB4.out.trans (hb5.mono HB4.out.size)
          clear h7 hb5
          go_wp2_with fail
          go_meet
          exact ⟨rfl, HB5.out⟩
        · rw [List.concat_eq_append] at htv2
          have hpos : 0 < tv.length := by rw [htv2]; simp
          have hrl : r.length = tv.length - 1 := by rw [htv2]; simp
          obtain ⟨_, _, _, hcs⟩ := HT3.out.cells
          obtain ⟨b, off, kv, rfl, hb, hc0, _⟩ := hcs 0 hpos
          obtain ⟨b', off', kv', ebo, hb', hc1, _⟩ := hcs (tv.length - 1) (by omega)
          have e1 : b' = b := by injection ebo with e; injection e with e1 e2; exact e1.symm
          have e2 : off' = off := by injection ebo with e; injection e with e1 e2; exact e2.symm
          subst e1 e2
          have q0 := hc0 0 _ rfl
          have q1 := hc1 0 _ rfl
          simp only [Nat.zero_mul, Nat.add_zero] at q0 q1
          have z0 : ((tv[0]'hpos).tok.k == 13) = false := HHD.out _ (tv.drop 1) (by
            cases tv with
            | nil => simp at hpos
            | cons y t => rfl)
          have z1 : ((tv[tv.length - 1]'(by omega)).tok.k == 13) = false := HLA.out _ r (by
            have hx : ∀ (l : List V) (h : l.length - 1 < l.length), l = r ++ [x] → l[l.length - 1]'h = x := fun l h e => by
              subst e
              simp
            rw [hx tv (by omega) htv2]
            exact htv2)
          generalize (tv[0]'hpos).tok.k = y0 at *
          generalize (tv[tv.length - 1]'(by omega)).tok.k = y1 at *
          clear HHD HLA hc0 hc1 hcs ebo htv2 hrl
          have zp : decide ((0 : Int) < (tv.length : Int)) = true := decide_eq_true (by omega)
          go_wp2_with (go_at_call 6; fail)
          refine h6.mono ?_
          rintro e w4 ⟨o4, rfl, ho4, hb4⟩
          have h7 := H7.out w4 o4 ho4 hb4
          have HB4 : Hid (Below W.heap.size W w4) := HB3.out.trans (hb4.mono HB3.out.size)
          obtain ⟨a4, c4, rfl, _, _⟩ := ho4.slice
          clear h6 ho4 hb4 H7 q0 q1
          go_wp2_with (go_at_call 7; fail)
          refine h7.mono ?_
          rintro e w5 ⟨rfl, hb5⟩
          have HB5 : Hid (Below W.heap.size W w5) := HB4.out.trans (hb5.mono HB4.out.size)
          clear h7 hb5
          go_wp2_with fail
          go_meet
          exact ⟨by rw [show decide (vs.length < tv.length) = false from decide_eq_false (by omega)], HB5.out⟩
      case rest =>
      obtain ⟨rfl, hbc⟩ := hcut
      have HBC := hid_mk hbc
      have HVC := hid_mk (HV.out.keep hbc)
      have HUC := hid_mk (HU.out.keep hbc)
      clear hbc HT3 HB3 HTL HTI HHD HLA HMT HM
      go_upto_region 6 with fail
      have gl : Below wc.heap.size wc (wc.alloc (.cells #[] 29)) := (Below.refl _ wc).alloc (Nat.le_refl _) _
      have HR0 : Hid (Row (fun _ => True) wc.heap.size (wc.alloc (.cells #[] 29)) (.slice (some ⟨wc.heap.size, 0, none⟩) 0 0) []) := Row.none wc _ (Nat.le_refl _)
      have HS0 : Hid (VsAt (fun b => True ∧ (Value.slice (some ⟨wc.heap.size, 0, none⟩) 0 0).ownBlock ≠ some b) (wc.alloc (.cells #[] 29)) (.slice a vs.length cap) vs) :=
        ((HVC.out.wider (Q := fun b => b < wc.heap.size) (fun b _ h => h)).keep gl).wider (fun b hb _ => ⟨trivial, fun e => by have : wc.heap.size = b := Option.some.inj e; omega⟩)
      have hn0 : ([] : List (T5 × Value × List V)).length + vs.length ≤ 1000000 := by simp; omega
      have HS1 : Hid (∀ w8 v8 qs8, Row (fun _ => True) wc.heap.size w8 v8 qs8 → Below wc.heap.size wc w8 → VsAt (fun b => True ∧ v8.ownBlock ≠ some b) w8 (.slice a' us.length cap') us) := fun w8 v8 qs8 hr g =>
        ((HUC.out.wider (Q := fun b => b < wc.heap.size) (fun b _ h => h)).keep g).wider (fun b hb _ => ⟨trivial, fun e => by have := (hr.1.lt b e).1; omega⟩)
      have HN1 : Hid (∀ qs8 : List (T5 × Value × List V), qs8.map mkV = vs → ([] ++ qs8).length + us.length ≤ 1000000) := fun qs8 h => by
        have : qs8.length = vs.length := by rw [← h, List.length_map]
        simp
        omega
      go_upto_region 7 with (at_builtin; first
        | (refine wpList_append_row (ps := []) (vs := vs) rfl _ _ rfl rfl rfl HR0.out HS0.out hn0 gl.size trivial ?_; intro v8 w8 qs8 hrow8 hq8 hg8; have g8 := bgrown gl hg8 (fun j e => by have : wc.heap.size = j := Option.some.inj e; omega))
        | (refine wpList_append_row (ps := [] ++ qs8) (vs := us) rfl _ _ rfl rfl rfl hrow8 (HS1.out _ _ _ hrow8 g8) (HN1.out _ hq8) g8.size trivial ?_; intro v9 w9 qs9 hrow9 hq9 hg9; have g9 := bgrown g8 hg9 (fun j e => (hrow8.1.lt j e).1)))
      have hv9 := hrow9.vals
      rw [List.map_append, List.map_append, hq8, hq9, List.map_nil, List.nil_append] at hv9
      have HV9 := hid_mk hv9
      have HB9 : Hid (Below W.heap.size W w9) := HBC.out.trans (g9.mono HBC.out.size)
      have HVD := hid_mk (HVC.out.keep g9)
      have HUD := hid_mk (HUC.out.keep g9)
      obtain ⟨a9, c9, rfl, _, _⟩ := hv9.slice
      clear hv9
      generalize (vs ++ us).length = l1 at *
      clear hrow8 hq8 hg8 g8 hrow9 hq9 hg9 g9 HR0 HS0 HS1 HN1 gl HVC HUC HBC
      have gl : Below w9.heap.size w9 (w9.alloc (.cells #[] 29)) := (Below.refl _ w9).alloc (Nat.le_refl _) _
      have HR0 : Hid (Row (fun _ => True) w9.heap.size (w9.alloc (.cells #[] 29)) (.slice (some ⟨w9.heap.size, 0, none⟩) 0 0) []) := Row.none w9 _ (Nat.le_refl _)
      have HS0 : Hid (VsAt (fun b => True ∧ (Value.slice (some ⟨w9.heap.size, 0, none⟩) 0 0).ownBlock ≠ some b) (w9.alloc (.cells #[] 29)) (.slice a vs.length cap) vs) :=
        ((HVD.out.wider (Q := fun b => b < w9.heap.size) (fun b _ h => h)).keep gl).wider (fun b hb _ => ⟨trivial, fun e => by have : w9.heap.size = b := Option.some.inj e; omega⟩)
      have HS1 : Hid (∀ w8 v8 qs8, Row (fun _ => True) w9.heap.size w8 v8 qs8 → Below w9.heap.size w9 w8 → VsAt (fun b => True ∧ v8.ownBlock ≠ some b) w8 (.slice a vs.length cap) vs) := fun w8 v8 qs8 hr g =>
        ((HVD.out.wider (Q := fun b => b < w9.heap.size) (fun b _ h => h)).keep g).wider (fun b hb _ => ⟨trivial, fun e => by have := (hr.1.lt b e).1; omega⟩)
      have HN1 : Hid (∀ qs8 : List (T5 × Value × List V), qs8.map mkV = vs → ([] ++ qs8).length + vs.length ≤ 1000000) := fun qs8 h => by
        have : qs8.length = vs.length := by rw [← h, List.length_map]
        simp
        omega
      go_upto_region 8 with (at_builtin; first
        | (refine wpList_append_row (ps := []) (vs := vs) rfl _ _ rfl rfl rfl HR0.out HS0.out hn0 gl.size trivial ?_; intro v10 w10 qs10 hrow10 hq10 hg10; have g10 := bgrown gl hg10 (fun j e => by have : w9.heap.size = j := Option.some.inj e; omega))
        | (refine wpList_append_row (ps := [] ++ qs10) (vs := vs) rfl _ _ rfl rfl rfl hrow10 (HS1.out _ _ _ hrow10 g10) (HN1.out _ hq10) g10.size trivial ?_; intro v11 w11 qs11 hrow11 hq11 hg11; have g11 := bgrown g10 hg11 (fun j e => (hrow10.1.lt j e).1)))
      have hv11 := hrow11.vals
      rw [List.map_append, List.map_append, hq10, hq11, List.map_nil, List.nil_append] at hv11
      have HB11 : Hid (Below W.heap.size W w11) := HB9.out.trans (g11.mono HB9.out.size)
      have HVE := hid_mk (HVD.out.keep g11)
      have HUE := hid_mk (HUD.out.keep g11)
      obtain ⟨p, hp⟩ : ∃ p : Bool, p = true ↔ vs = us := by
        classical exact ⟨decide (vs = us), decide_eq_true_iff⟩
      have h7 := psame_any (HV9.out.keep g11) _ _ hv11 w11 (Below.refl _ _) p (by
        rw [hp]
        exact ⟨fun e => by rw [e], fun e => (List.append_cancel_left e).symm⟩)
      obtain ⟨a11, c11, rfl, _, _⟩ := hv11.slice
      have HP := hid_mk hp
      clear hrow10 hq10 hg10 g10 hrow11 hq11 hg11 g11 hv11 HR0 HS0 HS1 HN1 gl HVD HUD HB9 HV9 hp
      generalize (vs ++ vs).length = l2 at *
      go_wp2_with (go_at_call 7; fail)
      refine h7.mono ?_
      rintro e w12 ⟨rfl, hb12⟩
      have HB12 : Hid (Below W.heap.size W w12) := HB11.out.trans (hb12.mono HB11.out.size)
      have HVF := hid_mk (HVE.out.keep hb12)
      have HUF := hid_mk (HUE.out.keep hb12)
      clear h7 hb12 HVE HUE HB11
      have h7 := psame_any HVF.out _ _ HUF.out w12 (Below.refl _ _) p HP.out
      go_wp2_with (go_at_call 7; fail)
      refine h7.mono ?_
      rintro e w13 ⟨rfl, hb13⟩
      have HB13 : Hid (Below W.heap.size W w13) := HB12.out.trans (hb13.mono HB12.out.size)
      have HVG := hid_mk (HVF.out.keep hb13)
      have HUG := hid_mk (HUF.out.keep hb13)
      have zpp : (p != p) = false := by cases p <;> rfl
      have zpq : (p == p) = true := by cases p <;> rfl
      clear h7 hb13 HVF HUF HB12
      have hA1 : Below w13.heap.size w13 (w13.alloc (.cells #[.int .i64 21, .string ⟨#[]⟩, .string ⟨#[]⟩, .bool false, .bool false, .slice a vs.length cap] 29)) := (Below.refl _ w13).alloc (Nat.le_refl _) _
      have HO1 := hid_mk (VsAt.oneK (k := 21) HVG.out)
      have HUH := hid_mk (HUG.out.keep hA1)
      have HB14 : Hid (Below W.heap.size W (w13.alloc (.cells #[.int .i64 21, .string ⟨#[]⟩, .string ⟨#[]⟩, .bool false, .bool false, .slice a vs.length cap] 29))) := HB13.out.trans (hA1.mono HB13.out.size)
      clear hA1 HVG HUG
      go_upto_region 11 with fail
      generalize w13.alloc (.cells #[.int .i64 21, .string ⟨#[]⟩, .string ⟨#[]⟩, .bool false, .bool false, .slice a vs.length cap] 29) = w14 at *
      have hA2 : Below w14.heap.size w14 (w14.alloc (.cells #[.int .i64 21, .string ⟨#[]⟩, .string ⟨#[]⟩, .bool false, .bool false, .slice a' us.length cap'] 29)) := (Below.refl _ w14).alloc (Nat.le_refl _) _
      have HO2 := hid_mk (VsAt.oneK (k := 21) HUH.out)
      have HO3 := hid_mk (HO1.out.keep hA2)
      have HB15 : Hid (Below W.heap.size W (w14.alloc (.cells #[.int .i64 21, .string ⟨#[]⟩, .string ⟨#[]⟩, .bool false, .bool false, .slice a' us.length cap'] 29))) := HB14.out.trans (hA2.mono HB14.out.size)
      clear hA2 HO1 HUH HB14 HB13
      go_upto_region 12 with fail
      generalize w14.alloc (.cells #[.int .i64 21, .string ⟨#[]⟩, .string ⟨#[]⟩, .bool false, .bool false, .slice a' us.length cap'] 29) = w15 at *
      have h7 := psame_any HO3.out _ _ HO2.out w15 (Below.refl _ _) p (by
        rw [HP.out]
        exact ⟨fun e => by rw [e], fun e => by injection e with e _; injection e⟩)
      go_wp2_with (go_at_call 7; fail)
      refine h7.mono ?_
      rintro e w16 ⟨rfl, hb16⟩
      have HB16 : Hid (Below W.heap.size W w16) := HB15.out.trans (hb16.mono HB15.out.size)
      clear h7 hb16 HO2 HO3 HB15
      have h7 := psame_any (HV.out.keep HB16.out) _ _ (HU.out.keep HB16.out) w16 (Below.refl _ _) p HP.out
      go_wp2_with (go_at_call 7; fail)
      refine h7.mono ?_
      rintro e w17 ⟨rfl, hb17⟩
      have HB17 : Hid (Below W.heap.size W w17) := HB16.out.trans (hb17.mono HB16.out.size)
      clear h7 hb17 HB16
      go_wp2_with (go_at_call 5; fail)
      refine (HL.out _).mono ?_
      rintro e w18 ⟨rfl, hb18⟩
      have HB18 : Hid (Below W.heap.size W w18) := HB17.out.trans (hb18.mono HB17.out.size)
      clear hb18 HB17
      go_wp2
      go_ret
      exact ⟨rfl, HB18.out⟩

end Go.Proofs.Ytihdiaklhkecmab
