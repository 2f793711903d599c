/- gouachelaw03.ParseParts: the walk. -/
import Derived.Test.YtihdiaklhkecmaaAppF
import Derived.Deep.DeepCutAuto
namespace Go.Proofs.Ytihdiaklhkecmaa
open Go.RowKit
set_option maxRecDepth 100000

set_option maxHeartbeats 2000000 in
theorem pparts_walk {W : World} {v u : Value} {ts us : List T5} (hv : TsAt W v ts) (hsz : ∀ t ∈ ts, t.tx.size ≤ 140737488355328) (hu : TsAt W u us) (hn1 : ts.length ≤ 3000000000000) (hn2 : us.length ≤ 3000000000000) (hsu : ∀ t ∈ us, t.tx.size ≤ 140737488355328) : Calls Try.prog 7 #[v, u] W fun e w' => e = .returned (.bool true) ∧ Below W.heap.size W w' := by
  have HV := hid_mk hv
  have HU := hid_mk hu
  have HSZ := hid_mk hsz
  have HSU := hid_mk hsu
  have HL : Hid (∀ w, Calls Try.prog 9 #[] w fun e w' => e = .returned (.bool true) ∧ Below w.heap.size w w') := lives_any
  obtain ⟨a, cap, rfl, hl, hcap, -⟩ := hv
  obtain ⟨a', cap', rfl, hl', hcap', -⟩ := hu
  clear hsz hsu
  by_cases h3 : 2000 < ts.length + us.length
  · have z1 : decide ((2000 : Int) < (ts.length : Int) + (us.length : Int)) = true := decide_eq_true (by omega)
    go_enter Try.func7, Try.ntmps7
    go_wp2_with (go_at_call 9; fail)
    refine (HL.out _).mono ?_
    rintro e w' ⟨rfl, hb⟩
    go_wp2
    go_ret
    exact ⟨rfl, hb⟩
  · have z1 : decide ((2000 : Int) < (ts.length : Int) + (us.length : Int)) = false := decide_eq_false (by omega)
    have H11 : Hid (∀ w, Below W.heap.size W w → Calls Try.prog 11 #[.slice a ts.length cap] w fun e w' => ∃ out, e = .returned out ∧ VsAt (fun b => w.heap.size ≤ b) w' out (valsZ ts) ∧ Below w.heap.size w w') := fun w hw => values_any (HV.out.keep hw) (by omega)
    have H12 : Hid (∀ w, Below W.heap.size W w → Calls Try.prog 11 #[.slice a' us.length cap'] w fun e w' => ∃ out, e = .returned out ∧ VsAt (fun b => w.heap.size ≤ b) w' out (valsZ us) ∧ Below w.heap.size w w') := fun w hw => values_any (HU.out.keep hw) (by omega)
    have HMX := hid_mk (vals_most (ts := ts) (by omega))
    have HMY := hid_mk (vals_most (ts := us) (by omega))
    have hlx := vals_len ts
    have hly := vals_len us
    have HSX : Hid (∀ y ∈ valsZ ts, y.tok.tx.size ≤ 140737488355328) := fun y hy => HSZ.out _ (vals_mem ts y hy)
    have HSY : Hid (∀ y ∈ valsZ us, y.tok.tx.size ≤ 140737488355328) := fun y hy => HSU.out _ (vals_mem us y hy)
    clear HSZ HSU HV HU
    generalize valsZ ts = x at *
    generalize valsZ us = y at *
    go_enter Try.func7, Try.ntmps7
    go_wp2_with (go_at_call 11; fail)
    refine (H11.out _ (Below.refl _ _)).mono ?_
    rintro e w1 ⟨o1, rfl, ho1, hb1⟩
    have HX1 := hid_mk ho1
    have HB1 := hid_mk hb1
    obtain ⟨xa, xc, rfl, hxl, hxc⟩ := ho1.slice
    clear ho1 H11 hb1
    go_wp2_with (go_at_call 11; fail)
    refine (H12.out _ HB1.out).mono ?_
    rintro e w2 ⟨o2, rfl, ho2, hb2⟩
    have HY2 := hid_mk ho2
    have HX2 := hid_mk (HX1.out.keep hb2)
    have HB2 : Hid (Below W.heap.size W w2) := HB1.out.trans (hb2.mono HB1.out.size)
    obtain ⟨ya, yc, rfl, hyl, hyc⟩ := ho2.slice
    clear ho2 H12 hb2 HX1 HB1
    have hA3 : Below w2.heap.size w2 (w2.alloc (.cells #[.int .i64 23, .string ⟨#[]⟩, .string ⟨#[]⟩, .bool false, .bool false, .slice none 0 0] 46)) := (Below.refl _ w2).alloc (Nat.le_refl _) _
    have hE3 := heap_alloc_new w2 (.cells #[.int .i64 23, .string ⟨#[]⟩, .string ⟨#[]⟩, .bool false, .bool false, .slice none 0 0] 46)
    go_upto_region 5 with fail
    generalize w2.alloc (.cells #[.int .i64 23, .string ⟨#[]⟩, .string ⟨#[]⟩, .bool false, .bool false, .slice none 0 0] 46) = w3 at *
    have HX3 := hid_mk (HX2.out.keep hA3)
    have HY3 := hid_mk (HY2.out.keep hA3)
    have HB3 : Hid (Below W.heap.size W w3) := HB2.out.trans (hA3.mono HB2.out.size)
    have hE3l : w2.heap.size < w3.heap.size := (Array.getElem?_eq_some_iff.1 hE3).1
    have HE3 := hid_mk hE3
    clear HX2 HY2 HB2 hA3 hE3
    go_cut [8] (fun v8 wx => ∃ qs, Row (fun _ => True) w3.heap.size wx v8 qs ∧ qs.map mkV = x ++ [plainT 23 ⟨#[]⟩] ∧ Below w3.heap.size w3 wx)
    case first =>
      have gd : Below w3.heap.size w3 w3.drew := below_drewN5 _ _ 1
      have HF : Hid (∀ w', Below w3.heap.size w3 w' → w'.cell? ⟨w2.heap.size, 0, none⟩ = some (.int .i64 23) ∧ w'.cell? ⟨w2.heap.size, 1, none⟩ = some (.string ⟨#[]⟩) ∧ w'.cell? ⟨w2.heap.size, 2, none⟩ = some (.string ⟨#[]⟩) ∧ w'.cell? ⟨w2.heap.size, 3, none⟩ = some (.bool false) ∧ w'.cell? ⟨w2.heap.size, 4, none⟩ = some (.bool false) ∧ w'.cell? ⟨w2.heap.size, 5, none⟩ = some (.slice none 0 0)) := fun w' g => tok6 ((g.block _ hE3l).trans HE3.out)
      have hn0 : ([] : List (T5 × Value × List V)).length + x.length ≤ 1000000 := by simp; omega
      have HR0 : Hid (∀ w', Below w3.heap.size w3 w' → Row (fun _ => True) w3.heap.size (w'.alloc (.cells #[] 46)) (.slice (some ⟨w'.heap.size, 0, none⟩) 0 0) []) := fun w' g => Row.none w' _ g.size
      have HRC : Hid (Row (fun _ => True) w3.heap.size ((w3.drew.alloc (.cells #[.int .i64 23, .string ⟨#[]⟩, .string ⟨#[]⟩, .bool false, .bool false, .slice none 0 0] 46)).alloc (.cells #[] 46)) (.slice (some ⟨w3.heap.size + 1, 0, none⟩) 0 0) []) := by
        show Row _ _ _ _ _
        have h := HR0.out _ (balloc gd (.cells #[.int .i64 23, .string ⟨#[]⟩, .string ⟨#[]⟩, .bool false, .bool false, .slice none 0 0] 46))
        rw [show (w3.drew.alloc (.cells #[.int .i64 23, .string ⟨#[]⟩, .string ⟨#[]⟩, .bool false, .bool false, .slice none 0 0] 46)).heap.size = w3.heap.size + 1 by simp] at h
        exact h
      have HXS : Hid (∀ w' k n c, Below w3.heap.size w3 w' → w3.heap.size ≤ k → VsAt (fun b => True ∧ (Value.slice (some ⟨k, 0, none⟩) n c).ownBlock ≠ some b) w' (.slice xa x.length xc) x) := fun w' k n c g hk =>
        ((HX3.out.wider (Q := fun b => b < w3.heap.size) (fun b _ h => h)).keep g).wider (fun b hb _ => ⟨trivial, fun e => by have : k = b := Option.some.inj e; omega⟩)
      have HGW : Hid (∀ w' w'' k n c, Below w3.heap.size w3 w' → w3.heap.size ≤ k → w'.grownBy w'' (Value.slice (some ⟨k, 0, none⟩) n c).ownBlock → Below w3.heap.size w3 w'') := fun w' w'' k n c g hk hg => bgrown g hg (fun j e => by have : k = j := Option.some.inj e; omega)
      have HS2 : Hid (∀ w4 v4 qs, Row (fun _ => True) w3.heap.size w4 v4 qs → Row (fun _ => True) w3.heap.size (w4.alloc (.cells #[.int .i64 23, .string ⟨#[]⟩, .string ⟨#[]⟩, .bool false, .bool false, .slice none 0 0] 46)) v4 qs ∧ VsAt (fun b => True ∧ v4.ownBlock ≠ some b) (w4.alloc (.cells #[.int .i64 23, .string ⟨#[]⟩, .string ⟨#[]⟩, .bool false, .bool false, .slice none 0 0] 46)) (.slice (some ⟨w4.heap.size, 0, none⟩) 1 1) [plainT 23 ⟨#[]⟩]) := fun w4 v4 qs h => ⟨h.keep ((Below.refl _ w4).alloc (Nat.le_refl _) _), (VsAt.one w4 23 ⟨#[]⟩ ⟨#[]⟩ false false).wider (fun b hb _ => ⟨trivial, fun e => by have := (h.1.lt b e).2; omega⟩)⟩
      have HN2 : Hid (∀ qs : List (T5 × Value × List V), qs.map mkV = x → ([] ++ qs).length + [plainT 23 ⟨#[]⟩].length ≤ 1000000) := fun qs h => by
        have : qs.length = x.length := by rw [← h, List.length_map]
        simp
        omega
      go_region_held3 (fun w' => w'.cell? ⟨w2.heap.size, 0, none⟩ = some (.int .i64 23) ∧ w'.cell? ⟨w2.heap.size, 1, none⟩ = some (.string ⟨#[]⟩) ∧ w'.cell? ⟨w2.heap.size, 2, none⟩ = some (.string ⟨#[]⟩) ∧ w'.cell? ⟨w2.heap.size, 3, none⟩ = some (.bool false) ∧ w'.cell? ⟨w2.heap.size, 4, none⟩ = some (.bool false) ∧ w'.cell? ⟨w2.heap.size, 5, none⟩ = some (.slice none 0 0)) (first | exact HF.out _ gd | exact HF.out _ (balloc gd _) | exact HF.out _ (balloc (balloc gd _) _) | exact HF.out _ g4 | exact HF.out _ (balloc g4 _) | exact HF.out _ g5) (first
        | (refine step_append_row (ps := []) (vs := x) (by rfl) _ _ (by rfl) (by rfl) (by rfl) (HR0.out _ gd) (HXS.out _ _ _ _ (balloc gd _) gd.size) hn0 (balloc gd _).size trivial ?_; intro v4 w4 qs4 hrow4 hq4 hg4 hat4; have g4 := HGW.out _ _ _ _ _ (balloc gd _) gd.size hg4)
        | (refine step_append_row (ps := []) (vs := x) (by rfl) _ _ (by rfl) (by rfl) (by rfl) HRC.out (HXS.out _ _ _ _ (balloc (balloc gd _) _) (Nat.le_succ _)) hn0 (balloc (balloc gd _) _).size trivial ?_; intro v4 w4 qs4 hrow4 hq4 hg4 hat4; have g4 := HGW.out _ _ _ _ _ (balloc (balloc gd _) _) (Nat.le_succ _) hg4; have hone := VsAt.at (((VsAt.one w3.drew 23 ⟨#[]⟩ ⟨#[]⟩ false false).keep ((Below.refl _ _).alloc (Nat.le_refl _) _)).far hg4 (by simp) (by simp <;> omega) hat4) w3.heap.size (by simp))
        | (refine step_append_row (ps := []) (vs := x) (by rfl) _ _ (by rfl) (by rfl) (by rfl) ((HR0.out _ gd).keep ((Below.refl _ _).alloc (Nat.le_refl _) _)) (HXS.out _ _ _ _ (balloc (balloc gd _) _) gd.size) hn0 (balloc (balloc gd _) _).size trivial ?_; intro v4 w4 qs4 hrow4 hq4 hg4 hat4; have g4 := HGW.out _ _ _ _ _ (balloc (balloc gd _) _) gd.size hg4; have hone := VsAt.at ((VsAt.one (w3.drew.alloc (.cells #[] 46)) 23 ⟨#[]⟩ ⟨#[]⟩ false false).far hg4 (by simp) (by simp) hat4) (w3.heap.size + 1) (by simp))
        | (refine step_append_row (ps := [] ++ qs4) (vs := [plainT 23 ⟨#[]⟩]) (by rfl) _ _ (by rfl) (by rfl) (by rfl) (HS2.out _ _ _ hrow4).1 (HS2.out _ _ _ hrow4).2 (HN2.out _ hq4) (balloc g4 _).size trivial ?_; intro v5 w5 qs5 hrow5 hq5 hg5 hat5; have g5 := bgrown (balloc g4 _) hg5 (fun j e => (hrow4.1.lt j e).1))
        | (refine step_append_row (ps := [] ++ qs4) (vs := [plainT 23 ⟨#[]⟩]) (by rfl) _ _ (by rfl) (by rfl) (by rfl) hrow4 hone (HN2.out _ hq4) g4.size trivial ?_; intro v5 w5 qs5 hrow5 hq5 hg5 hat5; have g5 := bgrown g4 hg5 (fun j e => (hrow4.1.lt j e).1)))
      all_goals
        have HRO := hid_mk hrow5
        have HQ5 : Hid (([] ++ qs4 ++ qs5).map mkV = x ++ [plainT 23 ⟨#[]⟩]) := by
          show _ = _
          rw [List.map_append, List.map_append, hq4, hq5]
          rfl
        have HG5 := hid_mk g5
        clear hrow5 hq5 hg5 hat5 g5 hrow4 hq4 hg4 hat4 g4 gd HF HR0 HRC HXS HGW HS2 HN2 hn0
        go_wp2_with fail
        go_meet
        exact ⟨_, HRO.out, HQ5.out, HG5.out⟩
    case rest =>
    obtain ⟨qs5, hrow5, hq5, g5⟩ := hcut
    have HX5 := hid_mk (HX3.out.keep g5)
    have HY5 := hid_mk (HY3.out.keep g5)
    have HB5 : Hid (Below W.heap.size W wc) := HB3.out.trans (g5.mono HB3.out.size)
    have hvf := hrow5.vals
    rw [hq5] at hvf
    have HF5 := hid_mk hvf
    obtain ⟨fa, fc, rfl, hfl, hfc⟩ := hvf.slice
    have HEC : Hid (EndsC (x ++ [plainT 23 ⟨#[]⟩])) := fun z r e => by
      obtain ⟨_, h2⟩ := List.append_inj' e rfl
      cases h2
      rfl
    have HMF : Hid (V.most (x ++ [plainT 23 ⟨#[]⟩])) := by
      refine .mk _ (by rw [List.length_append, List.length_singleton]; omega) (fun z hz => ?_)
      rcases List.mem_append.1 hz with hz | hz
      · exact HMX.out.kid hz
      · rw [List.mem_singleton.1 hz]
        exact .mk _ (by simp [V.kids, plainT]) (fun x hx => by cases hx)
    have hlf : (x ++ [plainT 23 ⟨#[]⟩]).length ≤ x.length + 1 := by simp
    generalize x ++ [plainT 23 ⟨#[]⟩] = F at *
    clear hrow5 hq5 hvf g5 HX3 HY3 HB3 HE3 hE3l
    have h14 := rules_any HF5.out HMF.out (by omega)
    go_wp2_with (go_at_call 14; fail)
    refine h14.mono ?_
    rintro e w6 ⟨o6, ps, rfl, hrp, hps, hb6⟩
    have HRP6 := hid_mk hrp
    have HX6 := hid_mk (HX5.out.keep hb6)
    have HY6 := hid_mk (HY5.out.keep hb6)
    have HF6 := hid_mk (HF5.out.keep hb6)
    have HB6 : Hid (Below W.heap.size W w6) := HB5.out.trans (hb6.mono HB5.out.size)
    obtain ⟨pa, pc, rfl, hpl, hpc, -⟩ := owns_cells hrp.1
    have HPS := hid_mk hps
    clear h14 hrp hps hb6 HX5 HY5 HF5 HB5
    have h14 := rules_any HY6.out HMY.out (by omega)
    go_wp2_with (go_at_call 14; fail)
    refine h14.mono ?_
    rintro e w7 ⟨o7, qs, rfl, hrq, hqs, hb7⟩
    have HRQ7 := hid_mk hrq
    have HRP7 := hid_mk (HRP6.out.keep hb7)
    have HX7 := hid_mk (HX6.out.keep hb7)
    have HY7 := hid_mk (HY6.out.keep hb7)
    have HF7 := hid_mk (HF6.out.keep hb7)
    have HB7 : Hid (Below W.heap.size W w7) := HB6.out.trans (hb7.mono HB6.out.size)
    obtain ⟨qa, qc, rfl, hql, hqc, -⟩ := owns_cells hrq.1
    have HQS := hid_mk hqs
    clear h14 hrq hqs hb7 HX6 HY6 HF6 HB6 HRP6
    go_upto_region 7 with fail
    have gl : Below w7.heap.size w7 (w7.alloc (.cells #[] 46)) := (Below.refl _ w7).alloc (Nat.le_refl _) _
    have HR0 : Hid (Row (fun _ => True) w7.heap.size (w7.alloc (.cells #[] 46)) (.slice (some ⟨w7.heap.size, 0, none⟩) 0 0) []) := Row.none w7 _ (Nat.le_refl _)
    have HS0 : Hid (VsAt (fun b => True ∧ (Value.slice (some ⟨w7.heap.size, 0, none⟩) 0 0).ownBlock ≠ some b) (w7.alloc (.cells #[] 46)) (.slice fa F.length fc) F) :=
      ((HF7.out.wider (Q := fun b => b < w7.heap.size) (fun b _ h => h)).keep gl).wider (fun b hb _ => ⟨trivial, fun e => by have : w7.heap.size = b := Option.some.inj e; omega⟩)
    have hnf : ([] : List (T5 × Value × List V)).length + F.length ≤ 1000000 := by simp; omega
    have HS1 : Hid (∀ w8 v8 qs8, Row (fun _ => True) w7.heap.size w8 v8 qs8 → Below w7.heap.size w7 w8 → VsAt (fun b => True ∧ v8.ownBlock ≠ some b) w8 (.slice ya y.length yc) y) := fun w8 v8 qs8 hr g =>
      ((HY7.out.wider (Q := fun b => b < w7.heap.size) (fun b _ h => h)).keep g).wider (fun b hb _ => ⟨trivial, fun e => by have := (hr.1.lt b e).1; omega⟩)
    have HN1 : Hid (∀ qs8 : List (T5 × Value × List V), qs8.map mkV = F → ([] ++ qs8).length + y.length ≤ 1000000) := fun qs8 h => by
      have : qs8.length = F.length := by rw [← h, List.length_map]
      simp
      omega
    go_upto_region 8 with (at_builtin; first
      | (refine wpList_append_row (ps := []) (vs := F) rfl _ _ rfl rfl rfl HR0.out HS0.out hnf gl.size trivial ?_; intro v8 w8 qs8 hrow8 hq8 hg8; have g8 := bgrown gl hg8 (fun j e => by have : w7.heap.size = j := Option.some.inj e; omega))
      | (refine wpList_append_row (ps := [] ++ qs8) (vs := y) rfl _ _ rfl rfl rfl hrow8 (HS1.out _ _ _ hrow8 g8) (HN1.out _ hq8) g8.size trivial ?_; intro v9 w9 qs9 hrow9 hq9 hg9; have g9 := bgrown g8 hg9 (fun j e => (hrow8.1.lt j e).1)))
    have hv9 := hrow9.vals
    rw [List.map_append, List.map_append, hq8, hq9, List.map_nil, List.nil_append] at hv9
    have HMA : Hid (V.most (F ++ y)) := .mk _ (by rw [List.length_append]; omega) (fun z hz => by
      rcases List.mem_append.1 hz with hz | hz
      · exact HMF.out.kid hz
      · exact HMY.out.kid hz)
    have h14 := rules_any hv9 HMA.out (by rw [List.length_append]; omega)
    have HRA := hid_mk (rules_app F.length F y (Nat.le_refl _) HEC.out)
    have HRP9 := hid_mk (HRP7.out.keep g9)
    have HRQ9 := hid_mk (HRQ7.out.keep g9)
    have HX9 := hid_mk (HX7.out.keep g9)
    have HY9 := hid_mk (HY7.out.keep g9)
    have HB9 : Hid (Below W.heap.size W w9) := HB7.out.trans (g9.mono HB7.out.size)
    clear hrow8 hq8 hg8 g8 hrow9 hq9 hg9 g9 hv9 HR0 HS0 HS1 HN1 gl hnf HRP7 HRQ7 HX7 HY7 HF7 HB7
    refine h14.mono ?_
    rintro e w10 ⟨o10, rs, rfl, hra, hrs, hb10⟩
    rw [HRA.out, ← HPS.out, ← HQS.out] at hrs
    have HRS := hid_mk hrs
    have hrl : rs.length = ps.length + qs.length := by have := congrArg List.length hrs; simpa using this
    have hp1 : ps.length ≤ F.length := by
      have := congrArg List.length HPS.out
      rw [List.length_map] at this
      rw [this]
      exact rules_len _ _
    have hq1 : qs.length ≤ y.length := by
      have := congrArg List.length HQS.out
      rw [List.length_map] at this
      rw [this]
      exact rules_len _ _
    have z8 : ((rs.length : Int) != (ps.length : Int) + (qs.length : Int)) = false := by
      rw [hrl]
      simp
    have HRL := hid_mk hrl
    have HRA10 := hid_mk hra
    obtain ⟨ra, rc, rfl, hrl1, hrl2, -⟩ := owns_cells hra.1
    have HRP10 := hid_mk (HRP9.out.keep hb10)
    have HRQ10 := hid_mk (HRQ9.out.keep hb10)
    have HX10 := hid_mk (HX9.out.keep hb10)
    have HY10 := hid_mk (HY9.out.keep hb10)
    have HB10 : Hid (Below W.heap.size W w10) := HB9.out.trans (hb10.mono HB9.out.size)
    clear h14 hra hrs hb10 hrl HRP9 HRQ9 HX9 HY9 HB9 HRA HMA HPS HQS HEC HMF
    go_upto_region 10 with fail
    obtain ⟨i0, hi0, hz0, hz1, hz2⟩ := info_parts Try.info36
    have gl : Below w10.heap.size w10 (w10.alloc (.cells #[] 36)) := (Below.refl _ w10).alloc (Nat.le_refl _) _
    have HR0 : Hid (Row2 (fun _ => True) w10.heap.size (w10.alloc (.cells #[] 36)) (.slice (some ⟨w10.heap.size, 0, none⟩) 0 0) []) := Row2.none w10 _ (Nat.le_refl _)
    have HRP := hid_mk (HRP10.out.keep gl)
    have HONE := hid_mk HRP10.out.ones
    have HONQ := hid_mk HRQ10.out.ones
    have HRQ : Hid (∀ w', Below w10.heap.size w10 w' → Row2 _ _ w' (.slice qa qs.length qc) qs) := fun w' g => HRQ10.out.keep g
    have hnp : 0 + ps.length ≤ 1000000 := by omega
    have hnq : 0 + ps.length + qs.length ≤ 1000000 := by omega
    go_upto_region 11 with (at_builtin; first
      | (refine wpList_append_owns rfl _ _ 29 rfl Try.underlying29 hi0 hz0 hz1 hz2 rfl (by decide) (by decide) rfl rfl HR0.out.1 HRP.out.1 HONE.out hnp gl.size ?_; intro v11 w11 hown11 hg11 hat11; have g11 := bgrown gl hg11 (fun j e => by have : w10.heap.size = j := Option.some.inj e; omega))
      | (refine wpList_append_owns rfl _ _ 29 rfl Try.underlying29 hi0 hz0 hz1 hz2 rfl (by decide) (by decide) rfl rfl hown11 (HRQ.out _ g11).1 HONQ.out hnq g11.size ?_; intro v12 w12 hown12 hg12 hat12; have g12 := bgrown g11 hg12 (fun j e => (hown11.lt j e).1); generalize hN : 0 + ps.length + qs.length = N at hown12; have HNN := hid_mk hN; clear hN; obtain ⟨va, vc, rfl, hvl, hvc, -⟩ := owns_cells hown12))
    have hPV : ∀ z ∈ ps, VsAt (fun b => b < w10.heap.size) w10 z.p z.pv ∧ VsAt (fun b => b < w10.heap.size) w10 z.b z.bv := fun z hz => ⟨(HRP10.out.2.2 z hz).1.wider (fun b _ h => h), (HRP10.out.2.2 z hz).2.wider (fun b _ h => h)⟩
    have hQV : ∀ z ∈ qs, VsAt (fun b => b < w10.heap.size) w10 z.p z.pv ∧ VsAt (fun b => b < w10.heap.size) w10 z.b z.bv := fun z hz => ⟨(HRQ10.out.2.2 z hz).1.wider (fun b _ h => h), (HRQ10.out.2.2 z hz).2.wider (fun b _ h => h)⟩
    have hn : ∀ b, b < w10.heap.size → True ∧ (Value.slice (some ⟨w10.heap.size, 0, none⟩) 0 0).ownBlock ≠ some b := fun b hb => ⟨trivial, fun e => by
      have e1 : w10.heap.size = b := Option.some.inj e
      omega⟩
    have hn2 : ∀ b, b < w10.heap.size → True ∧ v11.ownBlock ≠ some b := fun b hb => ⟨trivial, fun e => by
      have := (hown11.lt b e).1
      omega⟩
    have hR11 : Row2 (fun _ => True) w10.heap.size w11 v11 ([] ++ ps) := HR0.out.cat (fun z hz => ⟨((hPV z hz).1.keep gl).wider (fun b hb _ => hn b hb), ((hPV z hz).2.keep gl).wider (fun b hb _ => hn b hb)⟩) (by simpa using hown11) hg11 hat11 trivial
    have eN : ([] ++ ps).length + qs.length = N := by have := HNN.out; simp; omega
    have HR12 : Hid (Row2 (fun _ => True) w10.heap.size w12 (.slice va N vc) ([] ++ ps ++ qs)) := by
      refine hR11.cat (fun z hz => ⟨((hQV z hz).1.keep g11).wider (fun b hb _ => hn2 b hb), ((hQV z hz).2.keep g11).wider (fun b hb _ => hn2 b hb)⟩) ?_ hg12 hat12 trivial
      rw [eN]
      simpa using hown12
    have HSAID : Hid (rs.map B2.said = ([] ++ ps ++ qs).map B2.said) := by
      show _ = _
      rw [HRS.out]
      simp
    have HZL : Hid (([] ++ ps ++ qs).length = N) := by
      show _ = _
      rw [List.length_append]
      exact eN
    have HRN : Hid (rs.length = N) := by
      show _ = _
      have h1 := HRL.out
      have h2 := HNN.out
      omega
    generalize [] ++ ps ++ qs = zs at *
    have HRA12 := hid_mk (HRA10.out.keep g12)
    have HX12 := hid_mk (HX10.out.keep g12)
    have HY12 := hid_mk (HY10.out.keep g12)
    have HB12 : Hid (Below W.heap.size W w12) := HB10.out.trans (g12.mono HB10.out.size)
    clear hPV hQV hn hn2 hR11 eN hown11 hg11 hat11 g11 hown12 hg12 hat12 g12 gl HR0 HRP HONE HONQ HRQ hnp hnq HRP10 HRQ10 HRA10 HX10 HY10 HB10 HRS HNN HRL hi0 hz0 hz1 hz2
    go_wp2
    go_loopw [59] (fun a59 wr => ∃ (k : Nat), a59 = .int .i64 k ∧ k ≤ N ∧ Below w12.heap.size w12 wr) (fun a59 _ => N + 1 - (intOf a59).toNat)
    case atStart => exact ⟨0, rfl, Nat.zero_le _, Below.refl _ _⟩
    case round =>
      obtain ⟨k, rfl, hk, hB⟩ := hrel
      by_cases hlt : k < N
      · obtain ⟨za, zc, ez, _, _, hcz⟩ := owns_cells HR12.out.1
        obtain ⟨ra', rc', er, _, _, hcr⟩ := owns_cells HRA12.out.1
        have hzl := HZL.out
        have hrn := HRN.out
        obtain ⟨gz, e1, hgz, hcz⟩ := hcz (by omega)
        obtain ⟨gr, e2, hgr, hcr⟩ := hcr (by omega)
        have e3 : va = some ⟨gz, 0, none⟩ := by
          rw [← e1]
          injection ez
        have e4 : ra = some ⟨gr, 0, none⟩ := by
          rw [← e2]
          injection er
        subst e3 e4
        have hkz : k < zs.length := by omega
        have hkr : k < rs.length := by omega
        clear hzl hrn
        have hsd : (rs[k]'hkr).said = (zs[k]'hkz).said := by
          have := congrArg (fun l => l[k]?) HSAID.out
          simp only [List.getElem?_map, List.getElem?_eq_getElem hkz, List.getElem?_eq_getElem hkr, Option.map_some] at this
          exact Option.some.inj this
        have c1 : wr.cell? ⟨gz, k * 2, none⟩ = some (zs[k]'hkz).p := (hB.cell (p := ⟨gz, k * 2, none⟩) hgz).trans (hcz (k * 2) _ (flat2_at zs k 0 hkz (by decide)))
        have c2 : wr.cell? ⟨gz, k * 2 + 1, none⟩ = some (zs[k]'hkz).b := (hB.cell (p := ⟨gz, k * 2 + 1, none⟩) hgz).trans (hcz (k * 2 + 1) _ (flat2_at zs k 1 hkz (by decide)))
        have d1 : w12.cell? ⟨gr, k * 2, none⟩ = some (rs[k]'hkr).p := hcr (k * 2) _ (flat2_at rs k 0 hkr (by decide))
        have d2 : w12.cell? ⟨gr, k * 2 + 1, none⟩ = some (rs[k]'hkr).b := hcr (k * 2 + 1) _ (flat2_at rs k 1 hkr (by decide))
        have hv1 := HR12.out.2.2 _ (List.getElem_mem hkz)
        have hv2 := HRA12.out.2.2 _ (List.getElem_mem hkr)
        generalize zs[k]'hkz = zz at *
        generalize rs[k]'hkr = rr at *
        obtain ⟨zp, zpv, zb, zbv⟩ := zz
        obtain ⟨rp, rpv, rb, rbv⟩ := rr
        have f1 : rpv = zpv := congrArg (fun x => x.1) hsd
        have f2 : rbv = zbv := congrArg (fun x => x.2) hsd
        subst f1 f2
        dsimp only at c1 c2 d1 d2 hv1 hv2
        have HV1 := hid_mk hv1
        have HV2 := hid_mk hv2
        obtain ⟨zpa, zpc, rfl, _, _⟩ := hv1.1.slice
        obtain ⟨zba, zbc, rfl, _, _⟩ := hv1.2.slice
        obtain ⟨rpa, rpc, rfl, _, _⟩ := hv2.1.slice
        obtain ⟨rba, rbc, rfl, _, _⟩ := hv2.2.slice
        have hA13 : Below wr.heap.size wr (wr.alloc (.cells #[.slice zpa rpv.length zpc, .slice zba rbv.length zbc] 36)) := (Below.refl _ wr).alloc (Nat.le_refl _) _
        have hz13 := heap_alloc_new wr (.cells #[.slice zpa rpv.length zpc, .slice zba rbv.length zbc] 36)
        have hgzr : gz < wr.heap.size := Nat.lt_of_lt_of_le hgz hB.size
        clear hv1 hv2 hsd hcz hcr ez er
        go_upto_region 13 with fail
        generalize wr.alloc (.cells #[.slice zpa rpv.length zpc, .slice zba rbv.length zbc] 36) = wz at *
        have hBz : Below w12.heap.size w12 wz := hB.trans (hA13.mono hB.size)
        have hzl2 : wr.heap.size < wz.heap.size := (Array.getElem?_eq_some_iff.1 hz13).1
        have HF : Hid (∀ w', Below wz.heap.size wz w' → w'.cell? ⟨gr, k * 2, none⟩ = some (.slice rpa rpv.length rpc) ∧ w'.cell? ⟨gr, k * 2 + 1, none⟩ = some (.slice rba rbv.length rbc) ∧ w'.cell? ⟨wr.heap.size, 0, none⟩ = some (.slice zpa rpv.length zpc) ∧ w'.cell? ⟨wr.heap.size, 1, none⟩ = some (.slice zba rbv.length zbc)) := fun w' g => by
          have gb := hBz.trans (g.mono hBz.size)
          have hzz := (g.block _ hzl2).trans hz13
          exact ⟨(gb.cell (p := ⟨gr, k * 2, none⟩) hgr).trans d1, (gb.cell (p := ⟨gr, k * 2 + 1, none⟩) hgr).trans d2, by simp [World.cell?, hzz], by simp [World.cell?, hzz]⟩
        have H24 : Hid (∀ w', Below wz.heap.size wz w' → Calls Try.prog 24 #[.slice rpa rpv.length rpc, .slice zpa rpv.length zpc] w' fun e w'' => e = .returned (.bool true) ∧ Below wz.heap.size wz w'') := fun w' g => by
          have gb := hBz.trans (g.mono hBz.size)
          exact (psame_any (HV2.out.1.keep gb) _ _ (HV1.out.1.keep gb) w' (Below.refl _ _) true (by simp)).mono (fun e w'' h => ⟨h.1, g.trans (h.2.mono g.size)⟩)
        have H25 : Hid (∀ w', Below wz.heap.size wz w' → Calls Try.prog 24 #[.slice rba rbv.length rbc, .slice zba rbv.length zbc] w' fun e w'' => e = .returned (.bool true) ∧ Below wz.heap.size wz w'') := fun w' g => by
          have gb := hBz.trans (g.mono hBz.size)
          exact (psame_any (HV2.out.2.keep gb) _ _ (HV1.out.2.keep gb) w' (Below.refl _ _) true (by simp)).mono (fun e w'' h => ⟨h.1, g.trans (h.2.mono g.size)⟩)
        have gd : Below wz.heap.size wz wz.drew := below_drewN5 _ _ 1
        have HBZ := hid_mk hBz
        clear HV1 HV2 c1 c2 d1 d2 hA13 hz13 hB hBz HR12 HRA12 HX12 HY12 HB12 HSAID HZL HRN
        go_region_held3 (fun w' => w'.cell? ⟨gr, k * 2, none⟩ = some (.slice rpa rpv.length rpc) ∧ w'.cell? ⟨gr, k * 2 + 1, none⟩ = some (.slice rba rbv.length rbc) ∧ w'.cell? ⟨wr.heap.size, 0, none⟩ = some (.slice zpa rpv.length zpc) ∧ w'.cell? ⟨wr.heap.size, 1, none⟩ = some (.slice zba rbv.length zbc)) (exact HF.out _ (by assumption)) (first
          | (go_at_call 24; with_reducible refine (H24.out _ ?_).mono ?_; assumption; rintro e w14 ⟨rfl, g14⟩)
          | (go_at_call 24; with_reducible refine (H25.out _ ?_).mono ?_; assumption; rintro e w15 ⟨rfl, g15⟩))
        all_goals
          have HG : Hid (Below w12.heap.size w12 w15) := HBZ.out.trans (g15.mono HBZ.out.size)
          clear g15 H24 H25 HF gd HBZ
          go_wp2
          go_roundw
          case rel => exact ⟨k + 1, by go_num, by omega, HG.out⟩
          case measure => simp [intOf]; omega
      · have HX13 := hid_mk (HX12.out.keep hB)
        have HY13 := hid_mk (HY12.out.keep hB)
        have HB13 : Hid (Below W.heap.size W wr) := HB12.out.trans (hB.mono HB12.out.size)
        have hA3 : Below wr.heap.size wr (wr.alloc (.cells #[.int .i64 17, .string ⟨#[]⟩, .string ⟨#[]⟩, .bool false, .bool false, .slice none 0 0] 46)) := (Below.refl _ wr).alloc (Nat.le_refl _) _
        have hE3 := heap_alloc_new wr (.cells #[.int .i64 17, .string ⟨#[]⟩, .string ⟨#[]⟩, .bool false, .bool false, .slice none 0 0] 46)
        clear HR12 HRA12 HX12 HY12 HB12 HSAID HZL HRN hB z8
        go_upto_region 17 with fail
        generalize wr.alloc (.cells #[.int .i64 17, .string ⟨#[]⟩, .string ⟨#[]⟩, .bool false, .bool false, .slice none 0 0] 46) = w3 at *
        have HX3 := hid_mk (HX13.out.keep hA3)
        have HY3 := hid_mk (HY13.out.keep hA3)
        have HB3 : Hid (Below W.heap.size W w3) := HB13.out.trans (hA3.mono HB13.out.size)
        have hE3l : wr.heap.size < w3.heap.size := (Array.getElem?_eq_some_iff.1 hE3).1
        have HE3 := hid_mk hE3
        clear HX13 HY13 HB13 hA3 hE3
        go_cut [15] (fun v15 wx => ∃ ds, Row3 (fun _ => True) w3.heap.size wx v15 ds ∧ ds.map D3.said = declsZ x.length x ++ declsZ y.length y ∧ Below w3.heap.size w3 wx)
        case first =>
          have gd : Below w3.heap.size w3 w3.drew := below_drewN5 _ _ 1
          have HF : Hid (∀ w', Below w3.heap.size w3 w' → w'.cell? ⟨wr.heap.size, 0, none⟩ = some (.int .i64 17) ∧ w'.cell? ⟨wr.heap.size, 1, none⟩ = some (.string ⟨#[]⟩) ∧ w'.cell? ⟨wr.heap.size, 2, none⟩ = some (.string ⟨#[]⟩) ∧ w'.cell? ⟨wr.heap.size, 3, none⟩ = some (.bool false) ∧ w'.cell? ⟨wr.heap.size, 4, none⟩ = some (.bool false) ∧ w'.cell? ⟨wr.heap.size, 5, none⟩ = some (.slice none 0 0)) := fun w' g => tok6 ((g.block _ hE3l).trans HE3.out)
          have hn0 : ([] : List (T5 × Value × List V)).length + x.length ≤ 1000000 := by simp; omega
          have HR0 : Hid (∀ w', Below w3.heap.size w3 w' → Row (fun _ => True) w3.heap.size (w'.alloc (.cells #[] 46)) (.slice (some ⟨w'.heap.size, 0, none⟩) 0 0) []) := fun w' g => Row.none w' _ g.size
          have HRC : Hid (Row (fun _ => True) w3.heap.size ((w3.drew.alloc (.cells #[.int .i64 17, .string ⟨#[]⟩, .string ⟨#[]⟩, .bool false, .bool false, .slice none 0 0] 46)).alloc (.cells #[] 46)) (.slice (some ⟨w3.heap.size + 1, 0, none⟩) 0 0) []) := by
            show Row _ _ _ _ _
            have h := HR0.out _ (balloc gd (.cells #[.int .i64 17, .string ⟨#[]⟩, .string ⟨#[]⟩, .bool false, .bool false, .slice none 0 0] 46))
            rw [show (w3.drew.alloc (.cells #[.int .i64 17, .string ⟨#[]⟩, .string ⟨#[]⟩, .bool false, .bool false, .slice none 0 0] 46)).heap.size = w3.heap.size + 1 by simp] at h
            exact h
          have HXS : Hid (∀ w' k n c, Below w3.heap.size w3 w' → w3.heap.size ≤ k → VsAt (fun b => True ∧ (Value.slice (some ⟨k, 0, none⟩) n c).ownBlock ≠ some b) w' (.slice xa x.length xc) x) := fun w' k n c g hk =>
            ((HX3.out.wider (Q := fun b => b < w3.heap.size) (fun b _ h => h)).keep g).wider (fun b hb _ => ⟨trivial, fun e => by have : k = b := Option.some.inj e; omega⟩)
          have HGW : Hid (∀ w' w'' k n c, Below w3.heap.size w3 w' → w3.heap.size ≤ k → w'.grownBy w'' (Value.slice (some ⟨k, 0, none⟩) n c).ownBlock → Below w3.heap.size w3 w'') := fun w' w'' k n c g hk hg => bgrown g hg (fun j e => by have : k = j := Option.some.inj e; omega)
          have HS2 : Hid (∀ w4 v4 qs, Row (fun _ => True) w3.heap.size w4 v4 qs → Row (fun _ => True) w3.heap.size (w4.alloc (.cells #[.int .i64 17, .string ⟨#[]⟩, .string ⟨#[]⟩, .bool false, .bool false, .slice none 0 0] 46)) v4 qs ∧ VsAt (fun b => True ∧ v4.ownBlock ≠ some b) (w4.alloc (.cells #[.int .i64 17, .string ⟨#[]⟩, .string ⟨#[]⟩, .bool false, .bool false, .slice none 0 0] 46)) (.slice (some ⟨w4.heap.size, 0, none⟩) 1 1) [plainT 17 ⟨#[]⟩]) := fun w4 v4 qs h => ⟨h.keep ((Below.refl _ w4).alloc (Nat.le_refl _) _), (VsAt.one w4 17 ⟨#[]⟩ ⟨#[]⟩ false false).wider (fun b hb _ => ⟨trivial, fun e => by have := (h.1.lt b e).2; omega⟩)⟩
          have HN2 : Hid (∀ qs : List (T5 × Value × List V), qs.map mkV = x → ([] ++ qs).length + [plainT 17 ⟨#[]⟩].length ≤ 1000000) := fun qs h => by
            have : qs.length = x.length := by rw [← h, List.length_map]
            simp
            omega
          have HYS : Hid (∀ w8 v8 qs8, Row (fun _ => True) w3.heap.size w8 v8 qs8 → Below w3.heap.size w3 w8 → VsAt (fun b => True ∧ v8.ownBlock ≠ some b) w8 (.slice ya y.length yc) y) := fun w8 v8 qs8 hr g =>
            ((HY3.out.wider (Q := fun b => b < w3.heap.size) (fun b _ h => h)).keep g).wider (fun b hb _ => ⟨trivial, fun e => by have := (hr.1.lt b e).1; omega⟩)
          have HN3 : Hid (∀ qs qt : List (T5 × Value × List V), qs.map mkV = x → qt.map mkV = [plainT 17 ⟨#[]⟩] → ([] ++ qs ++ qt).length + y.length ≤ 1000000) := fun qs qt h1 h2 => by
            have : qs.length = x.length := by rw [← h1, List.length_map]
            have : qt.length = 1 := by have := congrArg List.length h2; simpa using this
            simp
            omega
          have HMA : Hid (V.most (x ++ plainT 17 ⟨#[]⟩ :: y) ∧ ∀ z ∈ x ++ plainT 17 ⟨#[]⟩ :: y, z.tok.tx.size ≤ 140737488355328) := by
            refine ⟨.mk _ (by rw [List.length_append, List.length_cons]; omega) (fun z hz => ?_), fun z hz => ?_⟩
            · rcases List.mem_append.1 hz with hz | hz
              · exact HMX.out.kid hz
              · rcases List.mem_cons.1 hz with rfl | hz
                · exact .mk _ (by simp [V.kids, plainT]) (fun x hx => by cases hx)
                · exact HMY.out.kid hz
            · rcases List.mem_append.1 hz with hz | hz
              · exact HSX.out z hz
              · rcases List.mem_cons.1 hz with rfl | hz
                · decide
                · exact HSY.out z hz
          have HDC : Hid (∀ w6 v6 qs4 qs5 qs6, Row (fun _ => True) w3.heap.size w6 v6 ([] ++ qs4 ++ qs5 ++ qs6) → Below w3.heap.size w3 w6 → qs4.map mkV = x → qs5.map mkV = [plainT 17 ⟨#[]⟩] → qs6.map mkV = y → Calls Try.prog 20 #[v6] w6 fun e w' => ∃ out ds, e = .returned out ∧ Row3 (fun _ => True) w3.heap.size w' out ds ∧ ds.map D3.said = declsZ x.length x ++ declsZ y.length y ∧ Below w3.heap.size w3 w') := fun w6 v6 qs4 qs5 qs6 hr g h4 h5 h6 => by
            have hv := hr.vals
            rw [List.map_append, List.map_append, List.map_append, h4, h5, h6, List.map_nil, List.nil_append, List.append_assoc] at hv
            refine (decls_any hv HMA.out.1 HMA.out.2 (by simp; omega)).mono ?_
            rintro e w' ⟨out, ds, he, hr3, hds, hb⟩
            refine ⟨out, ds, he, ⟨owns_mono hr3.1 g.size, fun _ _ => trivial, fun z hz => (hr3.2.2 z hz).wider (fun b hb _ => ⟨trivial, hb.2⟩)⟩, ?_, g.trans (hb.mono g.size)⟩
            rw [hds]
            exact decls_app (plainT 17 ⟨#[]⟩) rfl x.length x y (Nat.le_refl _)
          go_region_held3 (fun w' => w'.cell? ⟨wr.heap.size, 0, none⟩ = some (.int .i64 17) ∧ w'.cell? ⟨wr.heap.size, 1, none⟩ = some (.string ⟨#[]⟩) ∧ w'.cell? ⟨wr.heap.size, 2, none⟩ = some (.string ⟨#[]⟩) ∧ w'.cell? ⟨wr.heap.size, 3, none⟩ = some (.bool false) ∧ w'.cell? ⟨wr.heap.size, 4, none⟩ = some (.bool false) ∧ w'.cell? ⟨wr.heap.size, 5, none⟩ = some (.slice none 0 0)) (first | exact HF.out _ gd | exact HF.out _ (balloc gd _) | exact HF.out _ (balloc (balloc gd _) _) | exact HF.out _ g4 | exact HF.out _ (balloc g4 _) | exact HF.out _ g5 | exact HF.out _ g6 | exact HF.out _ g7) (first
            | (refine step_append_row (ps := []) (vs := x) (by rfl) _ _ (by rfl) (by rfl) (by rfl) (HR0.out _ gd) (HXS.out _ _ _ _ (balloc gd _) gd.size) hn0 (balloc gd _).size trivial ?_; intro v4 w4 qs4 hrow4 hq4 hg4 hat4; have g4 := HGW.out _ _ _ _ _ (balloc gd _) gd.size hg4)
            | (refine step_append_row (ps := []) (vs := x) (by rfl) _ _ (by rfl) (by rfl) (by rfl) HRC.out (HXS.out _ _ _ _ (balloc (balloc gd _) _) (Nat.le_succ _)) hn0 (balloc (balloc gd _) _).size trivial ?_; intro v4 w4 qs4 hrow4 hq4 hg4 hat4; have g4 := HGW.out _ _ _ _ _ (balloc (balloc gd _) _) (Nat.le_succ _) hg4; have hone := VsAt.at (((VsAt.one w3.drew 17 ⟨#[]⟩ ⟨#[]⟩ false false).keep ((Below.refl _ _).alloc (Nat.le_refl _) _)).far hg4 (by simp) (by simp <;> omega) hat4) w3.heap.size (by simp))
            | (refine step_append_row (ps := []) (vs := x) (by rfl) _ _ (by rfl) (by rfl) (by rfl) ((HR0.out _ gd).keep ((Below.refl _ _).alloc (Nat.le_refl _) _)) (HXS.out _ _ _ _ (balloc (balloc gd _) _) gd.size) hn0 (balloc (balloc gd _) _).size trivial ?_; intro v4 w4 qs4 hrow4 hq4 hg4 hat4; have g4 := HGW.out _ _ _ _ _ (balloc (balloc gd _) _) gd.size hg4; have hone := VsAt.at ((VsAt.one (w3.drew.alloc (.cells #[] 46)) 17 ⟨#[]⟩ ⟨#[]⟩ false false).far hg4 (by simp) (by simp) hat4) (w3.heap.size + 1) (by simp))
            | (refine step_append_row (ps := [] ++ qs4) (vs := [plainT 17 ⟨#[]⟩]) (by rfl) _ _ (by rfl) (by rfl) (by rfl) (HS2.out _ _ _ hrow4).1 (HS2.out _ _ _ hrow4).2 (HN2.out _ hq4) (balloc g4 _).size trivial ?_; intro v5 w5 qs5 hrow5 hq5 hg5 hat5; have g5 := bgrown (balloc g4 _) hg5 (fun j e => (hrow4.1.lt j e).1))
            | (refine step_append_row (ps := [] ++ qs4) (vs := [plainT 17 ⟨#[]⟩]) (by rfl) _ _ (by rfl) (by rfl) (by rfl) hrow4 hone (HN2.out _ hq4) g4.size trivial ?_; intro v5 w5 qs5 hrow5 hq5 hg5 hat5; have g5 := bgrown g4 hg5 (fun j e => (hrow4.1.lt j e).1))
            | (refine step_append_row (ps := [] ++ qs4 ++ qs5) (vs := y) (by rfl) _ _ (by rfl) (by rfl) (by rfl) hrow5 (HYS.out _ _ _ hrow5 g5) (HN3.out _ _ hq4 hq5) g5.size trivial ?_; intro v6 w6 qs6 hrow6 hq6 hg6 hat6; have g6 := bgrown g5 hg6 (fun j e => (hrow5.1.lt j e).1))
            | (go_at_call 20; refine (HDC.out _ _ _ _ _ hrow6 g6 hq4 hq5 hq6).mono ?_; rintro e w7 ⟨o7, ds7, rfl, hr7, hd7, g7⟩))
          all_goals
            have HRO := hid_mk hr7
            have HD7 := hid_mk hd7
            have HG7 := hid_mk g7
            clear hr7 hd7 g7 hrow6 hq6 hg6 hat6 g6 hrow5 hq5 hg5 hat5 g5 hrow4 hq4 hg4 hat4 g4 gd HF HR0 HRC HXS HGW HS2 HN2 hn0 HYS HN3 HMA HDC
            go_wp2_with fail
            go_meet
            exact ⟨_, HRO.out, HD7.out, HG7.out⟩
        case rest =>
        obtain ⟨ds, hr15, hd15, g15⟩ := hcut
        have HX4 := hid_mk (HX3.out.keep g15)
        have HY4 := hid_mk (HY3.out.keep g15)
        have HB4 : Hid (Below W.heap.size W wc) := HB3.out.trans (g15.mono HB3.out.size)
        have HR4 := hid_mk hr15
        have HD4 := hid_mk hd15
        obtain ⟨da, dc, rfl, hdl, hdc, -⟩ := owns_cells hr15.1
        clear hr15 hd15 g15 HX3 HY3 HB3 HE3 hE3l
        have h20 := decls_any HX4.out HMX.out HSX.out (by omega)
        go_wp2_with (go_at_call 20; fail)
        refine h20.mono ?_
        rintro e w5 ⟨o5, dx, rfl, hr5, hd5, hb5⟩
        have HRX5 := hid_mk hr5
        have HDX := hid_mk hd5
        have HY5 := hid_mk (HY4.out.keep hb5)
        have HB5 := hid_mk hb5
        clear h20 hr5 hd5 hb5 HX4 HY4
        have h20 := decls_any HY5.out HMY.out HSY.out (by omega)
        go_wp2_with (go_at_call 20; fail)
        refine h20.mono ?_
        rintro e w6 ⟨o6, dy, rfl, hr6, hd6, hb6⟩
        have hbs6 : wc.heap.size ≤ w5.heap.size := HB5.out.size
        have hB6 : Below wc.heap.size wc w6 := HB5.out.trans (hb6.mono hbs6)
        have hlx5 : dx.length ≤ x.length := by
          have := congrArg List.length HDX.out
          rw [List.length_map] at this
          rw [this]
          exact decls_len _ _
        have hly6 : dy.length ≤ y.length := by
          have := congrArg List.length hd6
          rw [List.length_map] at this
          rw [this]
          exact decls_len _ _
        have HRX6 := hid_mk (HRX5.out.keep hb6)
        have HRY6 := hid_mk hr6
        have HDY := hid_mk hd6
        have HB6 := hid_mk hB6
        have hlt5 : ∀ g, o5.ownBlock = some g → wc.heap.size ≤ g ∧ g < w5.heap.size := fun g hg => HRX5.out.1.lt g hg
        have HLT5 := hid_mk hlt5
        have hnn : dx.length + dy.length ≤ 1000000 := by omega
        clear h20 hr6 hd6 hb6 hB6 HRX5 HY5 HB5 hlt5
        obtain ⟨i0, hi0, hz0, hz1, hz2⟩ := info_parts Try.info48
        have HONE := hid_mk HRY6.out.ones
        have hbb := HB6.out.size
        go_wp2_with (first
          | (go_at_call 19; fail)
          | (at_builtin; refine wpList_append_owns rfl _ _ 39 rfl Try.underlying39 hi0 hz0 hz1 hz2 rfl (by decide) (by decide) rfl rfl HRX6.out.1 HRY6.out.1 HONE.out hnn hbb ?_; intro v7 w7 hown7 hg7 hat7))
        have g7 : Below w6.heap.size w6 w7 ∨ True := .inr trivial
        have hB7 : Below wc.heap.size wc w7 := bgrown HB6.out hg7 (fun j e => (HLT5.out j e).1)
        have hrow7 : Row3 (fun b => wc.heap.size ≤ b) wc.heap.size w7 v7 (dx ++ dy) := HRX6.out.cat (fun z hz => (HRY6.out.2.2 z hz).wider (fun b hb _ => ⟨by have := hb.1; omega, fun e => by
          have := (HLT5.out b e).2
          have := hb.1
          omega⟩)) hown7 hg7 hat7 (by omega)
        have h19 := samedecls_yes (HR4.out.keep hB7) hrow7 (by rw [HD4.out, List.map_append, HDX.out, HDY.out]) w7 (Below.refl _ _)
        obtain ⟨va, vc, rfl, _, _, -⟩ := owns_cells hrow7.1
        have HB7 : Hid (Below W.heap.size W w7) := HB4.out.trans (hB7.mono HB4.out.size)
        clear g7 hB7 hrow7 hown7 hg7 hat7 HRX6 HRY6 HR4 HD4 HDX HDY HB6 HB4 HLT5 HONE
        refine h19.mono ?_
        rintro e w8 ⟨rfl, m, rfl⟩
        clear h19
        go_wp2_with (go_at_call 9; fail)
        refine (HL.out _).mono ?_
        rintro e w9 ⟨rfl, hb9⟩
        have HB8 : Hid (Below W.heap.size W w9) := by
          have h := HB7.out.trans (below_drewN5 W.heap.size w7 m)
          exact h.trans (hb9.mono h.size)
        clear hb9
        go_wp2
        go_ret
        exact ⟨rfl, HB8.out⟩

end Go.Proofs.Ytihdiaklhkecmaa
