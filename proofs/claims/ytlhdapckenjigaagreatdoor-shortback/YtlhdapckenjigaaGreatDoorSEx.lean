/- short.longhands, short.values. short.values: the values of longhands that a declaration's value comes to. short.Expand. -/
import Derived.Test.YtlhdapckenjigaaGreatDoorSCv
namespace Go.Proofs.YtlhdapckenjigaaGreatDoor.S
open Go.RowKit
open Go.Proofs.YtlhdapckenjigaaGreatDoor.L (T5 V VsAt t5Cells vCells cell_of_heap hid_mk cellAt set_at)
open Go.Proofs.YtlhdapckenjigaaGreatDoor.Y (spaceV trimZ aheadZ)
open Go.Proofs.YtlhdapckenjigaaGreatDoor.P (Bx StrAt)
set_option maxRecDepth 100000

theorem own_form {w : World} {B T n : Nat} {v : Value} {us : List Value} (h : w.ownsRow B T 1 v n us) : ∃ a cap, v = .slice a n cap ∧ n ≤ cap ∧ cap ≤ 9223372036854775807 ∧ us.length = n ∧ (0 < n → ∃ g, a = some ⟨g, 0, none⟩ ∧ ∀ (k : Nat) u, us[k]? = some u → w.cell? ⟨g, k, none⟩ = some u) := by
  obtain ⟨hl, h⟩ := h
  rw [Nat.mul_one] at hl
  rcases h with ⟨hv, hn⟩ | ⟨g, cap, cur, hv, _, hg, hnc, hcm, hsz, hx⟩
  · exact ⟨none, 0, by rw [hv, hn], by omega, by omega, hl, fun h => by omega⟩
  · refine ⟨_, cap, hv, hnc, hcm, hl, fun _ => ⟨g, rfl, fun k u hu => ?_⟩⟩
    have hk := (List.getElem?_eq_some_iff.1 hu).1
    rw [← hx, List.getElem?_take_of_lt (by omega)] at hu
    simp only [World.cell?, hg]
    simpa using hu
set_option maxHeartbeats 1000000 in
theorem longhands_any (name : ByteArray) (w : World) : Calls Tryz.prog 26 #[.string name] w fun e w' => ∃ a n c, e = .returned (.slice a n c) ∧ n = (lghS name).length ∧ StrAt w' (.slice a n c) (lghS name) ∧ Below w.heap.size w w' := by
  have hf := P.find_any name w
  have HL : Hid (∀ w, Calls Tryz.prog 20 #[.string name] w fun e w' => (∃ a n c, e = .returned (.slice a n c) ∧ n = (P.lgs name).length ∧ StrAt w' (.slice a n c) (P.lgs name)) ∧ Below w.heap.size w w') := fun w => P.longs_any name w
  by_cases hp : 0 ≤ P.plc name
  · have e : lghS name = [name] := by unfold lghS; rw [if_pos hp]
    rw [e]
    have hd : decide (0 ≤ P.plc name) = true := decide_eq_true hp
    generalize P.prc name = p at *
    generalize decide (0 ≤ P.plc name) = dd at *
    subst hd
    obtain ⟨pn, pi, ph, pf⟩ := p
    clear HL hp e
    go_enter Tryz.func26, Tryz.ntmps26
    go_wp2_with (go_at_call 41; fail)
    refine hf.mono ?_
    rintro e w1 ⟨rfl, hb1⟩
    have HB1 := hid_mk hb1
    clear hf hb1
    go_wp2
    go_ret
    have hB : Below w.heap.size w ((w1.alloc (.cells #[.string pn, .string pi, .bool ph, .string pf] 83)).alloc (.cells #[.string name] 9)) := (HB1.out.alloc HB1.out.size _).alloc (by have := HB1.out.size; simp; omega) _
    refine ⟨_, 1, 1, rfl, rfl, ?_, hB⟩
    have := StrAt.lit (w1.alloc (.cells #[.string pn, .string pi, .bool ph, .string pf] 83)) [name] (by simp)
    simpa using this
  · have e : lghS name = P.lgs name := by unfold lghS; rw [if_neg hp]
    rw [e]
    have hd : decide (0 ≤ P.plc name) = false := decide_eq_false hp
    generalize P.prc name = p at *
    generalize decide (0 ≤ P.plc name) = dd at *
    subst hd
    obtain ⟨pn, pi, ph, pf⟩ := p
    clear hp e
    go_enter Tryz.func26, Tryz.ntmps26
    go_wp2_with (go_at_call 41; fail)
    refine hf.mono ?_
    rintro e w1 ⟨rfl, hb1⟩
    have hbA : Below w.heap.size w (w1.alloc (.cells #[.string pn, .string pi, .bool ph, .string pf] 83)) := hb1.alloc hb1.size _
    have HB1 := hid_mk hbA
    have hl := HL.out (w1.alloc (.cells #[.string pn, .string pi, .bool ph, .string pf] 83))
    clear hf hb1 hbA HL
    go_wp2_with (go_at_call 20; fail)
    refine hl.mono ?_
    rintro e w2 ⟨⟨a, n, c, rfl, hn, hst⟩, hb2⟩
    have HE := hid_mk (And.intro hn (And.intro hst (HB1.out.trans (hb2.mono HB1.out.size))))
    clear hn hst hb2 hl
    go_wp2
    go_ret
    exact ⟨a, n, c, rfl, HE.out⟩
theorem part_most {vs p : List V} (h : Y.V.most vs) (hp : p ∈ cutP vs) : Y.V.most p := .mk _ (Nat.le_trans (part_len hp) h.len) (fun y hy => h.kid ((cutP_mem hp).2.2 y hy))
theorem readA_step (ps : List (List V)) {names : List ByteArray} {i : Nat} {n : ByteArray} (hn : names[i]? = some n) : readA ps i (names.drop i) = match Z.parseO n (partAt ps i) with | none => none | some s => (readA ps (i + 1) (names.drop (i + 1))).map (s :: ·) := by
  obtain ⟨h, e⟩ := List.getElem?_eq_some_iff.1 hn
  rw [List.drop_eq_getElem_cons h, e]
  rfl
end Go.Proofs.YtlhdapckenjigaaGreatDoor.S
namespace Go.Proofs.YtlhdapckenjigaaGreatDoor.S
open Go.RowKit
open Go.Proofs.YtlhdapckenjigaaGreatDoor.L (T5 V VsAt t5Cells vCells cell_of_heap hid_mk cellAt set_at)
open Go.Proofs.YtlhdapckenjigaaGreatDoor.Y (spaceV trimZ aheadZ)
open Go.Proofs.YtlhdapckenjigaaGreatDoor.P (Bx StrAt)
set_option maxRecDepth 100000

theorem size_zero {s : ByteArray} (h : s.size = 0) : s = ⟨#[]⟩ := by
  cases s with
  | mk d =>
    have : d = #[] := Array.eq_empty_of_size_eq_zero h
    rw [this]
theorem str_nil (w : World) : StrAt w (.slice none 0 0) [] := StrAt.nil w
set_option maxHeartbeats 4000000 in
theorem svals_any {P0 : Nat → Prop} {W : World} {v nv : Value} {vs : List V} {names : List ByteArray} (hv : VsAt P0 W v vs) (hm : Y.V.most vs) (hz : ∀ y ∈ vs, y.tok.tx.size ≤ 100000 ∧ y.tok.un.size ≤ 100000) (hok : Z.Ok W) (hsd : Sid W)
    (hn : StrAt W nv names) (hn4 : names.length ≤ 4) :
    Calls Tryz.prog 27 #[nv, v] W fun e w' => ∃ a n c, e = .returned (.slice a n c) ∧ n = (valsO names vs).length ∧ StrAt w' (.slice a n c) (valsO names vs) ∧ Below W.heap.size W w' := by
  have hw := Z.wide_any hv hm hz
  have HR : Hid (valsO names vs = if (Z.wideS vs).size ≠ 0 then List.replicate names.length (Z.wideS vs) else if (cutP vs).length = 0 ∨ names.length < (cutP vs).length then [] else (readA (cutP vs) 0 names).getD []) := rfl
  have HCUT : Hid (∀ w, Below W.heap.size W w → Calls Tryz.prog 44 #[v] w fun e w' => ∃ out us, e = .returned out ∧ w'.ownsRow w.heap.size 24 1 out us.length us ∧ PsA P0 w us (cutP vs) ∧ Below w.heap.size w w') := fun w hb => cut_any (hv.keep hb) hm.len
  have HPA : Hid (∀ w p u nm, Below W.heap.size W w → p ∈ cutP vs → VsAt P0 w u p → Calls Tryz.prog 45 #[.string nm, u] w fun e w' => e = .returned (Z.res (Z.parseO nm p)) ∧ Below w.heap.size w w') := fun w p u nm hb hp hu => Z.parse_any nm hu (part_most hm hp) (fun y hy => hz y ((cutP_mem hp).2.2 y hy)) (hok.keep hb)
  have HSD : Hid (∀ w n s, Below W.heap.size W w → Calls Tryz.prog 17 #[.int .i64 n, .int .i64 s] w fun e w' => e = .returned (.int .i64 (sidesZ n s)) ∧ w' = w) := fun w n s hb => sides_any n s w (hsd.keep hb)
  have HN := hid_mk hn
  obtain ⟨va, vc, rfl, hvc, hvm⟩ := hv.slice
  obtain ⟨na, nc, rfl, hnc, hnm, hncell⟩ := hn.form
  have HNC := hid_mk hncell
  have HRA : Hid (∀ i n, names[i]? = some n → readA (cutP vs) i (names.drop i) = match Z.parseO n (partAt (cutP vs) i) with | none => none | some s => (readA (cutP vs) (i + 1) (names.drop (i + 1))).map (s :: ·)) := fun i n h => readA_step _ h
  generalize hNN : names.length = N at *
  have HNN := hid_mk hNN
  generalize valsO names vs = R at *
  generalize Z.wideS vs = ws at *
  generalize cutP vs = ps at *
  generalize vs.length = vn at *
  clear hv hm hz hok hsd hn hncell hNN
  go_enter Tryz.func27, Tryz.ntmps27
  go_wp2_with (go_at_call 42; fail)
  refine hw.mono ?_
  rintro e w1 ⟨rfl, hb1⟩
  have HB1 := hid_mk hb1
  clear hw
  by_cases hws : ws.size ≠ 0
  · have HRR : Hid (R = List.replicate N ws) := by show _ = _; rw [HR.out, if_pos hws]
    have hne : (ws.toList == ([] : List UInt8)) = false := by
      cases hx : (ws.toList == ([] : List UInt8)) with
      | false => rfl
      | true =>
        exfalso
        apply hws
        rw [P.str_of hx]
        rfl
    have hre := repeat_any N hn4 ws w1.heap.size (w1.alloc (.cells #[.string ws] 9)) ((Bx.new w1 9 #[.string ws]).cell 0 _ rfl)
    have HBA : Hid (Below W.heap.size W (w1.alloc (.cells #[.string ws] 9))) := hb1.alloc hb1.size _
    clear HR HCUT HPA HSD HN HNC HRA hb1 hws HB1
    go_wp2_with (go_at_call 43; fail)
    refine hre.mono ?_
    rintro e w2 ⟨a, rfl, hst, hb2⟩
    have HE : Hid (StrAt w2 (.slice a N N) R ∧ Below W.heap.size W w2) := ⟨by rw [HRR.out]; exact hst, HBA.out.trans (hb2.mono HBA.out.size)⟩
    have HL : Hid (N = R.length) := by show _ = _; rw [HRR.out]; simp
    clear hst hb2 hre
    go_wp2
    go_ret
    exact ⟨a, N, N, rfl, HL.out, HE.out⟩
  · have hwe : ws = ⟨#[]⟩ := size_zero (by omega)
    subst hwe
    have HR2 : Hid (R = if ps.length = 0 ∨ N < ps.length then [] else (readA ps 0 names).getD []) := by show _ = _; rw [HR.out, if_neg hws]
    have hcut := HCUT.out w1 hb1
    clear HR hws HCUT hb1
    go_wp2_with (go_at_call 44; fail)
    refine hcut.mono ?_
    rintro e w2 ⟨out, us, rfl, how, hps, hb2⟩
    have HB2 : Hid (Below W.heap.size W w2) := HB1.out.trans (hb2.mono HB1.out.size)
    have HPS : Hid (∀ w, Below w2.heap.size w2 w → PsA P0 w us ps) := fun w hb => hps.keep (hb2.trans (hb.mono hb2.size))
    obtain ⟨oa, oc, rfl, hoc, hom, -, hocell⟩ := own_form how
    have HOC := hid_mk hocell
    have hul := hps.len
    generalize us.length = un at *
    subst hul
    have HBB : Hid (∀ w, Below w2.heap.size w2 w → Below W.heap.size W w) := fun w hb => HB2.out.trans (hb.mono HB2.out.size)
    clear hcut how hps hb2 hocell HB1
    by_cases h0 : ps.length = 0
    · have HRR : Hid (R = []) := by show _ = _; rw [HR2.out, if_pos (.inl h0)]
      have z0 : ((ps.length : Int) == 0) = true := by simp [h0]
      go_wp2
      go_ret
      exact ⟨none, 0, 0, rfl, by rw [HRR.out]; rfl, by rw [HRR.out]; exact str_nil w2, HB2.out⟩
    have z0 : ((ps.length : Int) == 0) = false := by simpa using h0
    by_cases h5 : N < ps.length
    · have HRR : Hid (R = []) := by show _ = _; rw [HR2.out, if_pos (.inr h5)]
      have z5 : decide ((N : Int) < (ps.length : Int)) = true := decide_eq_true (by omega)
      go_wp2
      go_ret
      exact ⟨none, 0, 0, rfl, by rw [HRR.out]; rfl, by rw [HRR.out]; exact str_nil w2, HB2.out⟩
    have z5 : decide ((N : Int) < (ps.length : Int)) = false := decide_eq_false (by omega)
    have HRR : Hid (R = (readA ps 0 names).getD []) := by show _ = _; rw [HR2.out, if_neg (by omega)]
    clear HR2
    obtain ⟨i0, hi0, hz0, hz1, hz2⟩ := info_parts Tryz.info9s
    have HI0 := hid_mk hi0
    have HZ0 := hid_mk hz0
    have HZ1 := hid_mk hz1
    have HZ2 := hid_mk hz2
    clear hi0 hz0 hz1 hz2
    go_wp2
    go_loopw [7, 35] (fun a7 a35 wr => ∃ (i : Nat) (ra : Option Addr) (rc : Nat) (ss : List ByteArray), a7 = .slice ra i rc ∧ a35 = .int .i64 (i : Int) ∧ i ≤ N ∧ Hid (ss.length = i ∧ wr.ownsRow w2.heap.size 9 1 (.slice ra i rc) i (ss.map Value.string) ∧ Below w2.heap.size w2 wr ∧ R = ((readA ps i (names.drop i)).map (ss ++ ·)).getD [])) (fun _ a35 _ => N + 1 - (intOf a35).toNat)
    case atStart => exact ⟨0, _, _, [], rfl, rfl, Nat.zero_le _, rfl, World.ownsRow_nil _ _ _ _, Below.refl _ _, by rw [HRR.out]; simp⟩
    case round =>
      obtain ⟨i, ra, rc, ss, rfl, rfl, hi, HJ⟩ := hrel
      clear HRR
      by_cases hlt : i < N
      · have hd : decide ((i : Int) < (N : Int)) = true := decide_eq_true (by omega)
        obtain ⟨nm, hnm2⟩ : ∃ nm, names[i]? = some nm := ⟨_, List.getElem?_eq_getElem (by rw [HNN.out]; exact hlt)⟩
        obtain ⟨ng, ena, hcn⟩ := HNC.out (by omega)
        subst ena
        have hBW := HBB.out wr HJ.out.2.2.1
        have hc0 := hcn i nm hnm2
        have hc1 : wr.cell? ⟨ng, i, none⟩ = some (.string nm) := (hBW.cell (p := ⟨ng, i, none⟩) (P.lt_of_cell hc0)).trans hc0
        obtain ⟨s1, s2⟩ := sides_lt (n := ps.length) (i := i) (by omega) (by omega) (by omega)
        obtain ⟨k, hk⟩ : ∃ k : Nat, sidesZ ps.length i = (k : Int) := ⟨(sidesZ ps.length i).toNat, by omega⟩
        have hkl : k < ps.length := by omega
        have hside := HSD.out wr ps.length i hBW
        rw [hk] at hside
        obtain ⟨p, hp⟩ : ∃ p, ps[k]? = some p := ⟨_, List.getElem?_eq_getElem hkl⟩
        have hpa := HPS.out wr HJ.out.2.2.1
        obtain ⟨u, hu⟩ : ∃ u, us[k]? = some u := ⟨_, List.getElem?_eq_getElem (by rw [hpa.len]; exact hkl)⟩
        have hvu := hpa.at_ k u p hu hp
        obtain ⟨og, eoa, hco⟩ := HOC.out (by omega)
        subst eoa
        have hc2 := hco k u hu
        have hc3 : wr.cell? ⟨og, k, none⟩ = some u := (HJ.out.2.2.1.cell (p := ⟨og, k, none⟩) (P.lt_of_cell hc2)).trans hc2
        have hcall := HPA.out wr p u nm hBW (List.mem_of_getElem? hp) hvu
        have HPT : Hid (readA ps i (names.drop i) = match Z.parseO nm p with | none => none | some s => (readA ps (i + 1) (names.drop (i + 1))).map (s :: ·)) := by
          show _ = _
          rw [HRA.out i nm hnm2]
          have e : partAt ps i = p := by
            unfold partAt
            rw [hk]
            simp [List.getD, hp]
          rw [e]
        obtain ⟨ua, uc, rfl, _, _⟩ := hvu.slice
        generalize p.length = pn at *
        generalize Z.parseO nm p = po at *
        generalize hpl : ps.length = pl at *
        clear hpl hp hu hvu hpa hc2 hc0 hnm2 hcn hco s1 s2 hk HRA
        have hBW2 := hid_mk hBW
        clear hBW
        go_wp2_with (go_at_call 17; fail)
        refine hside.mono ?_
        rintro e w' ⟨rfl, rfl⟩
        clear hside
        go_wp2_with (go_at_call 45; fail)
        refine hcall.mono ?_
        rintro e w3 ⟨rfl, hb3⟩
        have HB3 : Hid (Below w'.heap.size w' w3) := hb3
        clear hb3 hcall
        cases po with
        | none =>
          rw [Z.res_none]
          have HRR : Hid (R = []) := by show _ = _; rw [HJ.out.2.2.2, HPT.out]; rfl
          have HEND : Hid (Below W.heap.size W w3) := hBW2.out.trans (HB3.out.mono hBW2.out.size)
          go_wp2
          go_ret
          exact ⟨none, 0, 0, rfl, by rw [HRR.out]; rfl, by rw [HRR.out]; exact str_nil w3, HEND.out⟩
        | some s =>
          rw [Z.res_some]
          have HBB3 : Hid (Below w2.heap.size w2 w3) := HJ.out.2.2.1.trans (HB3.out.mono HJ.out.2.2.1.size)
          have HOW3 : Hid (w3.ownsRow w2.heap.size 9 1 (.slice ra i rc) i (ss.map Value.string)) := P.own_below HJ.out.2.1 HB3.out
          have HOA := hid_mk (HOW3.out.alloc (.cells #[Value.string s] 9))
          have HSZ : Hid (w2.heap.size ≤ (w3.alloc (.cells #[Value.string s] 9)).heap.size) := by
            have := HBB3.out.size
            rw [Hid, World.size_alloc]
            omega
          have HNW := hid_mk (cell_one_new w3 (Value.string s) 9)
          have HAP : Hid (∀ v' w4, w4.ownsRow w2.heap.size 9 1 v' (i + 1) (ss.map Value.string ++ [Value.string s]) → (w3.alloc (.cells #[Value.string s] 9)).grownBy w4 (Value.slice ra i rc).ownBlock → (∃ g cap, v' = .slice (some ⟨g, 0, none⟩) (i + 1) cap) ∧ Below w2.heap.size w2 w4) := fun v' w4 h1 h2 => P.app_on2 HOW3.out HBB3.out (Nat.le_refl _) h1 h2
          have HJ4 : Hid (ss.length = i) := HJ.out.1
          have HR4 : Hid (R = ((readA ps (i + 1) (names.drop (i + 1))).map ((ss ++ [s]) ++ ·)).getD []) := by
            show _ = _
            rw [HJ.out.2.2.2, HPT.out]
            cases readA ps (i + 1) (names.drop (i + 1)) <;> simp
          clear HJ HPT
          go_wp2_with (at_builtin; with_reducible refine wpList_append_own _ rfl _ _ 36 rfl w2.heap.size 9 i0 (.string ⟨#[]⟩) 1 16 Tryz.underlying36 HI0.out HZ0.out HZ1.out HZ2.out rfl (by decide) (.slice ra i rc) i (ss.map Value.string) rfl HOA.out ⟨w3.heap.size, 0, none⟩ 1 1 [Value.string s] rfl rfl HNW.out ?c0 ?c1 ?c2 ?c3 ?_)
          case c0 => simp [Value.oneCell']
          case c1 => unfold maxLen; omega
          case c2 => omega
          case c3 => exact HSZ.out
          intro v' w4 hown hg _
          obtain ⟨⟨g, cap, rfl⟩, hb4⟩ := HAP.out v' w4 hown hg
          have HN4 : Hid (w4.ownsRow w2.heap.size 9 1 (.slice (some ⟨g, 0, none⟩) (i + 1) cap) (i + 1) ((ss ++ [s]).map Value.string) ∧ Below w2.heap.size w2 w4) := ⟨by rw [List.map_append]; exact hown, hb4⟩
          clear hown hg hb4 HAP HNW HOA HSZ
          go_wp2
          refine ⟨⟨i + 1, _, _, ss ++ [s], rfl, by simp, by omega, by rw [List.length_append, HJ4.out]; rfl, HN4.out.1, HN4.out.2, HR4.out⟩, ?_⟩
          simp only [intOf]
          omega
      · have hd : decide ((i : Int) < (N : Int)) = false := decide_eq_false (by omega)
        have hiN : i = N := by omega
        subst hiN
        have HRR : Hid (R = ss) := by
          show _ = _
          rw [HJ.out.2.2.2, List.drop_of_length_le (by rw [HNN.out]; omega)]
          simp [readA]
        have HEND := hid_mk (HBB.out wr HJ.out.2.2.1)
        go_wp2
        go_ret
        refine ⟨ra, i, rc, rfl, by rw [HRR.out]; exact HJ.out.1.symm, ?_, HEND.out⟩
        rw [HRR.out]
        have := StrAt.of (l := ss) (by rw [HJ.out.1]; exact HJ.out.2.1)
        exact this
end Go.Proofs.YtlhdapckenjigaaGreatDoor.S
namespace Go.Proofs.YtlhdapckenjigaaGreatDoor.S
open Go.RowKit
open Go.Proofs.YtlhdapckenjigaaGreatDoor.L (T5 V VsAt t5Cells vCells cell_of_heap hid_mk cellAt set_at)
open Go.Proofs.YtlhdapckenjigaaGreatDoor.Y (spaceV trimZ aheadZ)
open Go.Proofs.YtlhdapckenjigaaGreatDoor.P (Bx StrAt)
set_option maxRecDepth 100000

def lgC (g : Lg) : List Value := [.string g.n, .string g.v, .bool g.i]
/-- A slice holds longhands (T: the type of one). -/
def LgAt (T : Nat) (w : World) (v : Value) (l : List Lg) : Prop := w.ownsRow 0 T 3 v l.length (l.flatMap lgC)
theorem LgAt.keep {T : Nat} {w w' : World} {v : Value} {l : List Lg} (h : LgAt T w v l) (hb : Below w.heap.size w w') : LgAt T w' v l := P.own_below h hb
theorem LgAt.nil (T : Nat) (w : World) : LgAt T w (.slice none 0 0) [] := World.ownsRow_nil _ _ _ _
theorem Tryz.info43s : (Tryz.prog.info? 43).map (fun i => (i.zero, i.size, i.bytes)) = some (some (.agg #[.string ⟨#[]⟩, .string ⟨#[]⟩, .bool false]), 3, 40) := by kernel_rfl
theorem Tryz.info60s : (Tryz.prog.info? 60).map (fun i => (i.zero, i.size, i.bytes)) = some (some (.agg #[.string ⟨#[]⟩, .string ⟨#[]⟩, .bool false]), 3, 40) := by kernel_rfl
theorem readA_len (ps : List (List V)) : ∀ (N : List ByteArray) (i : Nat) (l : List ByteArray), readA ps i N = some l → l.length = N.length
  | [], i, l, h => by
    have e : some ([] : List ByteArray) = some l := h
    cases e
    rfl
  | n :: r, i, l, h => by
    unfold readA at h
    split at h
    · cases h
    · cases hr : readA ps (i + 1) r with
      | none => rw [hr] at h; simp at h
      | some m =>
        rw [hr] at h
        simp only [Option.map_some, Option.some.injEq] at h
        rw [← h, List.length_cons, readA_len ps r (i + 1) m hr]
        rfl
theorem vals_len (names : List ByteArray) (vs : List V) : (valsO names vs).length ≤ names.length := by
  unfold valsO
  split
  · simp
  · split
    · simp
    · cases h : readA (cutP vs) 0 names with
      | none => simp
      | some l => simp [readA_len _ _ _ _ h]
theorem exp_len (name : ByteArray) (vs : List V) (imp : Bool) : (expO name vs imp).length = (valsO (lghS name) vs).length := by
  unfold expO
  rw [List.length_map, List.length_zip]
  have := vals_len (lghS name) vs
  omega
theorem exp_at {name : ByteArray} {vs : List V} {imp : Bool} {i : Nat} {n s : ByteArray} (hn : (lghS name)[i]? = some n) (hs : (valsO (lghS name) vs)[i]? = some s) : (expO name vs imp)[i]? = some ⟨n, s, imp⟩ := by
  unfold expO
  rw [List.getElem?_map, List.getElem?_zip_eq_some (z := (s, n)) |>.2 ⟨hs, hn⟩]
  rfl
theorem take_snoc {α : Type} {l : List α} {i : Nat} {x : α} (h : l[i]? = some x) : l.take (i + 1) = l.take i ++ [x] := by
  rw [List.take_add_one, h]
  rfl
theorem own_any {w : World} {T n B : Nat} {v : Value} {xs : List Value} (h : w.ownsRow B T 3 v n xs) : w.ownsRow 0 T 3 v n xs := own_low h (Nat.zero_le _)
theorem own_ne3 {w : World} {B T n b : Nat} {v : Value} {xs : List Value} (h : w.ownsRow B T 3 v n xs) (hb : b < B) : some b ≠ v.ownBlock := fun e => by
  have := (h.lt b e.symm).1
  omega
set_option maxHeartbeats 4000000 in
theorem expand_any {P0 : Nat → Prop} {W : World} {v : Value} {vs : List V} (name : ByteArray) (imp : Bool) (hv : VsAt P0 W v vs) (hm : Y.V.most vs) (hz : ∀ y ∈ vs, y.tok.tx.size ≤ 100000 ∧ y.tok.un.size ≤ 100000) (hok : Z.Ok W) (hsd : Sid W) :
    Calls Tryz.prog 11 #[.agg #[.string name, v, .bool imp]] W fun e w' => ∃ a n c, e = .returned (.slice a n c) ∧ n = (expO name vs imp).length ∧ LgAt 43 w' (.slice a n c) (expO name vs imp) ∧ Below W.heap.size W w' := by
  obtain ⟨i0, hi0, hz0, hz1, hz2⟩ := info_parts Tryz.info43s
  have HVL : Hid (∀ w nv, Below W.heap.size W w → StrAt w nv (lghS name) → Calls Tryz.prog 27 #[nv, v] w fun e w' => ∃ a n c, e = .returned (.slice a n c) ∧ n = (valsO (lghS name) vs).length ∧ StrAt w' (.slice a n c) (valsO (lghS name) vs) ∧ Below w.heap.size w w') := fun w nv hb hn => svals_any (hv.keep hb) hm hz (hok.keep hb) (hsd.keep hb) hn (lgh_len name)
  have hlg := longhands_any name (W.alloc (.cells #[.string name, v, .bool imp] 26))
  have HB0 : Hid (Below W.heap.size W (W.alloc (.cells #[.string name, v, .bool imp] 26))) := (Below.refl _ W).alloc (Nat.le_refl _) _
  have hX := Bx.new W 26 #[.string name, v, .bool imp]
  have HEX : Hid (∀ (i : Nat) (n s : ByteArray), (lghS name)[i]? = some n → (valsO (lghS name) vs)[i]? = some s → (expO name vs imp)[i]? = some (Lg.mk n s imp)) := fun i n s h1 h2 => exp_at (i := i) h1 h2
  have HEL := hid_mk (exp_len name vs imp)
  have hVL := vals_len (lghS name) vs
  have hN4 := lgh_len name
  obtain ⟨va, vc, rfl, _, _⟩ := hv.slice
  generalize expO name vs imp = R at *
  generalize valsO (lghS name) vs = vl at *
  generalize lghS name = names at *
  generalize vs.length = vn at *
  clear hv hm hz hok hsd
  have HI0 := hid_mk hi0
  have HZ0 := hid_mk hz0
  have HZ1 := hid_mk hz1
  have HZ2 := hid_mk hz2
  have c0 := hX.cell 0 _ rfl
  have HX := hid_mk hX
  clear hi0 hz0 hz1 hz2 hX
  go_enter Tryz.func11, Tryz.ntmps11
  go_wp2_with (go_at_call 26; fail)
  refine hlg.mono ?_
  rintro e w1 ⟨na, nn, nc, rfl, hnn, hst, hb1⟩
  have HB1 : Hid (Below W.heap.size W w1) := HB0.out.trans (hb1.mono HB0.out.size)
  have hX1 := HX.out.below hb1
  have HX1 := hid_mk hX1
  have c1 := hX1.cell 1 _ rfl
  have hvl := HVL.out w1 _ HB1.out hst
  have HST := hid_mk hst
  subst hnn
  clear hlg hb1 HB0 HX hX1 hst HVL c0
  go_wp2_with (go_at_call 27; fail)
  refine hvl.mono ?_
  rintro e w2 ⟨ra, rn, rc, rfl, hrn, hst2, hb2⟩
  have HB2 : Hid (Below W.heap.size W w2) := HB1.out.trans (hb2.mono HB1.out.size)
  have HX2 := hid_mk (HX1.out.below hb2)
  have HSN := hid_mk (HST.out.keep hb2)
  have HSV := hid_mk hst2
  have HRN := hid_mk hrn
  obtain ⟨na', nc', ena, hnc1, hnc2, hncell⟩ := HSN.out.form
  cases ena
  obtain ⟨ra', rc', era, hrc1, hrc2, hrcell⟩ := HSV.out.form
  subst hrn
  cases era
  have HNC := hid_mk hncell
  have HRC := hid_mk hrcell
  generalize hnl : names.length = N at *
  generalize hvl2 : vl.length = M at *
  have HNL := hid_mk hnl
  have HML := hid_mk hvl2
  clear hvl hb2 HB1 HX1 HST hst2 hncell hrcell hnl hvl2 c1 HSN HSV HRN
  go_wp2
  go_loopw [4, 15] (fun a4 a15 wr => ∃ (i : Nat) (oa : Option Addr) (oc : Nat), a4 = .slice oa i oc ∧ a15 = .int .i64 (i : Int) ∧ i ≤ M ∧ Hid (wr.ownsRow w2.heap.size 43 3 (.slice oa i oc) i ((R.take i).flatMap lgC) ∧ Below w2.heap.size w2 wr)) (fun _ a15 _ => M + 1 - (intOf a15).toNat)
  case atStart => exact ⟨0, _, _, rfl, rfl, Nat.zero_le _, World.ownsRow_nil _ _ _ _, Below.refl _ _⟩
  case round =>
    obtain ⟨i, oa, oc, rfl, rfl, hi, HJ⟩ := hrel
    by_cases hlt : i < M
    · have hd : decide ((i : Int) < (M : Int)) = true := decide_eq_true (by omega)
      obtain ⟨nm, hnm⟩ : ∃ nm, names[i]? = some nm := ⟨_, List.getElem?_eq_getElem (by rw [HNL.out]; omega)⟩
      obtain ⟨s, hs⟩ : ∃ s, vl[i]? = some s := ⟨_, List.getElem?_eq_getElem (by rw [HML.out]; omega)⟩
      have HR := hid_mk (HEX.out i nm s hnm hs)
      obtain ⟨ng, ena, hcn⟩ := HNC.out (by omega)
      obtain ⟨rg, era, hcr⟩ := HRC.out (by omega)
      subst ena
      subst era
      have hn0 := hcn i nm hnm
      have hr0 := hcr i s hs
      have hn1 : wr.cell? ⟨ng, i, none⟩ = some (.string nm) := (HJ.out.2.cell (p := ⟨ng, i, none⟩) (P.lt_of_cell hn0)).trans hn0
      have hr1 : wr.cell? ⟨rg, i, none⟩ = some (.string s) := (HJ.out.2.cell (p := ⟨rg, i, none⟩) (P.lt_of_cell hr0)).trans hr0
      have hbx := HX2.out.below HJ.out.2
      have hx2 := hbx.cell 2 _ rfl
      have hx2' := (hbx.alloc (.cells #[.string nm, .string s, .bool imp] 43)).cell 2 _ rfl
      have hn2 : (wr.alloc (.cells #[.string nm, .string s, .bool imp] 43)).cell? ⟨ng, i, none⟩ = some (.string nm) := by
        rw [World.cell?_alloc_lt _ _ _ (P.lt_of_cell hn1)]
        exact hn1
      clear hcn hcr hn0 hr0 hbx hnm hs
      have hsz := HJ.out.2.size
      have hn63 : i + 1 ≤ maxLen := by unfold maxLen; omega
      have hiN : i < N := by omega
      have HOW := hid_mk HJ.out.1
      go_wp2_with fail
      go_region_law
        ((refine step_append_lies _ (by rfl) _ _ _ (by rfl) w2.heap.size 43 i0 _ 3 40 Tryz.underlying29 HI0.out HZ0.out HZ1.out HZ2.out rfl (by omega) (.slice oa i oc) i ((R.take i).flatMap lgC) (by rfl) ((HOW.out.alloc _).drew)
            ⟨wr.heap.size, 0, none⟩ 1 1 [.string nm, .string s, .bool imp] (by rfl) (by rfl) (World.news_of_block (cs := #[.string nm, .string s, .bool imp]) (t := 43) (fr := (0, 0)) (one_news wr _)) (by simp [Value.oneCell'])
            (by omega) hn63 (by omega) (by simp; omega) (wr.heap.size + 1) (by simp) ?_
          intro gg cap w3 hown1 hgrow hgat hglt
          have HG := hid_mk hgrow
          have HOW1 := hid_mk hown1
          clear hown1 hgrow))
      all_goals
        have HN : Hid (w3.ownsRow w2.heap.size 43 3 (.slice (some ⟨gg, 0, none⟩) (i + 1) cap) (i + 1) ((R.take (i + 1)).flatMap lgC) ∧ Below w2.heap.size w2 w3) := by
          refine ⟨?_, ?_⟩
          · rw [take_snoc HR.out, List.flatMap_append]
            simpa [lgC] using HOW1.out
          · exact ((HJ.out.2.alloc hsz _).drew).grown HG.out (by simp; omega) (fun k hk => by have := (HOW.out.lt k hk).1; omega)
        clear HOW1 HG HR
        go_wp2
        refine ⟨⟨i + 1, _, _, rfl, by simp, by omega, HN.out⟩, ?_⟩
        simp only [intOf]
        omega
    · have hd : decide ((i : Int) < (M : Int)) = false := decide_eq_false (by omega)
      have hiM : i = M := by omega
      subst hiM
      have HE : Hid (LgAt 43 wr (.slice oa i oc) R ∧ Below W.heap.size W wr) := by
        refine ⟨?_, HB2.out.trans (HJ.out.2.mono HB2.out.size)⟩
        have h1 := own_any HJ.out.1
        rw [List.take_of_length_le (by rw [HEL.out]; omega)] at h1
        unfold LgAt
        rw [HEL.out]
        exact h1
      go_wp2
      go_ret
      exact ⟨oa, i, oc, rfl, by rw [HEL.out], HE.out⟩
end Go.Proofs.YtlhdapckenjigaaGreatDoor.S
