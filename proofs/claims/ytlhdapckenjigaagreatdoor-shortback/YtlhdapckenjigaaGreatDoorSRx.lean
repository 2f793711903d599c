/- The document's cut. The document's Expand. -/
import Derived.Test.YtlhdapckenjigaaGreatDoorSCv
import Derived.Test.YtlhdapckenjigaaGreatDoorZRw
import Derived.Test.YtlhdapckenjigaaGreatDoorSEx
namespace Go.Proofs.YtlhdapckenjigaaGreatDoor.S
open Go.RowKit
open Go.Proofs.YtlhdapckenjigaaGreatDoor.L (T5 V VsAt t5Cells vCells cell_of_heap hid_mk cellAt set_at)
open Go.Proofs.YtlhdapckenjigaaGreatDoor.Y (spaceV trimZ aheadZ Row mkV wpList_append_row)
open Go.Proofs.YtlhdapckenjigaaGreatDoor.P (Bx StrAt)
set_option maxRecDepth 100000

theorem vs_mem {P : Nat → Prop} {W : World} {v : Value} {vs : List V} (h : VsAt P W v vs) : VsAt (fun b => b < W.heap.size) W v vs := h.wider (fun _ _ h => h)
theorem one_at {P : Nat → Prop} {w : World} {x : V} {ka : Option Addr} {kc b : Nat} (hk : VsAt P w (.slice ka x.kids.length kc) x.kids) (hb : Bx w b 57 #[.int .i64 x.tok.k, .string x.tok.tx, .string x.tok.un, .bool x.tok.wh, .bool x.tok.fl, .slice ka x.kids.length kc]) (hP : P b) : VsAt P w (.slice (some ⟨b, 0, none⟩) 1 1) [x] := by
  refine .mk (some ⟨b, 0, none⟩) 1 [x] b 0 (fun _ => .slice ka x.kids.length kc) (by simp) (by simp) (fun _ => ⟨rfl, hb.lt, hP⟩) (fun i hi j y hy => ?_) (fun i hi => ?_)
  · obtain rfl : i = 0 := by simpa using hi
    rw [Nat.zero_mul, Nat.zero_add]
    exact hb.cell j y (by simpa [vCells] using hy)
  · obtain rfl : i = 0 := by simpa using hi
    exact hk
theorem row_nil (P : Nat → Prop) (B : Nat) (w : World) : Row P B w (.slice none 0 0) [] := ⟨World.ownsRow_nil _ _ _ _, (fun g h => by cases h), (fun p hp => by cases hp)⟩
theorem rc_none {sp : Bool} {x : V} {r : List V} (hs : spaceV x = false) (h : sp = false) : rcutA sp (x :: r) = none := by
  unfold rcutA
  rw [hs, h]
  rfl
theorem rc_some {x : V} {r : List V} (hs : spaceV x = false) : rcutA true (x :: r) = (rcutA false r).map (x :: ·) := by
  conv => lhs; unfold rcutA
  rw [hs]
  rfl
theorem rc_sp {sp : Bool} {x : V} {r : List V} (hs : spaceV x = true) : rcutA sp (x :: r) = rcutA true r := by
  conv => lhs; unfold rcutA
  rw [if_pos hs]
set_option maxHeartbeats 4000000 in
theorem rcut_any {P0 : Nat → Prop} {W : World} {v : Value} {vs : List V} (hv : VsAt P0 W v vs) (hm : vs.length ≤ 1954687338211) :
    Calls Tryz.prog 31 #[v] W fun e w' => ∃ a n c, e = .returned (.slice a n c) ∧ n = (rcutP vs).length ∧ VsAt (fun _ => True) w' (.slice a n c) (rcutP vs) ∧ Below W.heap.size W w' := by
  have htr := Y.rtrim_any hv hm
  have HR : Hid (rcutP vs = ((rcutA true ((trimZ vs).drop 0)).map ([] ++ ·)).getD []) := by
    show _ = _
    unfold rcutP
    cases h : rcutA true (trimZ vs) <;> simp [h]
  have hml := Nat.le_trans (Y.trim_len vs) hm
  obtain ⟨va, vc, rfl, _, _⟩ := hv.slice
  generalize rcutP vs = R at *
  generalize trimZ vs = tv at *
  generalize vs.length = vn at *
  clear hv hm
  go_enter Tryz.func31, Tryz.ntmps31
  go_wp2_with (go_at_call 48; fail)
  refine htr.mono ?_
  rintro e w1 ⟨out1, rfl, hvt0, hb1⟩
  have hvt := vs_mem hvt0
  have HVT := hid_mk hvt
  have HB1 := hid_mk hb1
  obtain ⟨ta, tc, tb, tO, rfl, htc, htm, hcell⟩ := vs_at hvt
  have HC := hid_mk hcell
  generalize hln : tv.length = ln at *
  have HLN := hid_mk hln
  clear htr hvt0 hb1 hvt hcell hln
  go_wp2
  go_loopw [3, 4, 11] (fun a3 a4 a11 wr => ∃ (i n : Nat) (oa : Option Addr) (oc : Nat) (sp : Bool) (ps : List (T5 × Value × List V)), a3 = .slice oa n oc ∧ a4 = .bool sp ∧ a11 = .int .i64 (i : Int) ∧ i ≤ ln ∧ Hid (ps.length = n ∧ n ≤ i ∧ Row (fun _ => True) w1.heap.size wr (.slice oa n oc) ps ∧ Below w1.heap.size w1 wr ∧ R = ((rcutA sp (tv.drop i)).map (ps.map mkV ++ ·)).getD [])) (fun _ _ a11 _ => ln + 1 - (intOf a11).toNat)
  case atStart => exact ⟨0, 0, none, 0, true, [], rfl, rfl, rfl, Nat.zero_le _, rfl, Nat.le_refl _, row_nil _ _ _, Below.refl _ _, HR.out⟩
  case round =>
    obtain ⟨i, n, oa, oc, sp, ps, rfl, rfl, rfl, hi, HJ⟩ := hrel
    clear HR
    by_cases hlt : i < ln
    · have hd1 : decide ((i : Int) < (ln : Int)) = true := decide_eq_true (by omega)
      obtain ⟨x, hx⟩ : ∃ x, tv[i]? = some x := ⟨_, List.getElem?_eq_getElem (by rw [HLN.out]; exact hlt)⟩
      obtain ⟨hla, ka, kc, hkv, hcl⟩ := HC.out i x hx
      obtain ⟨⟨q0, q1, q2⟩, q3, q4, q5⟩ := hcl wr HJ.out.2.2.2.1
      have HDR := hid_mk (drop_cons hx)
      have HS := hid_mk (sp_eq x)
      have HK := hid_mk hkv
      subst hla
      obtain ⟨xt, xk⟩ := x
      obtain ⟨k, tx, un, wh, fl⟩ := xt
      simp only [V.tok, V.kids] at q0 q1 q2 q3 q4 q5 HS HK
      generalize hkn : xk.length = kn at *
      have HKN := hid_mk hkn
      clear hcl hx hkv hkn
      have hbx := Bx.new wr 57 #[.int .i64 k, .string tx, .string un, .bool wh, .bool fl, .slice ka kn kc]
      have c0 := hbx.cell 0 _ rfl
      have c1 := hbx.cell 1 _ rfl
      have c2 := hbx.cell 2 _ rfl
      have c3 := hbx.cell 3 _ rfl
      have c4 := hbx.cell 4 _ rfl
      have c5 := hbx.cell 5 _ rfl
      have HBA : Hid (Below w1.heap.size w1 (wr.alloc (.cells #[.int .i64 k, .string tx, .string un, .bool wh, .bool fl, .slice ka kn kc] 57))) := HJ.out.2.2.2.1.alloc HJ.out.2.2.2.1.size _
      clear hbx
      by_cases hk : k = 13
      · subst hk
        have HSP : Hid (spaceV (.mk ⟨13, tx, un, wh, fl⟩ xk) = true) := HS.out.trans (by simp)
        have HRW : Hid (Row (fun _ => True) w1.heap.size (wr.alloc (.cells #[.int .i64 13, .string tx, .string un, .bool wh, .bool fl, .slice ka kn kc] 57)) (.slice oa n oc) ps) := HJ.out.2.2.1.keep ((Below.refl _ wr).alloc (Nat.le_refl _) _)
        go_wp2
        refine ⟨⟨i + 1, n, oa, oc, true, ps, rfl, rfl, rfl, by omega, HJ.out.1, by have := HJ.out.2.1; omega, HRW.out, HBA.out, ?_⟩, by simp only [intOf]; omega⟩
        rw [HJ.out.2.2.2.2, HDR.out, rc_sp HSP.out]
      · have hk13 : (k == 13) = false := by simpa using hk
        have HSP : Hid (spaceV (.mk ⟨k, tx, un, wh, fl⟩ xk) = false) := HS.out.trans hk13
        cases sp with
        | false =>
          have HRR : Hid (R = []) := by show _ = _; rw [HJ.out.2.2.2.2, HDR.out, rc_none HSP.out rfl]; rfl
          have HEND : Hid (Below W.heap.size W (wr.alloc (.cells #[.int .i64 k, .string tx, .string un, .bool wh, .bool fl, .slice ka kn kc] 57))) := HB1.out.trans (HBA.out.mono HB1.out.size)
          go_wp2
          go_ret
          refine ⟨none, 0, 0, rfl, by rw [HRR.out]; rfl, ?_, HEND.out⟩
          rw [HRR.out]
          exact VsAt.nil _ _
        | true =>
          have HR2 : Hid (R = ((rcutA false (tv.drop (i + 1))).map ((ps.map mkV ++ [.mk ⟨k, tx, un, wh, fl⟩ xk]) ++ ·)).getD []) := by
            show _ = _
            rw [HJ.out.2.2.2.2, HDR.out, rc_some HSP.out]
            cases rcutA false (tv.drop (i + 1)) <;> simp
          have HRW : Hid (Row (fun _ => True) w1.heap.size ((wr.alloc (.cells #[.int .i64 k, .string tx, .string un, .bool wh, .bool fl, .slice ka kn kc] 57)).alloc (.cells #[.int .i64 k, .string tx, .string un, .bool wh, .bool fl, .slice ka kn kc] 57)) (.slice oa n oc) ps) := HJ.out.2.2.1.keep (((Below.refl _ wr).alloc (Nat.le_refl _) _).alloc (by simp) _)
          have HBB : Hid (Below w1.heap.size w1 ((wr.alloc (.cells #[.int .i64 k, .string tx, .string un, .bool wh, .bool fl, .slice ka kn kc] 57)).alloc (.cells #[.int .i64 k, .string tx, .string un, .bool wh, .bool fl, .slice ka kn kc] 57))) := HBA.out.alloc (by have := HBA.out.size; omega) _
          have hob : ∀ b, (.slice oa n oc : Value).ownBlock = some b → w1.heap.size ≤ b ∧ b < wr.heap.size := fun b hb => HJ.out.2.2.1.1.lt b hb
          have hne : (.slice oa n oc : Value).ownBlock ≠ some (wr.heap.size + 1) := fun e => by have := (hob _ e).2; omega
          have hbx2 : Bx ((wr.alloc (.cells #[.int .i64 k, .string tx, .string un, .bool wh, .bool fl, .slice ka kn kc] 57)).alloc (.cells #[.int .i64 k, .string tx, .string un, .bool wh, .bool fl, .slice ka kn kc] 57)) (wr.heap.size + 1) 57 #[.int .i64 k, .string tx, .string un, .bool wh, .bool fl, .slice ka kn kc] := by
            have := Bx.new (wr.alloc (.cells #[.int .i64 k, .string tx, .string un, .bool wh, .bool fl, .slice ka kn kc] 57)) 57 #[.int .i64 k, .string tx, .string un, .bool wh, .bool fl, .slice ka kn kc]
            simpa using this
          have HU : Hid (VsAt (fun b => True ∧ (.slice oa n oc : Value).ownBlock ≠ some b) ((wr.alloc (.cells #[.int .i64 k, .string tx, .string un, .bool wh, .bool fl, .slice ka kn kc] 57)).alloc (.cells #[.int .i64 k, .string tx, .string un, .bool wh, .bool fl, .slice ka kn kc] 57)) (.slice (some ⟨wr.heap.size + 1, 0, none⟩) 1 1) [.mk ⟨k, tx, un, wh, fl⟩ xk]) := by
            have hk1 : VsAt (fun b => b < w1.heap.size) ((wr.alloc (.cells #[.int .i64 k, .string tx, .string un, .bool wh, .bool fl, .slice ka kn kc] 57)).alloc (.cells #[.int .i64 k, .string tx, .string un, .bool wh, .bool fl, .slice ka kn kc] 57)) (.slice ka kn kc) xk := HK.out.keep HBB.out
            have hk2 : VsAt (fun b => True ∧ (.slice oa n oc : Value).ownBlock ≠ some b) ((wr.alloc (.cells #[.int .i64 k, .string tx, .string un, .bool wh, .bool fl, .slice ka kn kc] 57)).alloc (.cells #[.int .i64 k, .string tx, .string un, .bool wh, .bool fl, .slice ka kn kc] 57)) (.slice ka kn kc) xk := hk1.wider (fun b hb _ => ⟨trivial, fun e => by have := (hob _ e).1; omega⟩)
            have hbx3 := hbx2
            rw [← HKN.out] at hk2 hbx3
            rw [← HKN.out]
            exact one_at (x := .mk ⟨k, tx, un, wh, fl⟩ xk) hk2 hbx3 ⟨trivial, hne⟩
          have hnB : n ≤ i := HJ.out.2.1
          have hpn : ps.length = n := HJ.out.1
          have HPN := hid_mk hpn
          have hle : ps.length + [V.mk ⟨k, tx, un, wh, fl⟩ xk].length ≤ 1954687338211 := by rw [hpn]; simp; omega
          have HLE := hid_mk hle
          have HSZ : Hid (w1.heap.size ≤ ((wr.alloc (.cells #[.int .i64 k, .string tx, .string un, .bool wh, .bool fl, .slice ka kn kc] 57)).alloc (.cells #[.int .i64 k, .string tx, .string un, .bool wh, .bool fl, .slice ka kn kc] 57)).heap.size) := HBB.out.size
          clear hbx2 hpn hle hob hne
          go_wp2_with (at_builtin; with_reducible refine wpList_append_row rfl _ _ rfl (v := .slice oa n oc) (u := .slice (some ⟨wr.heap.size + 1, 0, none⟩) 1 1) rfl rfl HRW.out HU.out HLE.out HSZ.out trivial ?_; intro v' w2 qs hrow2 hqs hgr; have HQS := hid_mk hqs; have HRO := hid_mk hrow2; have HGR := hid_mk hgr; clear hqs hrow2 hgr)
          have hqs := HQS.out
          have hrow2 := HRO.out
          have hgr := HGR.out
          have hv2 := hrow2.vals
          rw [List.map_append, hqs] at hv2
          obtain ⟨na, nc, ev, _, _⟩ := hv2.slice
          have hqn : qs.length = 1 := by have := congrArg List.length hqs; simpa using this
          have hvl : (ps.map mkV ++ [V.mk ⟨k, tx, un, wh, fl⟩ xk]).length = n + 1 := by rw [List.length_append, List.length_map, HPN.out]; rfl
          rw [hvl] at ev
          subst ev
          have HB2 : Hid (Below w1.heap.size w1 w2) := HBB.out.grown hgr HSZ.out (fun b hb => (HJ.out.2.2.1.1.lt b hb).1)
          have HRW2 : Hid (Row (fun _ => True) w1.heap.size w2 (.slice na (n + 1) nc) (ps ++ qs) ∧ (ps ++ qs).length = n + 1 ∧ (ps ++ qs).map mkV = ps.map mkV ++ [.mk ⟨k, tx, un, wh, fl⟩ xk]) := ⟨hrow2, by rw [List.length_append, HPN.out, hqn], by rw [List.map_append, hqs]⟩
          clear HQS HRO HGR hrow2 hqs hgr hv2 hqn hvl HRW HU HLE HSZ HBB
          go_wp2
          refine ⟨⟨i + 1, n + 1, na, nc, false, ps ++ qs, rfl, rfl, rfl, by omega, HRW2.out.2.1, by omega, HRW2.out.1, HB2.out, ?_⟩, by simp only [intOf]; omega⟩
          rw [HRW2.out.2.2]
          exact HR2.out
    · have hd1 : decide ((i : Int) < (ln : Int)) = false := decide_eq_false (by omega)
      have hil : i = ln := by omega
      have HRR : Hid (R = ps.map mkV) := by
        show _ = _
        rw [HJ.out.2.2.2.2, List.drop_of_length_le (by rw [HLN.out]; omega)]
        simp [rcutA]
      have HE : Hid (n = R.length ∧ VsAt (fun _ => True) wr (.slice oa n oc) R ∧ Below W.heap.size W wr) := by
        rw [HRR.out]
        exact ⟨by rw [List.length_map, HJ.out.1], HJ.out.2.2.1.vals, HB1.out.trans (HJ.out.2.2.2.1.mono HB1.out.size)⟩
      go_wp2
      go_ret
      exact ⟨oa, n, oc, rfl, HE.out⟩
end Go.Proofs.YtlhdapckenjigaaGreatDoor.S
namespace Go.Proofs.YtlhdapckenjigaaGreatDoor.S
open Go.RowKit
open Go.Proofs.YtlhdapckenjigaaGreatDoor.L (T5 V VsAt t5Cells vCells cell_of_heap hid_mk cellAt set_at)
open Go.Proofs.YtlhdapckenjigaaGreatDoor.Y (spaceV trimZ aheadZ)
open Go.Proofs.YtlhdapckenjigaaGreatDoor.P (Bx StrAt)
set_option maxRecDepth 100000

theorem lit3 (T : Nat) (w : World) (x : Lg) : LgAt T (w.alloc (.cells #[.string x.n, .string x.v, .bool x.i] T)) (.slice (some ⟨w.heap.size, 0, none⟩) 1 1) [x] := by
  refine ⟨by simp [lgC], .inr ⟨w.heap.size, 1, #[.string x.n, .string x.v, .bool x.i], rfl, Nat.zero_le _, heap_alloc_new w _, by simp, by unfold maxLen; omega, by simp, by simp [lgC]⟩⟩
def ofO (name : ByteArray) (imp : Bool) : Option ByteArray → List Lg
  | none => []
  | some s => [⟨name, s, imp⟩]
theorem ne_str {s : ByteArray} (h : s.size ≠ 0) : (s.toList == ([] : List UInt8)) = false := by
  cases hx : (s.toList == ([] : List UInt8)) with
  | false => rfl
  | true =>
    exfalso
    apply h
    rw [P.str_of hx]
    rfl
set_option maxHeartbeats 4000000 in
theorem rexp_long {P0 : Nat → Prop} {W : World} {v : Value} {vs : List V} (name : ByteArray) (imp : Bool) (hv : VsAt P0 W v vs) (hm : vs.length ≤ 1954687338211) (hz : ∀ y ∈ vs, y.tok.tx.size ≤ 100000 ∧ y.tok.un.size ≤ 100000) (hp : 0 ≤ P.plc name) :
    Calls Tryz.prog 12 #[.agg #[.string name, v, .bool imp]] W fun e w' => ∃ a n c, e = .returned (.slice a n c) ∧ n = (rexpO name vs imp).length ∧ LgAt 60 w' (.slice a n c) (rexpO name vs imp) ∧ Below W.heap.size W w' := by
  have HR : Hid (rexpO name vs imp = (if (Z.wideS vs).size ≠ 0 then [⟨name, Z.wideS vs, imp⟩] else ofO name imp (Z.parseO name vs))) := by
    show _ = _
    unfold rexpO
    rw [if_pos hp]
    cases Z.parseO name vs <;> rfl
  have hf := P.rfind_any name (W.alloc (.cells #[.string name, v, .bool imp] 26))
  have HW : Hid (∀ w, Below W.heap.size W w → Calls Tryz.prog 29 #[v] w fun e w' => e = .returned (.string (Z.wideS vs)) ∧ Below w.heap.size w w') := fun w hb => Z.rwide_any (hv.keep hb) hm hz
  have HP : Hid (∀ w, Below W.heap.size W w → Calls Tryz.prog 30 #[.string name, v] w fun e w' => e = .returned (Z.res (Z.parseO name vs)) ∧ Below w.heap.size w w') := fun w hb => Z.rparse_any name (hv.keep hb) hm hz
  have HB0 : Hid (Below W.heap.size W (W.alloc (.cells #[.string name, v, .bool imp] 26))) := (Below.refl _ W).alloc (Nat.le_refl _) _
  have hX := Bx.new W 26 #[.string name, v, .bool imp]
  have hd : decide (0 ≤ P.plc name) = true := decide_eq_true hp
  obtain ⟨va, vc, rfl, _, _⟩ := hv.slice
  generalize rexpO name vs imp = R at *
  generalize Z.wideS vs = ws at *
  generalize Z.parseO name vs = po at *
  generalize P.prc name = p at *
  generalize decide (0 ≤ P.plc name) = dd at *
  subst hd
  generalize vs.length = vn at *
  obtain ⟨pn, pi, ph, pf⟩ := p
  have c0 := hX.cell 0 _ rfl
  have HX := hid_mk hX
  clear hv hm hz hp hX
  go_enter Tryz.func12, Tryz.ntmps12
  go_wp2_with (go_at_call 28; fail)
  refine hf.mono ?_
  rintro e w1 ⟨rfl, hb1⟩
  have HB1 : Hid (Below W.heap.size W (w1.alloc (.cells #[.string pn, .string pi, .bool ph, .string pf] 63))) := (HB0.out.trans (hb1.mono HB0.out.size)).alloc (HB0.out.trans (hb1.mono HB0.out.size)).size _
  have hX1 := (HX.out.below hb1).alloc (.cells #[.string pn, .string pi, .bool ph, .string pf] 63)
  have c1 := hX1.cell 1 _ rfl
  have HX1 := hid_mk hX1
  have hw := HW.out _ HB1.out
  clear hf hb1 HB0 HX hX1 HW c0
  go_wp2_with (go_at_call 29; fail)
  refine hw.mono ?_
  rintro e w2 ⟨rfl, hb2⟩
  have HB2 : Hid (Below W.heap.size W w2) := HB1.out.trans (hb2.mono HB1.out.size)
  have hX2 := HX1.out.below hb2
  have d0 := hX2.cell 0 _ rfl
  have d1 := hX2.cell 1 _ rfl
  have d2 := hX2.cell 2 _ rfl
  have HX2 := hid_mk hX2
  have hpp := HP.out w2 HB2.out
  clear hw hb2 HB1 HX1 hX2 HP c1
  by_cases hws : ws.size ≠ 0
  · have HRR : Hid (R = [⟨name, ws, imp⟩]) := by show _ = _; rw [HR.out, if_pos hws]
    have hne := ne_str hws
    clear HR hpp hws
    go_wp2
    go_ret
    refine ⟨_, 1, 1, rfl, by rw [HRR.out]; rfl, ?_, HB2.out.alloc HB2.out.size _⟩
    rw [HRR.out]
    exact lit3 60 w2 ⟨name, ws, imp⟩
  · have hwe : ws = ⟨#[]⟩ := size_zero (by omega)
    subst hwe
    have HR2 : Hid (R = ofO name imp po) := by show _ = _; rw [HR.out, if_neg hws]
    clear HR hws
    go_wp2_with (go_at_call 30; fail)
    refine hpp.mono ?_
    rintro e w3 ⟨rfl, hb3⟩
    have HB3 : Hid (Below W.heap.size W w3) := HB2.out.trans (hb3.mono HB2.out.size)
    have hX3 := HX2.out.below hb3
    have f0 := hX3.cell 0 _ rfl
    have f2 := hX3.cell 2 _ rfl
    clear hpp hb3 HB2 hX3 HX2 d0 d1 d2
    cases po with
    | none =>
      rw [Z.res_none]
      go_wp2
      go_ret
      exact ⟨none, 0, 0, rfl, by rw [HR2.out]; rfl, by rw [HR2.out]; exact LgAt.nil 60 w3, HB3.out⟩
    | some s =>
      rw [Z.res_some]
      go_wp2
      go_ret
      refine ⟨_, 1, 1, rfl, by rw [HR2.out]; rfl, ?_, HB3.out.alloc HB3.out.size _⟩
      rw [HR2.out]
      exact lit3 60 w3 ⟨name, s, imp⟩
theorem rcutA_sub : ∀ (r : List V) (sp : Bool) (l : List V), rcutA sp r = some l → (∀ y ∈ l, y ∈ r) ∧ l.length ≤ r.length := fun r sp l h => by
  rw [rcutA_filter r sp l h]
  exact ⟨fun y hy => (List.mem_filter.1 hy).1, List.length_filter_le _ _⟩
theorem rcut_sub (vs : List V) : ∀ y ∈ rcutP vs, y ∈ vs := fun y hy => by
  unfold rcutP at hy
  cases h : rcutA true (trimZ vs) with
  | none => rw [h] at hy; simp at hy
  | some l => rw [h] at hy; exact Y.trim_sub vs y ((rcutA_sub _ _ _ h).1 y hy)
theorem rcut_len (vs : List V) : (rcutP vs).length ≤ vs.length := by
  unfold rcutP
  cases h : rcutA true (trimZ vs) with
  | none => simp
  | some l => exact Nat.le_trans (rcutA_sub _ _ _ h).2 (Y.trim_len vs)
theorem which_lt {name : ByteArray} {n i : Nat} (hn : n ≠ 0) (hi : i < (P.lgs name).length) (h : ¬ whichZ name n i < 0) : (whichZ name n i).toNat < n := by
  rcases lgs_len name with ⟨h1, _⟩ | ⟨h1, h2⟩ | ⟨h1, h2⟩
  · rw [h1] at hi; simp at hi
  · unfold whichZ at h ⊢
    rw [if_pos h2] at h ⊢
    split at h
    · simp at h
    · rename_i h3
      rw [if_neg h3]
      have hn2 : n = 1 ∨ n = 2 := by omega
      have hi2 : i = 0 ∨ i = 1 := by omega
      rcases hn2 with rfl | rfl <;> rcases hi2 with rfl | rfl <;> decide
  · unfold whichZ at h ⊢
    rw [if_neg (by rw [h2]; simp)] at h ⊢
    by_cases h4 : n ≤ 4
    · have := sides_lt (n := n) (i := i) (by omega) h4 (by omega)
      omega
    · exfalso
      apply h
      unfold sidesZ
      rw [if_neg (by omega)]
      decide
theorem rexp_step (name : ByteArray) (vs ps : List V) (imp : Bool) {N : List ByteArray} {i : Nat} {n : ByteArray} (hn : N[i]? = some n) : rexpA name vs ps imp i (N.drop i) =
    if (Z.wideS vs).size ≠ 0 then (rexpA name vs ps imp (i + 1) (N.drop (i + 1))).map (⟨n, Z.wideS vs, imp⟩ :: ·)
    else if ps.length = 0 then none
    else if whichZ name ps.length i < 0 then none
    else match Z.parseO n ((ps.drop (whichZ name ps.length i).toNat).take 1) with
      | none => none
      | some s => (rexpA name vs ps imp (i + 1) (N.drop (i + 1))).map (⟨n, s, imp⟩ :: ·) := by
  obtain ⟨h, e⟩ := List.getElem?_eq_some_iff.1 hn
  rw [List.drop_eq_getElem_cons h, e]
  rfl
theorem vs_one {P : Nat → Prop} {W : World} {a : Option Addr} {n cap : Nat} {vs : List V} (h : VsAt P W (.slice a n cap) vs) (k : Nat) (hk : k < vs.length) : ∃ b off, a = some ⟨b, off, none⟩ ∧ VsAt P W (.slice (some ⟨b, off + k * 6, none⟩) 1 (cap - k)) ((vs.drop k).take 1) := by
  obtain ⟨a', cap', b, off, e, _, _, hc⟩ := vs_at h
  cases e
  obtain ⟨x, hx⟩ : ∃ x, vs[0]? = some x := ⟨_, List.getElem?_eq_getElem (by omega)⟩
  obtain ⟨rfl, _⟩ := hc 0 x hx
  refine ⟨b, off, rfl, ?_⟩
  have h1 := h.drop k (by omega) (some ⟨b, off + k * 6, none⟩) (fun _ => ⟨b, off, rfl, rfl⟩)
  exact h1.take 1 (by simp; omega)
/-- One longhand farther. -/
def StpP (rx : Nat → List ByteArray → Option (List Lg)) (N : List ByteArray) (ws : ByteArray) (imp : Bool) (qn : Nat) (wz : Nat → Int) (po : ByteArray → Nat → Option ByteArray) : Prop :=
  ∀ (i : Nat) (n : ByteArray), N[i]? = some n → rx i (N.drop i) = if ws.size ≠ 0 then (rx (i + 1) (N.drop (i + 1))).map (⟨n, ws, imp⟩ :: ·) else if qn = 0 then none else if wz i < 0 then none else match po n (wz i).toNat with
    | none => none
    | some s => (rx (i + 1) (N.drop (i + 1))).map (⟨n, s, imp⟩ :: ·)
def LtP (qn n : Nat) (wz : Nat → Int) : Prop := ∀ i : Nat, qn ≠ 0 → i < n → ¬ wz i < 0 → (wz i).toNat < qn
def RxI (R : List Lg) (o : Option (List Lg)) (ls : List Lg) : Prop := R = (o.map (ls ++ ·)).getD []
set_option maxHeartbeats 8000000 in
theorem rexp_short {P0 : Nat → Prop} {W : World} {v : Value} {vs : List V} (name : ByteArray) (imp : Bool) (hv : VsAt P0 W v vs) (hm : vs.length ≤ 1954687338211) (hz : ∀ y ∈ vs, y.tok.tx.size ≤ 100000 ∧ y.tok.un.size ≤ 100000) (hp : ¬ 0 ≤ P.plc name) :
    Calls Tryz.prog 12 #[.agg #[.string name, v, .bool imp]] W fun e w' => ∃ a n c, e = .returned (.slice a n c) ∧ n = (rexpO name vs imp).length ∧ LgAt 60 w' (.slice a n c) (rexpO name vs imp) ∧ Below W.heap.size W w' := by
  have HR : Hid (rexpO name vs imp = (rexpA name vs (rcutP vs) imp 0 (P.lgs name)).getD []) := by show _ = _; unfold rexpO; rw [if_neg hp]
  obtain ⟨i0, hi0, hz0, hz1, hz2⟩ := info_parts Tryz.info60s
  have HI0 := hid_mk hi0
  have HZ0 := hid_mk hz0
  have HZ1 := hid_mk hz1
  have HZ2 := hid_mk hz2
  clear hi0 hz0 hz1 hz2
  have hf := P.rfind_any name (W.alloc (.cells #[.string name, v, .bool imp] 26))
  have HW : Hid (∀ w, Below W.heap.size W w → Calls Tryz.prog 29 #[v] w fun e w' => e = .returned (.string (Z.wideS vs)) ∧ Below w.heap.size w w') := fun w hb => Z.rwide_any (hv.keep hb) hm hz
  have HCT : Hid (∀ w, Below W.heap.size W w → Calls Tryz.prog 31 #[v] w fun e w' => ∃ a n c, e = .returned (.slice a n c) ∧ n = (rcutP vs).length ∧ VsAt (fun _ => True) w' (.slice a n c) (rcutP vs) ∧ Below w.heap.size w w') := fun w hb => rcut_any (hv.keep hb) hm
  have HLO : Hid (∀ w, Calls Tryz.prog 32 #[.string name] w fun e w' => (∃ a n c, e = .returned (.slice a n c) ∧ n = (P.lgs name).length ∧ StrAt w' (.slice a n c) (P.lgs name)) ∧ Below w.heap.size w w') := fun w => P.rlongs_any name w
  have HPS : Hid (∀ y ∈ rcutP vs, y.tok.tx.size ≤ 100000 ∧ y.tok.un.size ≤ 100000) := fun y hy => hz y (rcut_sub vs y hy)
  have HCL : Hid ((rcutP vs).length ≤ 1954687338211) := Nat.le_trans (rcut_len vs) hm
  have HPA : Hid (∀ w nm u k, VsAt (fun _ => True) w u (((rcutP vs).drop k).take 1) → Calls Tryz.prog 30 #[.string nm, u] w fun e w' => e = .returned (Z.res ((fun nm k => Z.parseO nm (((rcutP vs).drop k).take 1)) nm k)) ∧ Below w.heap.size w w') := fun w nm u k hu => Z.rparse_any nm hu (by rw [List.length_take]; omega) (fun y hy => HPS.out y (List.mem_of_mem_drop (List.mem_of_mem_take hy)))
  have HWH : Hid (∀ w (i : Nat), (rcutP vs).length ≤ 140737488355328 → i ≤ 1000 → Calls Tryz.prog 33 #[.string name, .int .i64 ((rcutP vs).length : Int), .int .i64 (i : Int)] w fun e w' => e = .returned (.int .i64 ((fun i : Nat => whichZ name (rcutP vs).length i) i)) ∧ w' = w) := fun w i hn hi => which_any name _ i (by omega) (by omega) w
  have HST : StpP (rexpA name vs (rcutP vs) imp) (P.lgs name) (Z.wideS vs) imp (rcutP vs).length (fun i => whichZ name (rcutP vs).length i) (fun nm k => Z.parseO nm (((rcutP vs).drop k).take 1)) := fun i n h => rexp_step name vs _ imp h
  have HRX0 : Hid (∀ i : Nat, (P.lgs name).length ≤ i → rexpA name vs (rcutP vs) imp i ((P.lgs name).drop i) = some []) := fun i h => by rw [List.drop_of_length_le h]; rfl
  have HLT : LtP (rcutP vs).length (P.lgs name).length (fun i => whichZ name (rcutP vs).length i) := fun i h1 h2 h3 => which_lt h1 h2 h3
  have hN4 : (P.lgs name).length ≤ 4 := by rcases lgs_len name with ⟨h, _⟩ | ⟨h, _⟩ | ⟨h, _⟩ <;> rw [h] <;> simp
  have HB0 : Hid (Below W.heap.size W (W.alloc (.cells #[.string name, v, .bool imp] 26))) := (Below.refl _ W).alloc (Nat.le_refl _) _
  have hX := Bx.new W 26 #[.string name, v, .bool imp]
  have hd : decide (0 ≤ P.plc name) = false := decide_eq_false hp
  obtain ⟨va, vc, rfl, _, _⟩ := hv.slice
  generalize rexpO name vs imp = R at *
  generalize (fun nm k => Z.parseO nm (((rcutP vs).drop k).take 1)) = po at *
  generalize (fun i : Nat => whichZ name (rcutP vs).length i) = wz at *
  generalize rcutP vs = ps at *
  generalize hrx : rexpA name vs ps imp = rx at *
  generalize Z.wideS vs = ws at *
  generalize P.prc name = p at *
  generalize decide (0 ≤ P.plc name) = dd at *
  generalize P.lgs name = N at *
  subst hd
  generalize vs.length = vn at *
  obtain ⟨pn, pi, ph, pf⟩ := p
  have c0 := hX.cell 0 _ rfl
  have HX := hid_mk hX
  clear hv hm hz hp hX hrx
  go_enter Tryz.func12, Tryz.ntmps12
  go_wp2_with (go_at_call 28; fail)
  refine hf.mono ?_
  rintro e w1 ⟨rfl, hb1⟩
  have HB1 : Hid (Below W.heap.size W (w1.alloc (.cells #[.string pn, .string pi, .bool ph, .string pf] 63))) := (HB0.out.trans (hb1.mono HB0.out.size)).alloc (HB0.out.trans (hb1.mono HB0.out.size)).size _
  have hX1 := (HX.out.below hb1).alloc (.cells #[.string pn, .string pi, .bool ph, .string pf] 63)
  have c1 := hX1.cell 1 _ rfl
  have HX1 := hid_mk hX1
  have hct := HCT.out _ HB1.out
  clear hf hb1 HB0 HX hX1 c0 HCT
  go_wp2_with (go_at_call 31; fail)
  refine hct.mono ?_
  rintro e w2 ⟨qa, qn, qc, rfl, hqn, hvp, hb2⟩
  have HB2 : Hid (Below W.heap.size W w2) := HB1.out.trans (hb2.mono HB1.out.size)
  have hX2 := HX1.out.below hb2
  have d0 := hX2.cell 0 _ rfl
  have HX2 := hid_mk hX2
  have HVP := hid_mk hvp
  have hlo := HLO.out w2
  have hql := HCL.out
  have hqc : qn ≤ qc ∧ qc ≤ 9223372036854775807 := by
    obtain ⟨a', c', e, h1, h2⟩ := hvp.slice
    cases e
    exact ⟨h1, h2⟩
  rw [← hqn] at hql HLT HST HWH
  have HQN := hid_mk hqn
  clear hct hb2 HB1 HX1 hX2 c1 hvp HLO hqn HCL
  go_wp2_with (go_at_call 32; fail)
  refine hlo.mono ?_
  rintro e w3 ⟨⟨na, nn, nc, rfl, hnn, hst⟩, hb3⟩
  have HB3 : Hid (Below W.heap.size W w3) := HB2.out.trans (hb3.mono HB2.out.size)
  have HX3 := hid_mk (HX2.out.below hb3)
  have HV3 := hid_mk (HVP.out.keep hb3)
  obtain ⟨na', nc', ena, hnc1, hnc2, hncell⟩ := hst.form
  subst hnn
  cases ena
  have HNC := hid_mk hncell
  generalize hNl : N.length = n at *
  have HNl := hid_mk hNl
  clear hlo hb3 HB2 HX2 HVP hst hncell hNl d0
  go_wp2
  go_loopw [8, 53] (fun a8 a53 wr => ∃ (i : Nat) (oa : Option Addr) (oc : Nat) (ls : List Lg), a8 = .slice oa i oc ∧ a53 = .int .i64 (i : Int) ∧ i ≤ n ∧ Hid (ls.length = i ∧ wr.ownsRow w3.heap.size 60 3 (.slice oa i oc) i (ls.flatMap lgC) ∧ Below w3.heap.size w3 wr ∧ RxI R (rx i (N.drop i)) ls)) (fun _ a53 _ => n + 1 - (intOf a53).toNat)
  case atStart => exact ⟨0, _, _, [], rfl, rfl, Nat.zero_le _, rfl, World.ownsRow_nil _ _ _ _, Below.refl _ _, by unfold RxI; rw [HR.out, List.drop_zero]; cases rx 0 N <;> simp⟩
  case round =>
    obtain ⟨i, oa, oc, ls, rfl, rfl, hi, HJ⟩ := hrel
    clear HR
    by_cases hlt : i < n
    · have hd : decide ((i : Int) < (n : Int)) = true := decide_eq_true (by omega)
      obtain ⟨nm, hnm⟩ : ∃ nm, N[i]? = some nm := ⟨_, List.getElem?_eq_getElem (by rw [HNl.out]; exact hlt)⟩
      have HSTi := hid_mk (HST i nm hnm)
      obtain ⟨ng, ena, hcn⟩ := HNC.out (by omega)
      subst ena
      have hn0 := hcn i nm hnm
      have hn1 : wr.cell? ⟨ng, i, none⟩ = some (.string nm) := (HJ.out.2.2.1.cell (p := ⟨ng, i, none⟩) (P.lt_of_cell hn0)).trans hn0
      have hbx := HX3.out.below HJ.out.2.2.1
      have x1 := hbx.cell 1 _ rfl
      have hBW : Below W.heap.size W wr := HB3.out.trans (HJ.out.2.2.1.mono HB3.out.size)
      have hw := HW.out wr hBW
      clear hcn hn0 hnm hbx
      go_wp2_with (go_at_call 29; fail)
      refine hw.mono ?_
      rintro e w4 ⟨rfl, hb4⟩
      have HB4 : Hid (Below w3.heap.size w3 w4) := HJ.out.2.2.1.trans (hb4.mono HJ.out.2.2.1.size)
      have HOW : Hid (w4.ownsRow w3.heap.size 60 3 (.slice oa i oc) i (ls.flatMap lgC)) := P.own_below HJ.out.2.1 hb4
      have HLS : Hid (ls.length = i) := HJ.out.1
      have HRX : Hid (RxI R (rx i (N.drop i)) ls) := HJ.out.2.2.2
      have hbx := HX3.out.below HB4.out
      have y0 := hbx.cell 0 _ rfl
      have y2 := hbx.cell 2 _ rfl
      have HBX := hid_mk hbx
      clear hw hb4 HJ hbx x1 hBW hn1
      by_cases hws : ws.size ≠ 0
      · have HS2 : Hid (rx i (N.drop i) = (rx (i + 1) (N.drop (i + 1))).map (⟨nm, ws, imp⟩ :: ·)) := by show _ = _; rw [HSTi.out, if_pos hws]
        have HRN : Hid (RxI R (rx (i + 1) (N.drop (i + 1))) (ls ++ [⟨nm, ws, imp⟩])) := by
          have h1 := HRX.out
          unfold RxI at h1 ⊢
          show R = _
          rw [h1, HS2.out]
          cases rx (i + 1) (N.drop (i + 1)) <;> simp
        have hne := ne_str hws
        have HOA := hid_mk (HOW.out.alloc (.cells #[.string nm, .string ws, .bool imp] 60))
        have HSZ : Hid (w3.heap.size ≤ (w4.alloc (.cells #[.string nm, .string ws, .bool imp] 60)).heap.size) := by
          have := HB4.out.size
          rw [Hid, World.size_alloc]
          omega
        clear hws HSTi HS2 HRX
        go_wp2_with (at_builtin; with_reducible refine wpList_append_lies _ rfl _ _ 31 rfl w3.heap.size 60 i0 (.agg #[.string ⟨#[]⟩, .string ⟨#[]⟩, .bool false]) 3 40 Tryz.underlying31 HI0.out HZ0.out HZ1.out HZ2.out rfl (by decide) (.slice oa i oc) i (ls.flatMap lgC) rfl HOA.out ⟨w4.heap.size, 0, none⟩ 1 1 [.string nm, .string ws, .bool imp] rfl rfl ?c0 ?c1 (by decide) ?c2 ?c3 HSZ.out (w4.heap.size + 1) ?c4 ?_)
        case c0 => exact World.news_of_block (cs := #[.string nm, .string ws, .bool imp]) (t := 60) (fr := (0, 0)) (heap_alloc_new w4 _)
        case c1 => simp [Value.oneCell']
        case c2 => unfold maxLen; omega
        case c3 => omega
        case c4 => simp
        intro gg cap w5 hown hg hgat hglt
        have HN5 : Hid (w5.ownsRow w3.heap.size 60 3 (.slice (some ⟨gg, 0, none⟩) (i + 1) cap) (i + 1) ((ls ++ [(⟨nm, ws, imp⟩ : Lg)]).flatMap lgC) ∧ Below w3.heap.size w3 w5) := by
          refine ⟨by rw [List.flatMap_append]; simpa [lgC] using hown, ?_⟩
          exact (HB4.out.alloc HB4.out.size _).grown hg HSZ.out (fun k hk => (HOW.out.lt k hk).1)
        clear hown hg hgat hglt HOA HSZ
        go_wp2
        refine ⟨⟨i + 1, _, _, ls ++ [⟨nm, ws, imp⟩], rfl, by simp, by omega, by rw [List.length_append, HLS.out]; rfl, HN5.out.1, HN5.out.2, HRN.out⟩, ?_⟩
        simp only [intOf]
        omega
      · have hwe : ws = ⟨#[]⟩ := size_zero (by omega)
        subst hwe
        have HS2 : Hid (rx i (N.drop i) = if qn = 0 then none else if wz i < 0 then none else match po nm (wz i).toNat with
            | none => none
            | some s => (rx (i + 1) (N.drop (i + 1))).map (⟨nm, s, imp⟩ :: ·)) := by show _ = _; rw [HSTi.out, if_neg hws]
        have HENDB : Hid (∀ w, Below w4.heap.size w4 w → Below W.heap.size W w) := fun w hb => HB3.out.trans ((HB4.out.trans (hb.mono HB4.out.size)).mono HB3.out.size)
        have HNO : Hid (rx i (N.drop i) = none → R = []) := fun h => by
          have h1 := HRX.out
          unfold RxI at h1
          rw [h1, h]
          rfl
        clear hws HSTi
        by_cases hq0 : qn = 0
        · have HRR : Hid (R = []) := HNO.out (by rw [HS2.out, if_pos hq0])
          have z0 : ((qn : Int) == 0) = true := by simp [hq0]
          go_wp2
          go_ret
          exact ⟨none, 0, 0, rfl, by rw [HRR.out]; rfl, by rw [HRR.out]; exact LgAt.nil 60 w4, HENDB.out w4 (Below.refl _ _)⟩
        have z0 : ((qn : Int) == 0) = false := by simpa using hq0
        have hwh := HWH.out w4 i (by omega) (by omega)
        go_wp2_with (go_at_call 33; fail)
        refine hwh.mono ?_
        rintro e w' ⟨rfl, rfl⟩
        clear hwh
        by_cases hneg : wz i < 0
        · have HRR : Hid (R = []) := HNO.out (by rw [HS2.out, if_neg hq0, if_pos hneg])
          have zn : decide (wz i < 0) = true := decide_eq_true hneg
          go_wp2
          go_ret
          exact ⟨none, 0, 0, rfl, by rw [HRR.out]; rfl, by rw [HRR.out]; exact LgAt.nil 60 w', HENDB.out w' (Below.refl _ _)⟩
        have hklt := HLT i hq0 hlt hneg
        obtain ⟨k, hk⟩ : ∃ k : Nat, wz i = (k : Int) := ⟨(wz i).toNat, by omega⟩
        rw [hk] at hklt hneg
        have hkq : k < qn := by omega
        have HS3 : Hid (rx i (N.drop i) = match po nm k with
            | none => none
            | some s => (rx (i + 1) (N.drop (i + 1))).map (⟨nm, s, imp⟩ :: ·)) := by
          show _ = _
          rw [HS2.out, if_neg hq0, hk, if_neg (by omega)]
          rfl
        have zn : decide ((k : Int) < 0) = false := decide_eq_false (by omega)
        obtain ⟨qb, qo, eqa, hone⟩ := vs_one (HV3.out.keep HB4.out) k (by rw [← HQN.out]; exact hkq)
        subst eqa
        have hpa := HPA.out w' nm _ k hone
        have hwr1 : IntKind.i64.wrap ((k : Int) + 1) = ((k + 1 : Nat) : Int) := by rw [IntKind.wrap_i64]; omega
        have g1 : k + 1 ≤ qc := by omega
        have g2 : k ≤ k + 1 := by omega
        have g3 : ¬ qc = k := by omega
        have g4 : k + 1 - k = 1 := by omega
        have had : (⟨qb, qo, none⟩ : Addr).add (k * 6) = ⟨qb, qo + k * 6, none⟩ := add_none qb qo (k * 6)
        rw [hk]
        clear hneg hklt HS2 hone
        go_wp2_with (go_at_call 30; fail)
        refine hpa.mono ?_
        rintro e w5 ⟨rfl, hb5⟩
        have HB5 : Hid (Below w3.heap.size w3 w5) := HB4.out.trans (hb5.mono HB4.out.size)
        have HEND5 : Hid (Below W.heap.size W w5) := HENDB.out w5 hb5
        have HOW5 : Hid (w5.ownsRow w3.heap.size 60 3 (.slice oa i oc) i (ls.flatMap lgC)) := P.own_below HOW.out hb5
        have hbx5 := HBX.out.below hb5
        have v2 := hbx5.cell 2 _ rfl
        have HSN : Hid (po nm k = none → R = []) := fun h => HNO.out (by rw [HS3.out, h])
        have HSS : Hid (∀ s, po nm k = some s → RxI R (rx (i + 1) (N.drop (i + 1))) (ls ++ [⟨nm, s, imp⟩])) := fun s h => by
          have h1 := HRX.out
          unfold RxI at h1 ⊢
          rw [h1, HS3.out, h]
          cases rx (i + 1) (N.drop (i + 1)) <;> simp
        clear hpa hb5 HB4 HENDB HOW HBX hbx5 HRX HS3 HNO y0 y2 HPA HWH HST HLT
        generalize po nm k = pv at *
        cases pv with
        | none =>
          rw [Z.res_none]
          have HRR : Hid (R = []) := HSN.out rfl
          clear HSN HSS
          go_wp2
          go_ret
          exact ⟨none, 0, 0, rfl, by rw [HRR.out]; rfl, by rw [HRR.out]; exact LgAt.nil 60 w5, HEND5.out⟩
        | some s =>
          rw [Z.res_some]
          have HRN : Hid (RxI R (rx (i + 1) (N.drop (i + 1))) (ls ++ [⟨nm, s, imp⟩])) := HSS.out s rfl
          have HOA := hid_mk (HOW5.out.alloc (.cells #[.string nm, .string s, .bool imp] 60))
          have HSZ : Hid (w3.heap.size ≤ (w5.alloc (.cells #[.string nm, .string s, .bool imp] 60)).heap.size) := by
            have := HB5.out.size
            rw [Hid, World.size_alloc]
            omega
          clear HSN HSS
          go_wp2_with (at_builtin; with_reducible refine wpList_append_lies _ rfl _ _ 31 rfl w3.heap.size 60 i0 (.agg #[.string ⟨#[]⟩, .string ⟨#[]⟩, .bool false]) 3 40 Tryz.underlying31 HI0.out HZ0.out HZ1.out HZ2.out rfl (by decide) (.slice oa i oc) i (ls.flatMap lgC) rfl HOA.out ⟨w5.heap.size, 0, none⟩ 1 1 [.string nm, .string s, .bool imp] rfl rfl ?c0 ?c1 (by decide) ?c2 ?c3 HSZ.out (w5.heap.size + 1) ?c4 ?_)
          case c0 => exact World.news_of_block (cs := #[.string nm, .string s, .bool imp]) (t := 60) (fr := (0, 0)) (heap_alloc_new w5 _)
          case c1 => simp [Value.oneCell']
          case c2 => unfold maxLen; omega
          case c3 => omega
          case c4 => simp
          intro gg cap w6 hown hg hgat hglt
          have HN6 : Hid (w6.ownsRow w3.heap.size 60 3 (.slice (some ⟨gg, 0, none⟩) (i + 1) cap) (i + 1) ((ls ++ [(⟨nm, s, imp⟩ : Lg)]).flatMap lgC) ∧ Below w3.heap.size w3 w6) := by
            refine ⟨by rw [List.flatMap_append]; simpa [lgC] using hown, ?_⟩
            exact (HB5.out.alloc HB5.out.size _).grown hg HSZ.out (fun k hk => (HOW5.out.lt k hk).1)
          clear hown hg hgat hglt HOA HSZ
          go_wp2
          refine ⟨⟨i + 1, _, _, ls ++ [⟨nm, s, imp⟩], rfl, by simp, by omega, by rw [List.length_append, HLS.out]; rfl, HN6.out.1, HN6.out.2, HRN.out⟩, ?_⟩
          simp only [intOf]
          omega
    · have hd : decide ((i : Int) < (n : Int)) = false := decide_eq_false (by omega)
      have hin : i = n := by omega
      subst hin
      have HRR : Hid (R = ls) := by
        have h1 := HJ.out.2.2.2
        unfold RxI at h1
        rw [HRX0.out i (Nat.le_refl _)] at h1
        show R = ls
        simpa using h1
      have HEND : Hid (Below W.heap.size W wr) := HB3.out.trans (HJ.out.2.2.1.mono HB3.out.size)
      go_wp2
      go_ret
      refine ⟨oa, i, oc, rfl, by rw [HRR.out]; exact HJ.out.1.symm, ?_, HEND.out⟩
      rw [HRR.out]
      have h1 := own_any HJ.out.2.1
      unfold LgAt
      rw [HJ.out.1]
      exact h1
theorem rexpand_any {P0 : Nat → Prop} {W : World} {v : Value} {vs : List V} (name : ByteArray) (imp : Bool) (hv : VsAt P0 W v vs) (hm : vs.length ≤ 1954687338211) (hz : ∀ y ∈ vs, y.tok.tx.size ≤ 100000 ∧ y.tok.un.size ≤ 100000) :
    Calls Tryz.prog 12 #[.agg #[.string name, v, .bool imp]] W fun e w' => ∃ a n c, e = .returned (.slice a n c) ∧ n = (expO name vs imp).length ∧ LgAt 60 w' (.slice a n c) (expO name vs imp) ∧ Below W.heap.size W w' := by
  rw [exp_eq]
  by_cases hp : 0 ≤ P.plc name
  · exact rexp_long name imp hv hm hz hp
  · exact rexp_short name imp hv hm hz hp
end Go.Proofs.YtlhdapckenjigaaGreatDoor.S
