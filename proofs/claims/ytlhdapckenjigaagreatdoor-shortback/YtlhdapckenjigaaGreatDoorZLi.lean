/- value.single: the one value of a list. value.Parse. The values of a text: gouachelaw15.values; value.Wide. value.Wide; what is small. The document's examples of layer 15; gouachelaw15.ValueInitial: the walk. -/
import Derived.Test.YtlhdapckenjigaaGreatDoorZAs
import Derived.Test.YtlhdapckenjigaaGreatDoorToks
namespace Go.Proofs.YtlhdapckenjigaaGreatDoor.Z
open Go.RowKit
open Go.Proofs.YtlhdapckenjigaaGreatDoor.L (T5 V VsAt t5Cells vCells cell_of_heap)
set_option maxRecDepth 100000

def c6 (t : T5) (kid : Value) : Array Value := #[.int .i64 t.k, .string t.tx, .string t.un, .bool t.wh, .bool t.fl, kid]
def t0 : T5 := ⟨0, ⟨#[]⟩, ⟨#[]⟩, false, false⟩
theorem results27 (tmps : Array Value) (w : World) (b : Nat) (r : Bool) (t : T5) (kid : Value) (h2 : tmps[2]? = some (.pointer (some ⟨b, 0, none⟩))) (h3 : tmps[3]? = some (.bool r))
    (r0 : w.cell? ⟨b, 0, none⟩ = some (.int .i64 t.k)) (r1 : w.cell? ⟨b, 1, none⟩ = some (.string t.tx)) (r2 : w.cell? ⟨b, 2, none⟩ = some (.string t.un)) (r3 : w.cell? ⟨b, 3, none⟩ = some (.bool t.wh)) (r4 : w.cell? ⟨b, 4, none⟩ = some (.bool t.fl)) (r5 : w.cell? ⟨b, 5, none⟩ = some kid) :
    (results Tryz.f71 tmps).run Tryz.prog w = .ok (.tuple #[.agg (c6 t kid), .bool r]) w := by
  simp [results, Tryz.f71, go_sem, h2, h3, r0, r1, r2, r3, r4, r5, c6]
theorem st6 {W w : World} {b t : Nat} {cs : Array Value} (v0 v1 v2 v3 v4 v5 : Value) (hcs : cs.size = 6) (h4 : P.Bx W b t cs) (hw : w.heap.size ≤ b) (h5 : Below w.heap.size w W) (W' : World)
    (hW : W' = (((((W.setCell ⟨b, 0, none⟩ v0).setCell ⟨b, 1, none⟩ v1).setCell ⟨b, 2, none⟩ v2).setCell ⟨b, 3, none⟩ v3).setCell ⟨b, 4, none⟩ v4).setCell ⟨b, 5, none⟩ v5) :
    P.Bx W' b t #[v0, v1, v2, v3, v4, v5] ∧ Below w.heap.size w W' := by
  subst hW
  have e : (((((cs.setIfInBounds 0 v0).setIfInBounds 1 v1).setIfInBounds 2 v2).setIfInBounds 3 v3).setIfInBounds 4 v4).setIfInBounds 5 v5 = #[v0, v1, v2, v3, v4, v5] := by
    obtain ⟨l⟩ := cs
    match l, hcs with
    | [a, b, c, d, e, f], _ => rfl
  rw [← e]
  exact ⟨(((((h4.set 0 v0).set 1 v1).set 2 v2).set 3 v3).set 4 v4).set 5 v5, (((((h5.setCell (p := ⟨b, 0, none⟩) (by simpa using hw) v0).setCell (p := ⟨b, 1, none⟩) (by simpa using hw) v1).setCell (p := ⟨b, 2, none⟩) (by simpa using hw) v2).setCell (p := ⟨b, 3, none⟩) (by simpa using hw) v3).setCell (p := ⟨b, 4, none⟩) (by simpa using hw) v4).setCell (p := ⟨b, 5, none⟩) (by simpa using hw) v5⟩
/-- What single tells. -/
def SinP (vs : List V) (B : Nat) (W : World) (e : Ending) (w' : World) : Prop :=
  ∃ t ka kn kc r, e = .returned (.tuple #[.agg #[.int .i64 t.k, .string t.tx, .string t.un, .bool t.wh, .bool t.fl, .slice ka kn kc], .bool r]) ∧ ((oneO vs).map fun x => (x.tok, x.kids.length)) = (if r then some (t, kn) else none) ∧ Below B W w'
set_option maxHeartbeats 2000000 in
theorem single_any {P0 : Nat → Prop} {W : World} {v : Value} {vs : List V} (hv : VsAt P0 W v vs) (hm : Y.V.most vs) : Calls Tryz.prog 71 #[v] W (SinP vs W.heap.size W) := by
  have hB0 : Below W.heap.size W (W.alloc (.cells (c6 t0 (.slice none 0 0)) 57)) := (Below.refl _ W).alloc (Nat.le_refl _) _
  have hX0 : P.Bx (W.alloc (.cells (c6 t0 (.slice none 0 0)) 57)) W.heap.size 57 (c6 t0 (.slice none 0 0)) := P.Bx.new _ _ _
  have htr := Y.ptrim_any (hv.keep hB0) hm
  have HO : Hid (oneO vs = match Y.trimZ vs with | [x] => some x | _ => none) := rfl
  generalize Y.trimZ vs = tv at *
  obtain ⟨va, vc, rfl, _, _⟩ := hv.slice
  generalize vs.length = vn at *
  clear hv hm
  go_enter Tryz.func71, Tryz.ntmps71
  go_wp2_with (go_at_call 107; fail)
  refine htr.mono ?_
  rintro e w2 ⟨o, rfl, ho, hb⟩
  have hX := hX0.below hb
  have hB := hB0.trans (hb.mono hB0.size)
  clear htr hB0 hX0 hb
  have r0 : w2.cell? ⟨W.heap.size, 0, none⟩ = some (.int .i64 0) := hX.cell 0 _ rfl
  have r1 : w2.cell? ⟨W.heap.size, 1, none⟩ = some (.string ⟨#[]⟩) := hX.cell 1 _ rfl
  have r2 : w2.cell? ⟨W.heap.size, 2, none⟩ = some (.string ⟨#[]⟩) := hX.cell 2 _ rfl
  have r3 : w2.cell? ⟨W.heap.size, 3, none⟩ = some (.bool false) := hX.cell 3 _ rfl
  have r4 : w2.cell? ⟨W.heap.size, 4, none⟩ = some (.bool false) := hX.cell 4 _ rfl
  have r5 : w2.cell? ⟨W.heap.size, 5, none⟩ = some (.slice none 0 0) := hX.cell 5 _ rfl
  have f0 := hX.frozen 0
  have f1 := hX.frozen 1
  have f2 := hX.frozen 2
  have f3 := hX.frozen 3
  have f4 := hX.frozen 4
  have f5 := hX.frozen 5
  have HX := L.hid_mk hX
  have HB := L.hid_mk hB
  clear hX hB
  have hcase : (∃ x a cap b off ka kc, tv = [x] ∧ o = .slice (some ⟨b, off, none⟩) 1 cap ∧ a = off ∧ 1 ≤ cap ∧ cap ≤ 9223372036854775807 ∧ w2.cell? ⟨b, off, none⟩ = some (.int .i64 x.tok.k) ∧ w2.cell? ⟨b, off + 1, none⟩ = some (.string x.tok.tx) ∧ w2.cell? ⟨b, off + 2, none⟩ = some (.string x.tok.un) ∧ w2.cell? ⟨b, off + 3, none⟩ = some (.bool x.tok.wh) ∧ w2.cell? ⟨b, off + 4, none⟩ = some (.bool x.tok.fl) ∧ w2.cell? ⟨b, off + 5, none⟩ = some (.slice ka x.kids.length kc)) ∨ (tv.length ≠ 1 ∧ ∃ a cap, o = .slice a tv.length cap) := by
    cases ho with
    | mk a cap tv b off kv h1 h2 ha hc hr =>
      by_cases hl : tv.length = 1
      · obtain ⟨x, rfl⟩ := List.length_eq_one_iff.1 hl
        obtain ⟨rfl, _, _⟩ := ha (by simp)
        obtain ⟨ka, kc, ek, _, _⟩ := (hr 0 (by simp)).slice
        have hc0 := hc 0 (by simp)
        rw [ek] at hc0
        simp only [Nat.zero_mul, Nat.add_zero] at hc0
        exact .inl ⟨x, _, cap, b, off, ka, kc, rfl, rfl, rfl, by simpa using h1, h2, hc0 0 _ rfl, hc0 1 _ rfl, hc0 2 _ rfl, hc0 3 _ rfl, hc0 4 _ rfl, hc0 5 _ rfl⟩
      · exact .inr ⟨hl, a, cap, rfl⟩
  clear ho
  rcases hcase with ⟨x, _, cap, b, off, ka, kc, rfl, rfl, -, h1, h2, q0, q1, q2, q3, q4, q5⟩ | ⟨hl, a, cap, rfl⟩
  · have HN : Hid (((oneO vs).map fun x => (x.tok, x.kids.length)) = some (x.tok, x.kids.length)) := by
      show _ = _
      rw [HO.out]
      rfl
    clear HO
    generalize x.kids.length = kn at *
    generalize x.tok = t at *
    obtain ⟨k, tx, un, wh, fl⟩ := t
    simp only at q0 q1 q2 q3 q4
    go_wp2
    obtain ⟨g1, g2⟩ := st6 (.int .i64 k) (.string tx) (.string un) (.bool wh) (.bool fl) (.slice ka kn kc) rfl HX.out (Nat.le_refl _) HB.out _ rfl
    exact bodyPost_ret (results27 _ _ W.heap.size true ⟨k, tx, un, wh, fl⟩ (.slice ka kn kc) rfl rfl (g1.cell 0 _ rfl) (g1.cell 1 _ rfl) (g1.cell 2 _ rfl) (g1.cell 3 _ rfl) (g1.cell 4 _ rfl) (g1.cell 5 _ rfl)) rfl ⟨⟨k, tx, un, wh, fl⟩, ka, kn, kc, true, rfl, HN.out, g2⟩
  · have HN : Hid (((oneO vs).map fun x => (x.tok, x.kids.length)) = none) := by
      show _ = _
      rw [HO.out]
      split
      · exact absurd rfl hl
      · rfl
    have hl1 : ((tv.length : Int) != 1) = true := by simpa using (by omega : (tv.length : Int) ≠ 1)
    clear HO hl
    generalize tv.length = tn at *
    go_wp2
    obtain ⟨g1, g2⟩ := st6 (.int .i64 0) (.string ⟨#[]⟩) (.string ⟨#[]⟩) (.bool false) (.bool false) (.slice none 0 0) rfl HX.out (Nat.le_refl _) HB.out _ rfl
    exact bodyPost_ret (results27 _ _ W.heap.size false t0 (.slice none 0 0) rfl rfl (g1.cell 0 _ rfl) (g1.cell 1 _ rfl) (g1.cell 2 _ rfl) (g1.cell 3 _ rfl) (g1.cell 4 _ rfl) (g1.cell 5 _ rfl)) rfl ⟨t0, none, 0, 0, false, rfl, HN.out, g2⟩
end Go.Proofs.YtlhdapckenjigaaGreatDoor.Z
namespace Go.Proofs.YtlhdapckenjigaaGreatDoor.Z
open Go.RowKit
open Go.Proofs.YtlhdapckenjigaaGreatDoor.L (T5 V VsAt t5Cells vCells cell_of_heap)
set_option maxRecDepth 100000

theorem T_forms : P.T.all (fun p => (P.prts p.f).all (fun x => decide (x.size ≤ 1000)) && decide (p.f.size ≤ 100)) = true := by kernel_rfl
theorem prc_forms (name : ByteArray) : (P.prc name).f.size ≤ 1000 ∧ ∀ x ∈ P.prts (P.prc name).f, x.size ≤ 1000 := by
  rcases P.fnd_cases name with ⟨_, h⟩ | ⟨k, p, _, _, h, hp⟩
  · rw [h]
    exact ⟨by decide, by decide⟩
  · rw [h]
    have h1 := List.all_eq_true.1 T_forms p (List.mem_of_getElem? hp)
    rw [Bool.and_eq_true] at h1
    have h2 := List.all_eq_true.1 h1.1
    have h3 := of_decide_eq_true h1.2
    exact ⟨by omega, fun x hx => of_decide_eq_true (h2 x hx)⟩
def frmO (t : T5) (kn : Nat) (L : List ByteArray) : Option ByteArray := L.findSome? fun f => partO f t kn
theorem frm_cons (t : T5) (kn : Nat) (f : ByteArray) (L : List ByteArray) : frmO t kn (f :: L) = match partO f t kn with | some s => some s | none => frmO t kn L := by
  unfold frmO
  rw [List.findSome?_cons]
  cases partO f t kn <;> rfl
set_option maxHeartbeats 4000000 in
theorem parse_any {P0 : Nat → Prop} {W : World} {v : Value} {vs : List V} (name : ByteArray) (hv : VsAt P0 W v vs) (hm : Y.V.most vs) (hz : ∀ y ∈ vs, y.tok.tx.size ≤ 100000 ∧ y.tok.un.size ≤ 100000) (hok : Ok W) :
    Calls Tryz.prog 45 #[.string name, v] W fun e w' => e = .returned (res (parseO name vs)) ∧ Below W.heap.size W w' := by
  have hf := P.find_any name W
  have HR : Hid (parseO name vs = if P.plc name < 0 then none else match oneO vs with | none => none | some x => frmO x.tok x.kids.length (P.prts (P.prc name).f)) := rfl
  obtain ⟨hfs, hfx⟩ := prc_forms name
  have HONE : Hid (∀ x, oneO vs = some x → x.tok.tx.size ≤ 100000 ∧ x.tok.un.size ≤ 100000) := fun x hx => by
    unfold oneO at hx
    split at hx
    · rename_i y hy
      cases hx
      exact hz _ (Y.trim_sub vs _ (by rw [hy]; simp))
    · cases hx
  have HFO : Hid (∀ w, Below W.heap.size W w → Calls Tryz.prog 75 #[.agg (P.c4 (P.prc name))] w fun e w' => (∃ a c, e = .returned (.slice a (P.prts (P.prc name).f).length c) ∧ P.StrAt w' (.slice a (P.prts (P.prc name).f).length c) (P.prts (P.prc name).f)) ∧ Below w.heap.size w w') := fun w hb => P.forms_any (P.prc name) w (hok.max.keep hb) hfs
  have HSI : Hid (∀ w, Below W.heap.size W w → Calls Tryz.prog 71 #[v] w (SinP vs w.heap.size w)) := fun w hb => single_any (hv.keep hb) hm
  have HOK : Hid (∀ w, Below W.heap.size W w → Ok w) := fun w hb => hok.keep hb
  obtain ⟨va, vc, rfl, _, _⟩ := hv.slice
  have HFX := L.hid_mk hfx
  generalize hL : P.prts (P.prc name).f = FL at *
  generalize hR : parseO name vs = R at *
  generalize P.prc name = p at *
  generalize P.plc name = pl at *
  generalize vs.length = vn at *
  obtain ⟨pn, pi, ph, pf⟩ := p
  clear hv hm hz hok hfx hfs hL hR
  go_enter Tryz.func45, Tryz.ntmps45
  go_wp2_with (go_at_call 41; fail)
  refine hf.mono ?_
  rintro e w1 ⟨rfl, hb1⟩
  have hBa : Below W.heap.size W (w1.alloc (.cells #[.string pn, .string pi, .bool ph, .string pf] 83)) := hb1.alloc hb1.size _
  have hX1 := P.Bx.new w1 83 #[.string pn, .string pi, .bool ph, .string pf]
  have hs := HSI.out _ hBa
  clear hf hb1
  go_wp2_with (go_at_call 71; fail)
  refine hs.mono ?_
  rintro e w2 ⟨t, ka, kn, kc, r, rfl, hone, hb2⟩
  have hX2 := hX1.below hb2
  have hB2 := hBa.trans (hb2.mono hBa.size)
  obtain ⟨k, tx, un, wh, fl⟩ := t
  have hBb : Below W.heap.size W (w2.alloc (.cells #[.int .i64 k, .string tx, .string un, .bool wh, .bool fl, .slice ka kn kc] 57)) := hB2.alloc hB2.size _
  have hX3 := hX2.alloc (.cells #[.int .i64 k, .string tx, .string un, .bool wh, .bool fl, .slice ka kn kc] 57)
  have hY3 := P.Bx.new w2 57 #[.int .i64 k, .string tx, .string un, .bool wh, .bool fl, .slice ka kn kc]
  have HONE2 := L.hid_mk hone
  clear hs hX1 hX2 hBa hb2 hB2 HSI hone
  by_cases hp : pl < 0
  · have HN : Hid (R = none) := by show _ = _; rw [HR.out, if_pos hp]
    have hd : decide (0 ≤ pl) = false := decide_eq_false (by omega)
    have HB := L.hid_mk hBb
    clear HR hX3 hY3 hBb
    go_wp2
    go_ret2
    exact ⟨by rw [HN.out]; rfl, HB.out⟩
  · have hd : decide (0 ≤ pl) = true := decide_eq_true (by omega)
    cases r with
    | false =>
      have HN : Hid (R = none) := by
        show _ = _
        have h1 := HONE2.out
        simp only [Bool.false_eq_true, if_false, Option.map_eq_none_iff] at h1
        rw [HR.out, if_neg hp, h1]
      have HB := L.hid_mk hBb
      clear HR hX3 hY3 hBb
      go_wp2
      go_ret2
      exact ⟨by rw [HN.out]; rfl, HB.out⟩
    | true =>
      obtain ⟨x, hx, hxt⟩ : ∃ x, oneO vs = some x ∧ (x.tok, x.kids.length) = ((⟨k, tx, un, wh, fl⟩ : T5), kn) := by
        have h1 := HONE2.out
        simp only [if_true, Option.map_eq_some_iff] at h1
        exact h1
      have hsz := HONE.out x hx
      obtain ⟨e1, e2⟩ := Prod.mk.inj hxt
      have HN : Hid (R = frmO ⟨k, tx, un, wh, fl⟩ kn FL) := by
        show _ = _
        rw [HR.out, if_neg hp, hx]
        show frmO x.tok x.kids.length FL = _
        rw [e1, e2]
      rw [e1] at hsz
      clear HR HONE HONE2 hx hxt e1 e2
      have hq1 := hX3.cell 0 _ rfl
      have hq2 := hX3.cell 1 _ rfl
      have hq3 := hX3.cell 2 _ rfl
      have hq4 := hX3.cell 3 _ rfl
      have hfo := HFO.out _ hBb
      have HBb := L.hid_mk hBb
      have HY3 := L.hid_mk hY3
      clear HFO hX3 hY3 hBb hp
      go_wp2_with (go_at_call 75; fail)
      refine hfo.mono ?_
      rintro e w4 ⟨⟨a, c, rfl, hst⟩, hb4⟩
      have HB4 : Hid (Below W.heap.size W w4) := HBb.out.trans (hb4.mono HBb.out.size)
      have HY4 : Hid (P.Bx w4 w2.heap.size 57 #[.int .i64 k, .string tx, .string un, .bool wh, .bool fl, .slice ka kn kc]) := HY3.out.below hb4
      obtain ⟨a', cap, ea, hcl, hcm, hcell⟩ := hst.form
      cases ea
      have HC := L.hid_mk hcell
      clear hfo hst hb4 HBb HY3 hq1 hq2 hq3 hq4 hcell
      have hFL : FL.length ≤ 9223372036854775807 := by omega
      go_wp2
      go_loopw [33] (fun a33 wr => ∃ i : Nat, i ≤ FL.length ∧ a33 = .int .i64 (i : Int) ∧ Hid (Below w4.heap.size w4 wr) ∧ Hid (R = frmO ⟨k, tx, un, wh, fl⟩ kn (FL.drop i))) (fun a33 _ => FL.length + 1 - (intOf a33).toNat)
      case atStart => exact ⟨0, Nat.zero_le _, rfl, Below.refl _ _, HN⟩
      case round =>
        obtain ⟨i, hi, rfl, HBr, HE⟩ := hrel
        clear HN
        by_cases hlt : i < FL.length
        · have hd1 : decide ((i : Int) < (FL.length : Int)) = true := decide_eq_true (by omega)
          obtain ⟨g, ega, hcl2⟩ := HC.out (by omega)
          obtain ⟨f, hfi⟩ : ∃ f, FL[i]? = some f := ⟨_, List.getElem?_eq_getElem hlt⟩
          have hfs : f.size ≤ 1000 := HFX.out f (List.mem_of_getElem? hfi)
          have hc1 := hcl2 i f hfi
          have hcf : wr.cell? ⟨g, i, none⟩ = some (.string f) := (HBr.out.cell (p := ⟨g, i, none⟩) (P.lt_of_cell hc1)).trans hc1
          have hy := HY4.out.below HBr.out
          have y0 := hy.cell 0 _ rfl
          have y1 := hy.cell 1 _ rfl
          have y2 := hy.cell 2 _ rfl
          have y3 := hy.cell 3 _ rfl
          have y4 := hy.cell 4 _ rfl
          have y5 := hy.cell 5 _ rfl
          have HEND : Hid (Below W.heap.size W wr) := HB4.out.trans (HBr.out.mono HB4.out.size)
          have hpa := part_any f ⟨k, tx, un, wh, fl⟩ ka kn kc (by omega) hsz.1 (Nat.le_trans hsz.2 (by decide)) wr (HOK.out wr HEND.out)
          have HD : Hid (R = match partO f ⟨k, tx, un, wh, fl⟩ kn with | some s => some s | none => frmO ⟨k, tx, un, wh, fl⟩ kn (FL.drop (i + 1))) := by
            show _ = _
            rw [HE.out, drop_at hfi, frm_cons]
          have hpa : Calls Tryz.prog 76 #[.string f, .agg #[.int .i64 k, .string tx, .string un, .bool wh, .bool fl, .slice ka kn kc]] wr _ := hpa
          subst ega
          clear hy HC hcl2 hc1 HE hfi hfs HFX HOK
          cases ho : partO f ⟨k, tx, un, wh, fl⟩ kn with
          | some so =>
            rw [ho] at hpa HD
            have HZ : Hid (R = some so) := HD.out
            rw [res_some] at hpa
            clear HD
            go_wp2_with (go_at_call 76; fail)
            refine hpa.mono ?_
            rintro e w5 ⟨rfl, hb5⟩
            have HE5 : Hid (Below W.heap.size W w5) := HEND.out.trans (hb5.mono HEND.out.size)
            clear hpa hb5
            go_wp2
            go_ret2
            exact ⟨by rw [HZ.out]; rfl, HE5.out⟩
          | none =>
            rw [ho] at hpa HD
            have HZ : Hid (R = frmO ⟨k, tx, un, wh, fl⟩ kn (FL.drop (i + 1))) := HD.out
            rw [res_none] at hpa
            clear HD
            go_wp2_with (go_at_call 76; fail)
            refine hpa.mono ?_
            rintro e w5 ⟨rfl, hb5⟩
            have HE5 : Hid (Below w4.heap.size w4 w5) := HBr.out.trans (hb5.mono HBr.out.size)
            clear hpa hb5
            go_wp2
            exact ⟨⟨i + 1, by omega, by go_num, HE5, HZ⟩, by simp only [intOf]; omega⟩
        · have hie : i = FL.length := by omega
          have HZ : Hid (R = none) := by show _ = _; rw [HE.out, hie, List.drop_length]; rfl
          have HEND : Hid (Below W.heap.size W wr) := HB4.out.trans (HBr.out.mono HB4.out.size)
          have hd1 : decide ((i : Int) < (FL.length : Int)) = false := decide_eq_false (by omega)
          clear HE hie HBr HC
          go_wp2
          go_ret2
          exact ⟨by rw [HZ.out]; rfl, HEND.out⟩
end Go.Proofs.YtlhdapckenjigaaGreatDoor.Z
namespace Go.Proofs.YtlhdapckenjigaaGreatDoor.Z
open Go.RowKit
open Go.Proofs.YtlhdapckenjigaaGreatDoor.L (T5 V VsAt t5Cells vCells cell_of_heap)
set_option maxRecDepth 100000

theorem own_sl {W : World} {B : Nat} {T : TypeId} {s n : Nat} {v : Value} {xs : List Value} (h : W.ownsRow B T s v n xs) : ∃ a m c, v = .slice a m c := by
  rcases h.2 with ⟨rfl, _⟩ | ⟨g, cap, cur, rfl, _⟩
  · exact ⟨_, _, _, rfl⟩
  · exact ⟨_, _, _, rfl⟩
theorem own_news {W : World} {B : Nat} {T : TypeId} {s n c : Nat} {ad : Addr} {xs : List Value} (h : W.ownsRow B T s (.slice (some ad) n c) n xs) : ∀ j u, xs[j]? = some u → W.cell? (ad.add j) = some u := fun j u hu => by
  rcases h.2 with ⟨e, _⟩ | ⟨g, cap, cur, e, h1, h2, h3, h4, h5, h6⟩
  · cases e
  · cases e
    have hlt : j < n * s := by
      have := (List.getElem?_eq_some_iff.1 hu).1
      have := h.1
      omega
    rw [← h6, List.getElem?_take_of_lt hlt] at hu
    rw [Addr.add_mid, Nat.zero_add]
    simp only [World.cell?, h2]
    simpa using hu
theorem charsFrom_len (s : ByteArray) : ∀ (f pos : Nat), (charsFrom s f pos).length ≤ f
  | 0, _ => by simp [charsFrom]
  | f + 1, pos => by
    rw [charsFrom]
    split
    · have := charsFrom_len s f (pos + (Utf8.decode s pos).2)
      simp only [List.length_cons]
      omega
    · simp
theorem norm_len : ∀ (l : List Int) (last : Int), (normZ last l).length ≤ l.length
  | [], last => by simp [normZ]
  | c :: r, last => by
    have h1 := norm_len r c
    rw [normZ]
    split
    · simp only [List.length_cons]; omega
    · simp only [List.length_cons]; omega
theorem runes_len (s : ByteArray) : (runesZ s).length ≤ s.size := Nat.le_trans (norm_len _ _) (charsFrom_len s _ _)
theorem runes_fine (s : ByteArray) (hs : s.size ≤ 1000000000) : Fine (runesZ s) := ⟨Nat.le_trans (runes_len s) hs, fun c hc => (runes_told s c hc).1⟩
def toT5 (t : Tok) : T5 := ⟨t.kind, strT t.text, strT t.unit, t.whole, t.flag⟩
/-- The values of a text. -/
def valsS (s : ByteArray) : List V := Y.valsZ ((toks (runesZ s)).map toT5)
theorem toks_at : ∀ {ts : List Tok} {i : Nat} (h : i < ts.length) (j : Nat) (y : Value), (t5Cells (toT5 (ts[i]'h)))[j]? = some y → (ts.flatMap tokCells)[i * 5 + j]? = some y
  | t :: r, 0, _, j, y, hy => by
    have hy : (tokCells t)[j]? = some y := hy
    rw [List.flatMap_cons, Nat.zero_mul, Nat.zero_add, List.getElem?_append_left (List.getElem?_eq_some_iff.1 hy).1]
    exact hy
  | t :: r, i + 1, h, j, y, hy => by
    have hl : (tokCells t).length = 5 := rfl
    rw [List.flatMap_cons, List.getElem?_append_right (by omega), hl, show (i + 1) * 5 + j - 5 = i * 5 + j by omega]
    exact toks_at (ts := r) (i := i) (by simpa using h) j y hy
theorem outs_ts {B : Nat} {w : World} {out : Value} {ts : List Tok} (h : Outs B w out ts) : Y.TsAt w out (ts.map toT5) := by
  have hl : (ts.map toT5).length = ts.length := List.length_map ..
  rcases h.2 with ⟨rfl, e⟩ | ⟨g, cap, cur, rfl, h1, h2, h3, h4, h5, h6⟩
  · exact ⟨none, 0, by rw [hl, e], by rw [hl, e]; exact Nat.le_refl _, by decide, fun h0 => by rw [hl, e] at h0; omega⟩
  · refine ⟨_, cap, by rw [hl], by rw [hl]; exact h3, h4, fun _ => ⟨g, 0, rfl, (Array.getElem?_eq_some_iff.1 h2).1, fun i hi j y hy => ?_⟩⟩
    have hi' : i < ts.length := by rw [← hl]; exact hi
    rw [List.getElem_map] at hy
    have h7 := own_news h (i * 5 + j) y (toks_at hi' j y hy)
    rw [Addr.add_mid] at h7
    rw [Nat.add_assoc]
    exact h7

set_option maxHeartbeats 1000000 in
theorem values_any (s : ByteArray) (W : World) (hs : s.size ≤ 65536) (hn : (toks (runesZ s)).length ≤ 100000) :
    Calls Tryz.prog 21 #[.string s] W fun e w' => ∃ u, e = .returned u ∧ VsAt (fun _ => True) w' u (valsS s) ∧ Below W.heap.size W w' := by
  obtain ⟨g, cap, W1, hcv, hcap, hg, hcell, _, hB⟩ := bytesOf s W
  have hba : BytesAt W1 (.slice (some ⟨g, 0, none⟩) s.size cap) s := ⟨_, _, rfl, hcap, fun _ => ⟨g, 0, rfl, fun j hj => by simpa using hcell j hj⟩⟩
  have hru := runes_any _ s W1 (by omega) hba
  have HFI := L.hid_mk (runes_fine s (by omega))
  have HNN := L.hid_mk hn
  have HVS : Hid (valsS s = Y.valsZ ((toks (runesZ s)).map toT5)) := rfl
  generalize valsS s = vs at *
  have HB := L.hid_mk hB
  clear hcell hba hB hn
  go_enter Tryz.func21, Tryz.ntmps21
  go_wp2_with (go_at_call 40; fail)
  refine hru.mono ?_
  rintro e w2 ⟨u, rfl, hown, hb2⟩
  have hrow := RowAt.own hown
  obtain ⟨a, c2, hu⟩ : ∃ a c2, u = .slice a (runesZ s).length c2 := by
    rcases hown.2 with ⟨hv, hz⟩ | ⟨g2, c2, cur, hv, _⟩
    · exact ⟨none, 0, by rw [hv, hz]⟩
    · exact ⟨_, c2, hv⟩
  have hlow : ∀ ad, a = some ad → ad.block < w2.heap.size := by
    intro ad e
    rcases hown.2 with ⟨hv, _⟩ | ⟨g2, c3, cur, hv, _, hg2, _⟩
    · rw [hv, e] at hu; cases hu
    · rw [hv, e] at hu
      cases hu
      exact (Array.getElem?_eq_some_iff.1 hg2).1
  subst hu
  have ht := tokens_any a c2 (runesZ s) w2 HFI.out hrow hlow
  have HB2 : Hid (Below W.heap.size W w2) := HB.out.trans (hb2.mono HB.out.size)
  generalize runesZ s = xs at *
  clear hru hown hrow hlow hb2 HB
  go_wp2_with (go_at_call 39; fail)
  refine ht.mono ?_
  rintro e w3 ⟨out, rfl, ho, hb3⟩
  have hvl := Y.values_any (outs_ts ho) (by rw [List.length_map]; exact HNN.out)
  rw [← HVS.out] at hvl
  have HB3 : Hid (Below W.heap.size W w3) := HB2.out.trans (hb3.mono HB2.out.size)
  obtain ⟨oa, on, oc, rfl⟩ := own_sl ho
  clear ht ho hb3
  go_wp2_with (go_at_call 38; fail)
  refine hvl.mono ?_
  rintro e w4 ⟨vo, rfl, hvo, hb4⟩
  have hB4 : Below W.heap.size W w4 := HB3.out.trans (hb4.mono HB3.out.size)
  have HVO : Hid (VsAt (fun _ => True) w4 vo vs) := hvo.wider (fun _ _ _ => trivial)
  obtain ⟨va, vc, rfl, _, _⟩ := hvo.slice
  have HB4 := L.hid_mk hB4
  clear hvl hvo hb4 hB4
  go_wp2
  go_ret
  exact ⟨_, rfl, HVO.out, HB4.out⟩
end Go.Proofs.YtlhdapckenjigaaGreatDoor.Z
namespace Go.Proofs.YtlhdapckenjigaaGreatDoor.Z
open Go.RowKit
open Go.Proofs.YtlhdapckenjigaaGreatDoor.L (T5 V VsAt t5Cells vCells cell_of_heap)
set_option maxRecDepth 100000

def smB : Nat → List V → Bool
  | 0, _ => false
  | f + 1, vs => decide (vs.length ≤ 1000) && vs.all fun x => decide (x.tok.tx.size ≤ 1000) && decide (x.tok.un.size ≤ 1000) && smB f x.kids
theorem smB_most : ∀ (f : Nat) (vs : List V), smB f vs = true → Y.V.most vs ∧ ∀ y ∈ vs, y.tok.tx.size ≤ 100000 ∧ y.tok.un.size ≤ 100000
  | 0, _, h => by cases h
  | f + 1, vs, h => by
    unfold smB at h
    rw [Bool.and_eq_true] at h
    have h1 := of_decide_eq_true h.1
    have h2 := List.all_eq_true.1 h.2
    have h3 : ∀ x ∈ vs, x.tok.tx.size ≤ 1000 ∧ x.tok.un.size ≤ 1000 ∧ smB f x.kids = true := fun x hx => by
      have := h2 x hx
      rw [Bool.and_eq_true, Bool.and_eq_true] at this
      exact ⟨of_decide_eq_true this.1.1, of_decide_eq_true this.1.2, this.2⟩
    exact ⟨.mk vs (by omega) fun x hx => (smB_most f x.kids (h3 x hx).2.2).1, fun y hy => ⟨by have := (h3 y hy).1; omega, by have := (h3 y hy).2.1; omega⟩⟩
set_option maxHeartbeats 2000000 in
theorem wide_any {P0 : Nat → Prop} {W : World} {v : Value} {vs : List V} (hv : VsAt P0 W v vs) (hm : Y.V.most vs) (hz : ∀ y ∈ vs, y.tok.tx.size ≤ 100000 ∧ y.tok.un.size ≤ 100000) :
    Calls Tryz.prog 42 #[v] W fun e w' => e = .returned (.string (wideS vs)) ∧ Below W.heap.size W w' := by
  have hs := single_any hv hm
  have HR : Hid (wideS vs = match oneO vs with | none => noS | some x => if x.tok.k = 1 ∧ ((foldS x.tok.tx).toList = [105, 110, 104, 101, 114, 105, 116] ∨ (foldS x.tok.tx).toList = [105, 110, 105, 116, 105, 97, 108] ∨ (foldS x.tok.tx).toList = [117, 110, 115, 101, 116]) then foldS x.tok.tx else noS) := rfl
  have HONE : Hid (∀ x, oneO vs = some x → x.tok.tx.size ≤ 100000 ∧ x.tok.un.size ≤ 100000) := fun x hx => by
    unfold oneO at hx
    split at hx
    · rename_i y hy
      cases hx
      exact hz _ (Y.trim_sub vs _ (by rw [hy]; simp))
    · cases hx
  obtain ⟨va, vc, rfl, _, _⟩ := hv.slice
  generalize wideS vs = R at *
  generalize vs.length = vn at *
  clear hv hm hz
  go_enter Tryz.func42, Tryz.ntmps42
  go_wp2_with (go_at_call 71; fail)
  refine hs.mono ?_
  rintro e w2 ⟨t, ka, kn, kc, r, rfl, hone, hb2⟩
  obtain ⟨k, tx, un, wh, fl⟩ := t
  have hBb : Below W.heap.size W (w2.alloc (.cells #[.int .i64 k, .string tx, .string un, .bool wh, .bool fl, .slice ka kn kc] 57)) := hb2.alloc hb2.size _
  have hY3 := P.Bx.new w2 57 #[.int .i64 k, .string tx, .string un, .bool wh, .bool fl, .slice ka kn kc]
  have HONE2 := L.hid_mk hone
  have HB := L.hid_mk hBb
  clear hs hb2 hone
  cases r with
  | false =>
    have HN : Hid (R = noS) := by
      show _ = _
      have h1 := HONE2.out
      simp only [Bool.false_eq_true, if_false, Option.map_eq_none_iff] at h1
      rw [HR.out, h1]
    clear HR hY3 hBb
    go_wp2
    go_ret
    exact ⟨by rw [HN.out]; rfl, HB.out⟩
  | true =>
    obtain ⟨x, hx, hxt⟩ : ∃ x, oneO vs = some x ∧ (x.tok, x.kids.length) = ((⟨k, tx, un, wh, fl⟩ : T5), kn) := by
      have h1 := HONE2.out
      simp only [if_true, Option.map_eq_some_iff] at h1
      exact h1
    have hsz := HONE.out x hx
    obtain ⟨e1, e2⟩ := Prod.mk.inj hxt
    have HN : Hid (R = if k = 1 ∧ ((foldS tx).toList = [105, 110, 104, 101, 114, 105, 116] ∨ (foldS tx).toList = [105, 110, 105, 116, 105, 97, 108] ∨ (foldS tx).toList = [117, 110, 115, 101, 116]) then foldS tx else noS) := by
      show _ = _
      rw [HR.out, hx]
      show (if x.tok.k = 1 ∧ _ then _ else _) = _
      rw [e1]
    rw [e1] at hsz
    have htx : tx.size ≤ 100000 := hsz.1
    have hf := fold_any tx (w2.alloc (.cells #[.int .i64 k, .string tx, .string un, .bool wh, .bool fl, .slice ka kn kc] 57)) (by omega)
    clear HR HONE HONE2 hx hxt e1 e2 hsz hY3 hBb
    generalize foldS tx = f at *
    by_cases hk : k = 1
    · have k1 : (k != 1) = false := by rw [hk]; rfl
      have hor : (∃ b1 b2 b3 : Bool, (f.toList == [105, 110, 104, 101, 114, 105, 116]) = b1 ∧ (f.toList == [105, 110, 105, 116, 105, 97, 108]) = b2 ∧ (f.toList == [117, 110, 115, 101, 116]) = b3) := ⟨_, _, _, rfl, rfl, rfl⟩
      obtain ⟨b1, b2, b3, q1, q2, q3⟩ := hor
      have HZ : Hid (R = if (b1 || b2 || b3) = true then f else noS) := by
        show _ = _
        rw [HN.out]
        congr 1
        rw [← q1, ← q2, ← q3]
        simp only [hk, true_and, Bool.or_eq_true, beq_iff_eq, or_assoc]
      clear HN hk
      cases b1 <;> cases b2 <;> cases b3
      all_goals
        go_wp2_with (go_at_call 72; fail)
        refine hf.mono ?_
        rintro e w3 ⟨rfl, hb3⟩
        have HB3 : Hid (Below W.heap.size W w3) := HB.out.trans (hb3.mono HB.out.size)
        clear hf hb3
        go_wp2
        go_ret
        exact ⟨by rw [HZ.out]; rfl, HB3.out⟩
    · have k1 : (k != 1) = true := by simpa using hk
      have HZ : Hid (R = noS) := by show _ = _; rw [HN.out, if_neg (fun h => hk h.1)]
      clear HN hk hf
      go_wp2
      go_ret
      exact ⟨by rw [HZ.out]; rfl, HB.out⟩
end Go.Proofs.YtlhdapckenjigaaGreatDoor.Z
namespace Go.Proofs.YtlhdapckenjigaaGreatDoor.Z
open Go.RowKit
open Go.Proofs.YtlhdapckenjigaaGreatDoor.L (T5 V VsAt t5Cells vCells cell_of_heap)
set_option maxRecDepth 100000

/-- A text that is short and has few tokens. -/
def okS (s : ByteArray) : Bool := decide (s.size ≤ 1000) && decide ((toks (runesZ s)).length ≤ 1000) && smB 3 (valsS s)
theorem okS_out {s : ByteArray} (h : okS s = true) : s.size ≤ 65536 ∧ (toks (runesZ s)).length ≤ 100000 ∧ Y.V.most (valsS s) ∧ ∀ y ∈ valsS s, y.tok.tx.size ≤ 100000 ∧ y.tok.un.size ≤ 100000 := by
  unfold okS at h
  rw [Bool.and_eq_true, Bool.and_eq_true] at h
  have h1 := of_decide_eq_true h.1.1
  have h2 := of_decide_eq_true h.1.2
  obtain ⟨h3, h4⟩ := smB_most 3 _ h.2
  exact ⟨by omega, by omega, h3, h4⟩
/-- The values of a text, then Parse of them. -/
theorem vals_ok {s : ByteArray} (h : okS s = true) (W : World) : Calls Tryz.prog 21 #[.string s] W fun e w' => ∃ u, e = .returned u ∧ VsAt (fun _ => True) w' u (valsS s) ∧ Below W.heap.size W w' := values_any s W (okS_out h).1 (okS_out h).2.1
theorem parse_ok {s name : ByteArray} {r : Option ByteArray} (h : okS s = true) (hp : parseO name (valsS s) = r) {W : World} {v : Value} (hv : VsAt (fun _ => True) W v (valsS s)) (hok : Ok W) : Calls Tryz.prog 45 #[.string name, v] W fun e w' => e = .returned (res r) ∧ Below W.heap.size W w' := by
  rw [← hp]
  exact parse_any name hv (okS_out h).2.2.1 (okS_out h).2.2.2 hok
theorem ok0 : okS (⟨#[49, 48, 80, 88]⟩ : ByteArray) = true := by kernel_rfl
theorem ex0 : parseO (⟨#[119, 105, 100, 116, 104]⟩ : ByteArray) (valsS (⟨#[49, 48, 80, 88]⟩ : ByteArray)) = some (⟨#[49, 48, 112, 120]⟩ : ByteArray) := by kernel_rfl
theorem ok1 : okS (⟨#[45, 49, 112, 120]⟩ : ByteArray) = true := by kernel_rfl
theorem ex1 : parseO (⟨#[119, 105, 100, 116, 104]⟩ : ByteArray) (valsS (⟨#[45, 49, 112, 120]⟩ : ByteArray)) = none := by kernel_rfl
theorem ok2 : okS (⟨#[35, 70, 48, 48]⟩ : ByteArray) = true := by kernel_rfl
theorem ex2 : parseO (⟨#[99, 111, 108, 111, 114]⟩ : ByteArray) (valsS (⟨#[35, 70, 48, 48]⟩ : ByteArray)) = some (⟨#[35, 102, 102, 48, 48, 48, 48]⟩ : ByteArray) := by kernel_rfl
theorem ok3 : okS (⟨#[48]⟩ : ByteArray) = true := by kernel_rfl
theorem ex3 : parseO (⟨#[109, 97, 114, 103, 105, 110, 45, 116, 111, 112]⟩ : ByteArray) (valsS (⟨#[48]⟩ : ByteArray)) = some (⟨#[48, 112, 120]⟩ : ByteArray) := by kernel_rfl
end Go.Proofs.YtlhdapckenjigaaGreatDoor.Z
