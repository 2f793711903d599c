/- gouachelaw03.ParseRules: the walk. Values that came in as an argument, within the bound on their bulk. -/
import Derived.Test.YtihdiaklhkecmaaRRules
import Derived.Test.YtihdiaklhkecmaaOpenT
namespace Go.Proofs.Ytihdiaklhkecmaa
open Go.RowKit
set_option maxRecDepth 100000

set_option maxHeartbeats 1000000 in
theorem prules_walk {P : Nat → Prop} {W : World} {v : Value} {vs : List V} (hv : VsAt P W v vs) (hc : countL vs ≤ 2000000) : Calls Try.prog 4 #[v] W fun e w' => e = .returned (.bool true) ∧ Below W.heap.size W w' := by
  have HV := hid_mk hv
  have HL : Hid (∀ w, Calls Try.prog 9 #[] w fun e w' => e = .returned (.bool true) ∧ Below w.heap.size w w') := lives_any
  have h13 := great_any hv W (Below.refl _ _) hc
  have HGR : Hid (greatZ vs = false → countL vs ≤ 3000) := fun h => by
    unfold greatZ at h
    have h2 : decide (3000 < countL vs) = false := by
      cases hd : deepL vs 100 <;> simp_all
    have := of_decide_eq_false h2
    omega
  obtain ⟨a, cap, rfl, hl, hcap⟩ := hv.slice
  clear hv
  generalize greatZ vs = gz at *
  go_enter Try.func4, Try.ntmps4
  go_wp2_with (go_at_call 13; fail)
  refine h13.mono ?_
  rintro e w1 ⟨rfl, hb1⟩
  cases gz with
  | true =>
    clear h13 HGR
    go_wp2_with (go_at_call 9; fail)
    refine (HL.out _).mono ?_
    rintro e w2 ⟨rfl, hb2⟩
    have HB2 : Hid (Below W.heap.size W w2) := hb1.trans (hb2.mono hb1.size)
    clear hb1 hb2
    go_wp2
    go_ret
    exact ⟨rfl, HB2.out⟩
  | false =>
    have hct := HGR.out rfl
    have HM := hid_mk (count_most _ vs (Nat.le_refl _) (by omega))
    have hln := count_len vs
    have HFL := hid_mk (flatL_count vs)
    have HV1 := hid_mk (HV.out.keep hb1)
    have HB1 := hid_mk hb1
    have h14 := rules_any HV1.out HM.out (by omega)
    clear h13 HGR hb1 HV
    go_wp2_with (go_at_call 14; fail)
    refine h14.mono ?_
    rintro e w2 ⟨o2, ps, rfl, hrp, hps, hb2⟩
    have HV2 := hid_mk (HV1.out.keep hb2)
    have HB2 : Hid (Below W.heap.size W w2) := HB1.out.trans (hb2.mono HB1.out.size)
    have HRP2 := hid_mk hrp
    have HPS := hid_mk hps
    obtain ⟨pa, pc, rfl, hpl, hpc, -⟩ := owns_cells hrp.1
    clear h14 hrp hps hb2 HV1 HB1
    have h15 := rrules_any HV2.out HM.out (by omega)
    go_wp2_with (go_at_call 15; fail)
    refine h15.mono ?_
    rintro e w3 ⟨o3, qs, rfl, hrq, hqs, hb3⟩
    have HV3 := hid_mk (HV2.out.keep hb3)
    have HB3 : Hid (Below W.heap.size W w3) := HB2.out.trans (hb3.mono HB2.out.size)
    have HRP3 := hid_mk (HRP2.out.keep hb3)
    have HRQ3 := hid_mk hrq
    have HSD : Hid (ps.map B2.said = qs.map B2.said) := by show _ = _; rw [HPS.out, hqs]
    have hle : ps.length = qs.length := by have := congrArg List.length HSD.out; simpa using this
    have HLE := hid_mk hle
    obtain ⟨qa, qc, rfl, hql, hqc, -⟩ := owns_cells hrq.1
    clear h15 hrq hqs hb3 HV2 HB2 HRP2 HPS
    rw [← hle] at hql ⊢
    clear hle
    have h17 := flat_any HV3.out (by have := HFL.out; omega)
    go_wp2_with (go_at_call 17; fail)
    refine h17.mono ?_
    rintro e w4 ⟨o4, rfl, ho4, hb4⟩
    have HV4 := hid_mk (HV3.out.keep hb4)
    have HB4 : Hid (Below W.heap.size W w4) := HB3.out.trans (hb4.mono HB3.out.size)
    have HRP4 := hid_mk (HRP3.out.keep hb4)
    have HRQ4 := hid_mk (HRQ3.out.keep hb4)
    have HO4 := hid_mk ho4
    obtain ⟨fa, fc, rfl, -⟩ := ho4
    clear h17 hb4 HV3 HB3 HRP3 HRQ3
    have h18 := rflat_any HV4.out w4 (Below.refl _ _) (by have := HFL.out; omega)
    go_wp2_with (go_at_call 18; fail)
    refine h18.mono ?_
    rintro e w5 ⟨o5, rfl, ho5, hb5⟩
    have HB5 : Hid (Below W.heap.size W w5) := HB4.out.trans (hb5.mono HB4.out.size)
    have HRP5 := hid_mk (HRP4.out.keep hb5)
    have HRQ5 := hid_mk (HRQ4.out.keep hb5)
    have h16 := tsame_yes (HO4.out.keep hb5) ho5.ts w5 (Below.refl _ _)
    obtain ⟨ga, gc, rfl, -⟩ := ho5.ts
    clear h18 hb5 ho5 HV4 HB4 HRP4 HRQ4 HO4
    generalize (flatL vs).length = fl at *
    go_wp2_with (go_at_call 16; fail)
    refine h16.mono ?_
    rintro e w6 ⟨rfl, m6, rfl⟩
    clear h16
    have HBD : Hid (∀ m, Below W.heap.size W (w5.drewN m)) := fun m => HB5.out.trans (below_drewN5 _ _ _)
    have HLEN := HLE
    go_wp2
    go_loopw [28] (fun i wr => ∃ (k m : Nat), i = .int .i64 k ∧ wr = w5.drewN m ∧ k ≤ ps.length) (fun i _ => ps.length + 1 - (intOf i).toNat)
    case atStart => exact ⟨0, m6, rfl, rfl, Nat.zero_le _⟩
    case round =>
      obtain ⟨k, m, rfl, rfl, hk⟩ := hrel
      by_cases hlt : k < ps.length
      · have hkq : k < qs.length := by have := HLE.out; omega
        obtain ⟨za, zc, ez, _, _, hcz⟩ := owns_cells HRP5.out.1
        obtain ⟨ra', rc', er, _, _, hcr⟩ := owns_cells HRQ5.out.1
        obtain ⟨gz, e1, hgz, hcz⟩ := hcz (by omega)
        obtain ⟨gr, e2, hgr, hcr⟩ := hcr (by omega)
        have e3 : pa = some ⟨gz, 0, none⟩ := by
          rw [← e1]
          injection ez
        have e4 : qa = some ⟨gr, 0, none⟩ := by
          rw [← e2]
          injection er
        subst e3 e4
        have hsd : (ps[k]'hlt).said = (qs[k]'hkq).said := by
          have := congrArg (fun l => l[k]?) HSD.out
          simp only [List.getElem?_map, List.getElem?_eq_getElem hlt, List.getElem?_eq_getElem hkq, Option.map_some] at this
          exact Option.some.inj this
        have c1 : w5.cell? ⟨gz, k * 2, none⟩ = some (ps[k]'hlt).p := hcz (k * 2) _ (flat2_at ps k 0 hlt (by decide))
        have c2 : w5.cell? ⟨gz, k * 2 + 1, none⟩ = some (ps[k]'hlt).b := hcz (k * 2 + 1) _ (flat2_at ps k 1 hlt (by decide))
        have d1 : w5.cell? ⟨gr, k * 2, none⟩ = some (qs[k]'hkq).p := hcr (k * 2) _ (flat2_at qs k 0 hkq (by decide))
        have d2 : w5.cell? ⟨gr, k * 2 + 1, none⟩ = some (qs[k]'hkq).b := hcr (k * 2 + 1) _ (flat2_at qs k 1 hkq (by decide))
        have hv1 := HRP5.out.2.2 _ (List.getElem_mem hlt)
        have hv2 := HRQ5.out.2.2 _ (List.getElem_mem hkq)
        generalize ps[k]'hlt = zz at *
        generalize qs[k]'hkq = rr at *
        obtain ⟨zp, zpv, zb, zbv⟩ := zz
        obtain ⟨rp, rpv, rb, rbv⟩ := rr
        have f1 : zpv = rpv := congrArg (fun x => x.1) hsd
        have f2 : zbv = rbv := congrArg (fun x => x.2) hsd
        subst f1 f2
        dsimp only at c1 c2 d1 d2 hv1 hv2
        have hc1 : ∀ n1 n2, Calls Try.prog 10 #[zp, rp] (w5.drewN (n1 + n2)) fun e w'' => e = .returned (.bool true) ∧ ∃ n, w'' = w5.drewN (n1 + n) := by
          intro n1 n2
          refine (rsame_yes hv1.1 rp hv2.1 _ (below_drewN5 _ _ (n1 + n2))).mono ?_
          rintro e w'' ⟨he, m', rfl⟩
          exact ⟨he, n2 + m', by rw [World.drewN_drewN, Nat.add_assoc]⟩
        have hc2 : ∀ n1 n2, Calls Try.prog 10 #[zb, rb] (w5.drewN (n1 + n2)) fun e w'' => e = .returned (.bool true) ∧ ∃ n, w'' = w5.drewN (n1 + n) := by
          intro n1 n2
          refine (rsame_yes hv1.2 rb hv2.2 _ (below_drewN5 _ _ (n1 + n2))).mono ?_
          rintro e w'' ⟨he, m', rfl⟩
          exact ⟨he, n2 + m', by rw [World.drewN_drewN, Nat.add_assoc]⟩
        obtain ⟨x1, y1, rfl, _, _⟩ := hv1.1.slice
        obtain ⟨x2, y2, rfl, _, _⟩ := hv1.2.slice
        obtain ⟨x3, y3, rfl, _, _⟩ := hv2.1.slice
        obtain ⟨x4, y4, rfl, _, _⟩ := hv2.2.slice
        clear hv1 hv2 hsd hcz hcr ez er HRP5 HRQ5 HSD HLE HLEN HB5 HBD
        go_wp2
        go_quiet (first | (go_at_call 10; with_reducible exact hc1 _ _) | (go_at_call 10; with_reducible exact hc2 _ _))
        go_wp2
        go_roundw
        case rel => exact ⟨k + 1, _, by go_num, rfl, by omega⟩
        case measure => simp [intOf]; omega
      · clear HRP5 HRQ5 HSD HLE HLEN HB5
        go_wp2_with (go_at_call 9; fail)
        refine (HL.out _).mono ?_
        rintro e w9 ⟨rfl, hb9⟩
        have HB9 : Hid (Below W.heap.size W w9) := (HBD.out m).trans (hb9.mono (HBD.out m).size)
        clear hb9 HBD
        go_wp2
        go_ret
        exact ⟨rfl, HB9.out⟩

end Go.Proofs.Ytihdiaklhkecmaa
namespace Go.Proofs.Ytihdiaklhkecmaa
open Go.RowKit

theorem c25 : Try.prog.cellsOf 25 = 1 := by kernel_rfl
theorem c46 : Try.prog.cellsOf 46 = 6 := by kernel_rfl
theorem bulk_one {H : Type} (d : DataW H) : 1 ≤ Rows.uptoBulk d := by
  cases d with
  | lit l => cases l <;> simp [Rows.uptoBulk]
  | nil => simp [Rows.uptoBulk]
  | ptr d => simp [Rows.uptoBulk]
  | slice elems spare => simp [Rows.uptoBulk]
  | agg parts => simp [Rows.uptoBulk]
  | iface t d => simp [Rows.uptoBulk]
  | map entries => simp [Rows.uptoBulk]
  | held h => simp [Rows.uptoBulk]
theorem bulk_append {H : Type} (l r : List (DataW H)) : Rows.uptoBulkAll (l ++ r) = Rows.uptoBulkAll l + Rows.uptoBulkAll r := by
  induction l with
  | nil => simp [Rows.uptoBulkAll]
  | cons x l ih => simp only [List.cons_append, Rows.uptoBulkAll, ih]; omega
theorem bulk_part {H : Type} {d : DataW H} {l : List (DataW H)} (h : d ∈ l) : Rows.uptoBulk d ≤ Rows.uptoBulkAll l := by
  induction l with
  | nil => cases h
  | cons x r ih =>
    simp only [Rows.uptoBulkAll]
    cases List.mem_cons.1 h with
    | inl e => subst e; omega
    | inr e => have := ih e; omega
theorem count_sum {H : Type} (F : Nat → V) (L : List (DataW H)) (h : ∀ i (hi : i < L.length), countV (F i) ≤ Rows.uptoBulk (L[i]'hi)) : ∀ j, j ≤ L.length → countL ((List.range j).map F) ≤ Rows.uptoBulkAll (L.take j)
  | 0, _ => by simp [countL]
  | j + 1, hj => by
    have h1 := count_sum F L h j (by omega)
    have h2 := h j (by omega)
    rw [List.range_succ, List.map_append, countL_append, List.take_succ_eq_append_getElem (by omega), bulk_append]
    simp only [List.map_cons, List.map_nil, countL, Rows.uptoBulkAll]
    omega
set_option maxRecDepth 100000 in
/-- What a token that came in holds, and its bulk. -/
theorem bulk_tok {H : Type} {enc : TypeId × Value → H} {W : World} {base fuel : Nat} {sp : Nat → Bool} {held : Bool} {t : T5} {x : DataW H × List MemPlace}
    (hf : DataW.trod enc Try.prog W base sp held fuel 44 (t5Cells t) = some x) : t.tx.size ≤ Rows.uptoBulk x.1 := by
  obtain ⟨k, tx, un, wh, fl⟩ := t
  obtain ⟨xs, n, rfl, hx, hl, hxl, hel⟩ := DataW.trod_struct Try.underlying44 hf
  have h1 := hel 1 _ rfl
  have hxl5 : xs.length = 5 := hxl
  obtain ⟨x0, x1, x2, x3, x4, rfl⟩ : ∃ x0 x1 x2 x3 x4, xs = [x0, x1, x2, x3, x4] := by
    match xs, hxl5 with
    | [a, b, c, d, e], _ => exact ⟨a, b, c, d, e, rfl⟩
  obtain ⟨tx', a1, b1, m1⟩ := DataW.trod_string Try.underlying9 h1
  have e1 : Value.string tx = .string tx' := head_of (by rw [← a1]; show _ = List.take (Try.prog.cellsOf 9) _; rw [c9]; rfl)
  cases e1
  have hx1 : x.1 = DataW.agg ([x0, x1, x2, x3, x4].map (·.1)) := congrArg Prod.fst hx
  have q1 : x1.1 = .lit (.string tx.data.toList) := by rw [b1]
  rw [hx1]
  have hp : Rows.uptoBulk x1.1 ≤ Rows.uptoBulkAll ([x0, x1, x2, x3, x4].map (·.1)) := bulk_part (by simp)
  rw [q1] at hp
  have hs : Rows.uptoBulk (DataW.lit (H := H) (.string tx.data.toList)) = tx.data.toList.length + 1 := by simp [Rows.uptoBulk]
  have e : tx.data.toList.length = tx.size := by rw [Array.length_toList]; rfl
  rw [hs, e] at hp
  simp only [Rows.uptoBulk]
  show tx.size ≤ _
  omega
set_option maxRecDepth 100000 in
/-- What a value that came in holds, and its bulk. -/
theorem bulk_val {H : Type} {enc : TypeId × Value → H} {W : World} {base fuel : Nat} {sp : Nat → Bool} {held : Bool} {cs : List Value} {x : DataW H × List MemPlace}
    (hf : DataW.trod enc Try.prog W base sp held fuel 46 cs = some x) : ∃ (t : T5) (kid : Value) (m : Nat) (z : DataW H × List MemPlace), cs = vCells t kid ∧ m < fuel ∧ DataW.trod enc Try.prog W base sp held m 25 [kid] = some z ∧ Rows.uptoBulk z.1 + 1 ≤ Rows.uptoBulk x.1 ∧ t.tx.size ≤ Rows.uptoBulk x.1 := by
  obtain ⟨xs, n, rfl, hx, hl, hxl, hel⟩ := DataW.trod_struct Try.underlying46 hf
  have h0 := hel 0 _ rfl
  have h1 := hel 1 _ rfl
  have hxl2 : xs.length = 2 := hxl
  obtain ⟨x0, x1, rfl⟩ : ∃ x0 x1, xs = [x0, x1] := by
    match xs, hxl2 with
    | [a, b], _ => exact ⟨a, b, rfl⟩
  rw [c46] at hl
  obtain ⟨y0, y1, y2, y3, y4, kid, rfl⟩ : ∃ y0 y1 y2 y3 y4 y5, cs = [y0, y1, y2, y3, y4, y5] := by
    match cs, hl with
    | [a, b, c, d, e, f], _ => exact ⟨a, b, c, d, e, f, rfl⟩
  have h0' : DataW.trod enc Try.prog W base sp held n 44 [y0, y1, y2, y3, y4] = some x0 := by
    have e : List.take (Try.prog.cellsOf 44) (List.drop 0 [y0, y1, y2, y3, y4, kid]) = [y0, y1, y2, y3, y4] := by rw [c44]; rfl
    rw [← e]
    exact h0
  have h1' : DataW.trod enc Try.prog W base sp held n 25 [kid] = some x1 := by
    have e : List.take (Try.prog.cellsOf 25) (List.drop 5 [y0, y1, y2, y3, y4, kid]) = [kid] := by rw [c25]; rfl
    rw [← e]
    exact h1
  obtain ⟨t, ht⟩ := trod_tok h0' rfl
  have hb := bulk_tok (t := t) (by rw [← ht]; exact h0')
  have hx1 : x.1 = DataW.agg ([x0, x1].map (·.1)) := congrArg Prod.fst hx
  have hbx : Rows.uptoBulk x.1 = Rows.uptoBulk x0.1 + Rows.uptoBulk x1.1 + 1 := by
    rw [hx1]
    simp only [Rows.uptoBulk, List.map, Rows.uptoBulkAll]
    omega
  refine ⟨t, kid, n, x1, ?_, by omega, h1', by omega, by omega⟩
  have : [y0, y1, y2, y3, y4] ++ [kid] = t5Cells t ++ [kid] := by rw [ht]
  exact this
/-- What values that came in are: a tree, not more than its bulk. -/
theorem open_vals {H : Type} {enc : TypeId × Value → H} {W : World} {base : Nat} {sp : Nat → Bool} {held : Bool} (fuel : Nat) : ∀ (v : Value) (x : DataW H × List MemPlace), DataW.trod enc Try.prog W base sp held fuel 25 [v] = some x →
    ∃ vs, VsAt (fun _ => True) W v vs ∧ countL vs ≤ Rows.uptoBulk x.1 ∧ ∀ y ∈ vs, y.tok.tx.size ≤ Rows.uptoBulk x.1 := by
  induction fuel using Nat.strongRecOn with
  | _ fuel ih =>
    intro v x hf
    rcases DataW.trod_slice Try.underlying25 hf with ⟨hcs, _⟩ | ⟨a, len, cap, elems, rest, n, rfl, hcs, hx, hb, hl, hcap, hel, hget, _⟩
    · have e := head_of hcs
      subst e
      exact ⟨[], VsAt.nil _ _, by simp [countL], fun y hy => by cases hy⟩
    · have hx1 : x.1 = DataW.slice (elems.map (·.1)) (rest.map (·.1)) := congrArg Prod.fst hx
      have hle : elems.length = len := by omega
      have key : ∀ i (hi : i < len), ∃ q : T5 × Value × List V, (∀ j, j < 6 → W.cell? ((a.add (i * 6)).add j) = (vCells q.1 q.2.1)[j]?) ∧ VsAt (fun _ => True) W q.2.1 q.2.2 ∧ countV (mkV q) ≤ Rows.uptoBulk (elems[i]'(by omega)).1 ∧ q.1.tx.size ≤ Rows.uptoBulk (elems[i]'(by omega)).1 := by
        intro i hi
        have h1 := hget i hi
        rw [c46] at h1
        have h2 : elems[i]? = some (elems[i]'(by omega)) := List.getElem?_eq_getElem (by omega)
        rw [h2, Option.bind_eq_some_iff] at h1
        obtain ⟨cs, hc, ht⟩ := h1
        obtain ⟨_, _, hce⟩ := cells_each hc
        obtain ⟨t, kid, m, z, rfl, hm, hz, hb1, hb2⟩ := bulk_val ht
        obtain ⟨ks, hk1, hk2, _⟩ := ih m (by omega) kid z hz
        refine ⟨(t, kid, ks), hce, hk1, ?_, hb2⟩
        show countV (V.mk t ks) ≤ _
        rw [countV]
        omega
      obtain ⟨f, hfi⟩ : ∃ f : Nat → T5 × Value × List V, ∀ i (hi : i < len), (∀ j, j < 6 → W.cell? ((a.add (i * 6)).add j) = (vCells (f i).1 (f i).2.1)[j]?) ∧ VsAt (fun _ => True) W (f i).2.1 (f i).2.2 ∧ countV (mkV (f i)) ≤ Rows.uptoBulk (elems[i]'(by omega)).1 ∧ (f i).1.tx.size ≤ Rows.uptoBulk (elems[i]'(by omega)).1 := by
        refine ⟨fun i => if h : i < len then (key i h).choose else (⟨0, ⟨#[]⟩, ⟨#[]⟩, false, false⟩, .slice none 0 0, []), fun i hi => ?_⟩
        simp only [hi, dif_pos]
        exact (key i hi).choose_spec
      have hll : ((List.range len).map fun i => mkV (f i)).length = len := by simp
      have hbk : Rows.uptoBulkAll (elems.map (·.1)) ≤ Rows.uptoBulk x.1 := by
        rw [hx1]
        simp only [Rows.uptoBulk]
        omega
      refine ⟨(List.range len).map fun i => mkV (f i), ?_, ?_, ?_⟩
      · have e := head_of hcs
        subst e
        obtain ⟨b, off, spot⟩ := a
        have hsp : 0 < len → spot = none ∧ b < W.heap.size := fun h0 => by
          have hc' : W.cell? ((⟨b, off, spot⟩ : Addr).add (0 * 6) |>.add 0) = some (.int .i64 (f 0).1.k) := (hfi 0 h0).1 0 (by omega)
          have hspot : spot = none := by simpa [Addr.add] using World.cell?_spot hc'
          subst hspot
          have := World.block_lt_of_cell? W _ hc'
          exact ⟨rfl, by simpa [add_none] using this⟩
        have hmk := VsAt.mk (P := fun _ => True) (W := W) (some ⟨b, off, spot⟩) cap ((List.range len).map fun i => mkV (f i)) b off (fun i => (f i).2.1) (by rw [hll]; exact hl) (Nat.le_trans hcap (by decide))
          (fun h0 => by
            rw [hll] at h0
            obtain ⟨h1, h2⟩ := hsp h0
            subst h1
            exact ⟨rfl, h2, trivial⟩)
          (fun i hi j y hy => by
            rw [hll] at hi
            obtain ⟨h1, _⟩ := hsp (by omega)
            subst h1
            have e : ((List.range len).map fun i => mkV (f i))[i]'(by rw [hll]; exact hi) = mkV (f i) := by simp
            rw [e] at hy
            have hj : j < 6 := by
              have := (List.getElem?_eq_some_iff.1 hy).1
              simpa [vCells] using this
            have h1 := (hfi i hi).1 j hj
            rw [add_none, add_none] at h1
            rw [h1]
            exact hy)
          (fun i hi => by
            rw [hll] at hi
            have e : ((List.range len).map fun i => mkV (f i))[i]'(by rw [hll]; exact hi) = mkV (f i) := by simp
            rw [e]
            exact (hfi i hi).2.1)
        rw [hll] at hmk
        exact hmk
      · have h := count_sum (fun i => mkV (f i)) (elems.map (·.1)) (fun i hi => by
          rw [List.length_map] at hi
          rw [List.getElem_map]
          exact (hfi i (by omega)).2.2.1) len (by rw [List.length_map]; omega)
        rw [List.take_of_length_le (by rw [List.length_map]; omega)] at h
        omega
      · intro y hy
        obtain ⟨i, hi, rfl⟩ := List.mem_map.1 hy
        have hi' := List.mem_range.1 hi
        have h1 := (hfi i hi').2.2.2
        have h2 := bulk_part (d := (elems[i]'(by omega)).1) (l := elems.map (·.1)) (List.mem_map.2 ⟨_, List.getElem_mem _, rfl⟩)
        show (f i).1.tx.size ≤ _
        omega

end Go.Proofs.Ytihdiaklhkecmaa
