/- parse.Rules of any values. -/
import Derived.Test.YtihdiaklhkecmabOwnV
import Derived.Deep.AppendLies
namespace Go.Proofs.Ytihdiaklhkecmab
open Go.RowKit
set_option maxRecDepth 100000

/-- What a rule is in memory, and what it says. -/
structure B2 where
  p : Value
  pv : List V
  b : Value
  bv : List V
def B2.said (x : B2) : List V × List V := (x.pv, x.bv)
/-- A row of rules of one's own, with the values of each, which lie outside of it. -/
def Row2 (P : Nat → Prop) (B : Nat) (w : World) (out : Value) (ps : List B2) : Prop :=
  w.ownsRow B 39 2 out ps.length (ps.flatMap fun x => [x.p, x.b]) ∧ (∀ g, out.ownBlock = some g → P g) ∧ ∀ x ∈ ps, VsAt (fun b => P b ∧ out.ownBlock ≠ some b) w x.p x.pv ∧ VsAt (fun b => P b ∧ out.ownBlock ≠ some b) w x.b x.bv
theorem Row2.keep {P : Nat → Prop} {B : Nat} {w w' : World} {out : Value} {ps : List B2} (h : Row2 P B w out ps) (hb : Below w.heap.size w w') : Row2 P B w' out ps := ⟨ownsRow_below h.1 hb, h.2.1, fun p hp => ⟨VsAt.keep hb (h.2.2 p hp).1, VsAt.keep hb (h.2.2 p hp).2⟩⟩
theorem Row2.push {P : Nat → Prop} {B : Nat} {w w' : World} {o : Obj} {out v' : Value} {ps : List B2} {x : B2} (h : Row2 P B w out ps) (hk1 : VsAt (fun b => P b ∧ out.ownBlock ≠ some b) w x.p x.pv) (hk2 : VsAt (fun b => P b ∧ out.ownBlock ≠ some b) w x.b x.bv)
    (hown : w'.ownsRow B 39 2 v' (ps.length + 1) ((ps.flatMap fun x => [x.p, x.b]) ++ [x.p, x.b])) (hg : (w.alloc o).grownBy w' out.ownBlock) (hat : v'.ownBlock = out.ownBlock ∨ v'.ownBlock = some (w.alloc o).heap.size) (hP : P (w.alloc o).heap.size) : Row2 P B w' v' (ps ++ [x]) := by
  have hs : (w.alloc o).heap.size = w.heap.size + 1 := by simp
  have keep : ∀ {x : Value} {xs : List V}, VsAt (fun b => P b ∧ out.ownBlock ≠ some b) w x xs → VsAt (fun b => P b ∧ v'.ownBlock ≠ some b) w' x xs := by
    intro x xs hx
    have h1 : VsAt (fun b => (P b ∧ out.ownBlock ≠ some b) ∧ v'.ownBlock ≠ some b) w x xs := hx.wider (fun b hb hlt => ⟨hb, by
      rcases hat with e | e
      · rw [e]; exact hb.2
      · rw [e, hs]
        intro e2
        have := Option.some.inj e2
        omega⟩)
    have h2 := h1.stay (W' := w') (by have := hg.size; omega) (fun b hb hlt => by
      rw [hg.block b (by omega) (fun e => hb.1.2 e.symm)]
      exact Below.heap_alloc w o b hlt)
    exact h2.wider (fun b hb _ => ⟨hb.1.1, hb.2⟩)
  refine ⟨?_, ?_, ?_⟩
  · rw [List.length_append, List.flatMap_append, List.flatMap_singleton]
    exact hown
  · intro g hgo
    rcases hat with e | e
    · exact h.2.1 g (e.symm.trans hgo)
    · rw [e] at hgo
      cases hgo
      exact hP
  · intro p hp
    rcases List.mem_append.1 hp with hp | hp
    · exact ⟨keep (h.2.2 p hp).1, keep (h.2.2 p hp).2⟩
    · rw [List.mem_singleton.1 hp]
      exact ⟨keep hk1, keep hk2⟩
/-- The document's rules of values. -/
def rulesZ : Nat → List V → List (List V × List V)
  | 0, _ => []
  | _ + 1, [] => []
  | f + 1, x :: r =>
    if hasZ [13, 14, 15] x.tok.k then rulesZ f r
    else if hasZ [3] x.tok.k then rulesZ f ((x :: r).drop (nextZ [17, 23] (x :: r) + 1))
    else if h : nextZ [23] (x :: r) < (x :: r).length then ((x :: r).take (nextZ [23] (x :: r)), ((x :: r)[nextZ [23] (x :: r)]'h).kids) :: rulesZ f ((x :: r).drop (nextZ [23] (x :: r) + 1))
    else []
theorem rulesZ_nil (g : Nat) : rulesZ g [] = [] := by cases g <;> rfl
theorem V.most.drop {vs : List V} (h : V.most vs) (k : Nat) : V.most (vs.drop k) := .mk _ (by have := h.len; simp; omega) (fun x hx => h.kid (List.mem_of_mem_drop hx))
theorem V.most.take {vs : List V} (h : V.most vs) (k : Nat) : V.most (vs.take k) := .mk _ (by have := h.len; simp; omega) (fun x hx => h.kid (List.mem_of_mem_take hx))
/-- is, with the kinds given one by one. -/
theorem is_lit (ks : List Int) (hk : ks.length ≤ 100000) (w : World) (tk : Int) (tx un : ByteArray) (wh fl : Bool) (kid : Value) :
    Calls Try.prog 17 #[.agg #[.int .i64 tk, .string tx, .string un, .bool wh, .bool fl, kid], .slice (some ⟨w.heap.size, 0, none⟩) ks.length ks.length] (w.alloc (.cells (ks.map (Value.int .i64)).toArray 3)) fun e w' => e = .returned (.bool (hasZ ks tk)) ∧ Below w.heap.size w w' := by
  refine (is_any (row_lit w ks hk) hk tk tx un wh fl kid).mono ?_
  rintro e w'' ⟨rfl, hB⟩
  have hA : Below w.heap.size w (w.alloc (.cells (ks.map (Value.int .i64)).toArray 3)) := (Below.refl _ w).alloc (Nat.le_refl _) _
  exact ⟨rfl, hA.trans (hB.mono hA.size)⟩
theorem next_lit {P : Nat → Prop} (ks : List Int) (hk : ks.length ≤ 100000) {w : World} {v : Value} {vs : List V} (hv : VsAt P w v vs) (hn : vs.length ≤ 1000000000) :
    Calls Try.prog 19 #[v, .slice (some ⟨w.heap.size, 0, none⟩) ks.length ks.length] (w.alloc (.cells (ks.map (Value.int .i64)).toArray 3)) fun e w' => e = .returned (.int .i64 (nextZ ks vs : Nat)) ∧ Below w.heap.size w w' := by
  have hA : Below w.heap.size w (w.alloc (.cells (ks.map (Value.int .i64)).toArray 3)) := (Below.refl _ w).alloc (Nat.le_refl _) _
  refine (next_any (hv.keep hA) (row_lit w ks hk) hk hn).mono ?_
  rintro e w'' ⟨rfl, hB⟩
  exact ⟨rfl, hA.trans (hB.mono hA.size)⟩
theorem Try.info39 : (Try.prog.info? 39).map (fun i => (i.zero, i.size, i.bytes)) = some (some (.agg #[.slice none 0 0, .slice none 0 0]), 2, 48) := by kernel_rfl
theorem news2 (w : World) (x0 x1 : Value) (j : Nat) (u : Value) (h : [x0, x1][j]? = some u) : (w.alloc (.cells #[x0, x1] 39)).cell? ((⟨w.heap.size, 0, none⟩ : Addr).add j) = some u :=
  World.news_of_block (cs := #[x0, x1]) (t := 39) (fr := (0, 0)) (heap_alloc_new w _) j u h
theorem VsAt.first {P : Nat → Prop} {W : World} {b off n cap : Nat} {vs : List V} (h : VsAt P W (.slice (some ⟨b, off, none⟩) n cap) vs) (h0 : 0 < vs.length) : P b := by
  generalize hv : Value.slice (some ⟨b, off, none⟩) n cap = v at h
  cases h with
  | mk a' cap' vs b' off' kv h1 h2 ha hc hr =>
    obtain ⟨e, _, hp⟩ := ha h0
    subst e
    cases hv
    exact hp
set_option maxHeartbeats 4000000 in
theorem rules_any {P : Nat → Prop} {W : World} {v : Value} {vs : List V} (hv : VsAt P W v vs) (hm : V.most vs) (hn : vs.length ≤ 1000000) :
    Calls Try.prog 10 #[v] W fun e w' => ∃ out ps, e = .returned out ∧ Row2 (fun b => W.heap.size ≤ b) W.heap.size w' out ps ∧ ps.map B2.said = rulesZ vs.length vs ∧ Below W.heap.size W w' := by
  obtain ⟨i0, hi0, hz0, hz1, hz2⟩ := info_parts Try.info39
  have HV : Hid (VsAt (fun b => b < W.heap.size) W v vs) := hv.wider (fun b _ h => h)
  have HM := hid_mk hm
  obtain ⟨a, cap, rfl, hl, hcap⟩ := hv.slice
  clear hv hm
  go_enter Try.func10, Try.ntmps10
  go_wp2
  go_loopw [0, 3] (fun a0 a3 wr => ∃ (g : Nat) (us : List V) (ps : List B2), us.length ≤ g ∧ VsAt (fun b => b < W.heap.size) wr a0 us ∧ V.most us ∧ Row2 (fun b => W.heap.size ≤ b) W.heap.size wr a3 ps ∧ Below W.heap.size W wr ∧ Hid (rulesZ vs.length vs = ps.map B2.said ++ rulesZ g us) ∧ ps.length + us.length ≤ vs.length) (fun a0 _ _ => sliceLen a0)
  case atStart => exact ⟨vs.length, vs, [], Nat.le_refl _, HV.out, HM.out, ⟨World.ownsRow_nil _ _ _ _, fun g hg => by simp [Value.ownBlock] at hg, fun p hp => by cases hp⟩, Below.refl _ _, (rfl : _ = _), by simp⟩
  case round =>
    obtain ⟨g, us, ps, hg, hus, hmu, hrow, hB, hE, hpl⟩ := hrel
    clear HV HM
    cases us with
    | nil =>
      obtain ⟨a0, c0, rfl, _⟩ := hus.slice
      have HE : Hid (ps.map B2.said = rulesZ vs.length vs) := by
        show _ = _
        rw [hE.out, rulesZ_nil, List.append_nil]
      have HROW := hid_mk hrow
      clear hrow hE hus hmu
      go_wp2
      go_ret
      exact ⟨_, ps, rfl, HROW.out, HE.out, hB⟩
    | cons x r =>
      obtain ⟨g, rfl⟩ : ∃ g', g = g' + 1 := ⟨g - 1, by rw [List.length_cons] at hg; omega⟩
      obtain ⟨a0, c0, rfl, hl0, hc0⟩ := hus.slice
      have HUS := hid_mk hus
      have HMU := hid_mk hmu
      obtain ⟨_, _, _, hcs⟩ := hus.cells
      obtain ⟨b, off, kv, rfl, hbl, hcc, hkid⟩ := hcs 0 (by simp)
      simp only [Nat.zero_mul, Nat.add_zero, List.getElem_cons_zero] at hcc hkid
      obtain ⟨⟨tk, tx, un, wh, fl⟩, xk⟩ := x
      obtain ⟨ka, kc, rfl, _, _⟩ := hkid.slice
      have HQ : Hid (∀ w', Below wr.heap.size wr w' → w'.cell? ⟨b, off, none⟩ = some (.int .i64 tk) ∧ w'.cell? ⟨b, off + 1, none⟩ = some (.string tx) ∧ w'.cell? ⟨b, off + 2, none⟩ = some (.string un) ∧ w'.cell? ⟨b, off + 3, none⟩ = some (.bool wh) ∧ w'.cell? ⟨b, off + 4, none⟩ = some (.bool fl) ∧ w'.cell? ⟨b, off + 5, none⟩ = some (.slice ka xk.length kc)) := fun w' hw' =>
        have hq := fun j y hy => (hw'.cell (p := ⟨b, off + j, none⟩) hbl).trans (hcc j y hy)
        ⟨hq 0 _ rfl, hq 1 _ rfl, hq 2 _ rfl, hq 3 _ rfl, hq 4 _ rfl, hq 5 _ rfl⟩
      have HNE : Hid (rulesZ (g + 1) (V.mk ⟨tk, tx, un, wh, fl⟩ xk :: r) = if hasZ [13, 14, 15] tk then rulesZ g r else if hasZ [3] tk then rulesZ g ((V.mk ⟨tk, tx, un, wh, fl⟩ xk :: r).drop (nextZ [17, 23] (V.mk ⟨tk, tx, un, wh, fl⟩ xk :: r) + 1)) else if h : nextZ [23] (V.mk ⟨tk, tx, un, wh, fl⟩ xk :: r) < (V.mk ⟨tk, tx, un, wh, fl⟩ xk :: r).length then ((V.mk ⟨tk, tx, un, wh, fl⟩ xk :: r).take (nextZ [23] (V.mk ⟨tk, tx, un, wh, fl⟩ xk :: r)), ((V.mk ⟨tk, tx, un, wh, fl⟩ xk :: r)[nextZ [23] (V.mk ⟨tk, tx, un, wh, fl⟩ xk :: r)]'h).kids) :: rulesZ g ((V.mk ⟨tk, tx, un, wh, fl⟩ xk :: r).drop (nextZ [23] (V.mk ⟨tk, tx, un, wh, fl⟩ xk :: r) + 1)) else []) := by
        show _ = _
        rw [rulesZ]
        rfl
      have hi1 := fun w => is_lit [13, 14, 15] (by decide) w tk tx un wh fl (.slice ka xk.length kc)
      have hi2 := fun w => is_lit [3] (by decide) w tk tx un wh fl (.slice ka xk.length kc)
      rw [List.length_cons] at hg hl0 hpl
      simp only [List.length_cons]
      generalize hasZ [13, 14, 15] tk = y1 at *
      generalize hasZ [3] tk = y2 at *
      obtain ⟨q0, q1, q2, q3, q4, q5⟩ := HQ.out wr (Below.refl _ _)
      have HROW := hid_mk hrow
      have HBB := hid_mk hB
      clear hcs hcc hkid hus hmu hrow hB
      go_wp2_with (go_at_call 17; fail)
      refine (hi1 _).mono ?_
      rintro e w1 ⟨rfl, hb1⟩
      have hB1 : Below W.heap.size W w1 := HBB.out.trans (hb1.mono HBB.out.size)
      have HR1 := hid_mk (HROW.out.keep hb1)
      have HU1 := hid_mk (HUS.out.keep hb1)
      clear hi1 q0 q1 q2 q3 q4 q5 HROW HBB
      cases y1 with
      | true =>
        have HN : Hid (rulesZ vs.length vs = ps.map B2.said ++ rulesZ g r) := by
          show _ = _
          rw [hE.out, HNE.out, if_pos rfl]
        clear HNE hE hi2
        go_wp2
        go_roundw
        case rel => exact ⟨g, r, ps, by omega, HU1.out.dropO 1 (by simp) (by simp) rfl (fun h => by simp only [List.length_cons] at h; rw [if_neg (by omega)]), HMU.out.drop 1, HR1.out, hB1, HN.out, by omega⟩
        case measure => simp [sliceLen]
      | false =>
        obtain ⟨q0, q1, q2, q3, q4, q5⟩ := HQ.out w1 hb1
        go_wp2_with (go_at_call 17; fail)
        refine (hi2 _).mono ?_
        rintro e w2 ⟨rfl, hb2⟩
        have hB2 : Below W.heap.size W w2 := hB1.trans (hb2.mono hB1.size)
        have HR2 := hid_mk (HR1.out.keep hb2)
        have HU2 := hid_mk (HU1.out.keep hb2)
        clear hi2 q0 q1 q2 q3 q4 q5 HR1 HU1 hB1 hb2 hb1 HQ HUS
        cases y2 with
        | true =>
          have HN : Hid (rulesZ vs.length vs = ps.map B2.said ++ rulesZ g ((V.mk ⟨tk, tx, un, wh, fl⟩ xk :: r).drop (nextZ [17, 23] (V.mk ⟨tk, tx, un, wh, fl⟩ xk :: r) + 1))) := by
            show _ = _
            rw [hE.out, HNE.out, if_neg (by decide), if_pos rfl]
          clear HNE hE
          have hba := behindAt_any HU2.out HMU.out.len
          have hdl : ((V.mk ⟨tk, tx, un, wh, fl⟩ xk :: r).drop (nextZ [17, 23] (V.mk ⟨tk, tx, un, wh, fl⟩ xk :: r) + 1)).length ≤ r.length := by simp
          have HMD := hid_mk (HMU.out.drop (nextZ [17, 23] (V.mk ⟨tk, tx, un, wh, fl⟩ xk :: r) + 1))
          simp only [List.length_cons] at hba
          generalize (V.mk ⟨tk, tx, un, wh, fl⟩ xk :: r).drop (nextZ [17, 23] (V.mk ⟨tk, tx, un, wh, fl⟩ xk :: r) + 1) = ds at *
          clear HU2 HMU
          go_wp2_with (go_at_call 18; fail)
          refine hba.mono ?_
          rintro e w3 ⟨o3, rfl, ho3, hb3⟩
          have HO3 := hid_mk ho3
          obtain ⟨a3, c3, rfl, _, _⟩ := ho3.slice
          clear ho3 hba
          go_wp2
          go_roundw
          case rel => exact ⟨g, ds, ps, by omega, HO3.out, HMD.out, HR2.out.keep hb3, hB2.trans (hb3.mono hB2.size), HN.out, by omega⟩
          case measure => simp [sliceLen]; omega
        | false =>
          have HN : Hid (rulesZ vs.length vs = ps.map B2.said ++ (if h : nextZ [23] (V.mk ⟨tk, tx, un, wh, fl⟩ xk :: r) < (V.mk ⟨tk, tx, un, wh, fl⟩ xk :: r).length then ((V.mk ⟨tk, tx, un, wh, fl⟩ xk :: r).take (nextZ [23] (V.mk ⟨tk, tx, un, wh, fl⟩ xk :: r)), ((V.mk ⟨tk, tx, un, wh, fl⟩ xk :: r)[nextZ [23] (V.mk ⟨tk, tx, un, wh, fl⟩ xk :: r)]'h).kids) :: rulesZ g ((V.mk ⟨tk, tx, un, wh, fl⟩ xk :: r).drop (nextZ [23] (V.mk ⟨tk, tx, un, wh, fl⟩ xk :: r) + 1)) else [])) := by
            show _ = _
            rw [hE.out, HNE.out, if_neg (by decide), if_neg (by decide)]
          clear HNE hE
          have hnx := next_lit [23] (by decide) HU2.out HMU.out.len
          have hle := nextZ_le [23] (V.mk ⟨tk, tx, un, wh, fl⟩ xk :: r)
          have hlu : (V.mk ⟨tk, tx, un, wh, fl⟩ xk :: r).length = r.length + 1 := rfl
          rw [← hlu]
          rw [← hlu] at hg hl0 hpl
          have HLU := hid_mk hlu
          clear hlu
          generalize V.mk ⟨tk, tx, un, wh, fl⟩ xk :: r = us at *
          generalize nextZ [23] us = n at *
          go_wp2_with (go_at_call 19; fail)
          refine hnx.mono ?_
          rintro e w3 ⟨rfl, hb3⟩
          have hB3 : Below W.heap.size W w3 := hB2.trans (hb3.mono hB2.size)
          have HR3 := hid_mk (HR2.out.keep hb3)
          have HU3 := hid_mk (HU2.out.keep hb3)
          clear hnx HR2 HU2 hb3
          by_cases hnl : n < us.length
          · have HU0 := HU3.out
            obtain ⟨_, _, _, hcs⟩ := HU0.cells
            obtain ⟨bb, oo, kv, ebo, hbl3, hcc, hkid⟩ := hcs n hnl
            have e1 : bb = b := by injection ebo with e; injection e with e1 e2; exact e1.symm
            have e2 : oo = off := by injection ebo with e; injection e with e1 e2; exact e2.symm
            subst e1 e2
            obtain ⟨kb, kd, rfl, _, _⟩ := hkid.slice
            have hkq : w3.cell? ⟨bb, oo + n * 6 + 5, none⟩ = some (.slice kb (us[n]'hnl).kids.length kd) := hcc 5 _ rfl
            have hbW : bb < W.heap.size := HU0.first (by omega)
            have HO1 : Hid (∀ w', Below w3.heap.size w3 w' → Calls Try.prog 13 #[.slice (some ⟨bb, oo, none⟩) n c0] w' fun e w'' => ∃ ao co, e = .returned (.slice ao n co) ∧ VsAt (fun b => w3.heap.size ≤ b) w'' (.slice ao n co) (us.take n) ∧ Below w3.heap.size w3 w'' ∧ Below w'.heap.size w' w'') := fun w' hw' =>
              (own_any (HU0.take n (by omega)) w' hw' (HMU.out.take n)).mono fun e w'' ⟨out, he, hv, hb⟩ => by
                obtain ⟨ao, co, rfl, _, _⟩ := hv.slice
                have hln : (us.take n).length = n := by rw [List.length_take]; omega
                rw [hln] at hv he
                exact ⟨ao, co, he, hv.wider (fun b hb' _ => Nat.le_trans hw'.size hb'), hw'.trans (hb.mono hw'.size), hb⟩
            have HO2 : Hid (∀ w', Below w3.heap.size w3 w' → Calls Try.prog 13 #[.slice kb (us[n]'hnl).kids.length kd] w' fun e w'' => ∃ ao co, e = .returned (.slice ao (us[n]'hnl).kids.length co) ∧ VsAt (fun b => w3.heap.size ≤ b) w'' (.slice ao (us[n]'hnl).kids.length co) (us[n]'hnl).kids ∧ Below w3.heap.size w3 w'' ∧ Below w'.heap.size w' w'') := fun w' hw' =>
              (own_any hkid w' hw' (HMU.out.kid (List.getElem_mem hnl))).mono fun e w'' ⟨out, he, hv, hb⟩ => by
                obtain ⟨ao, co, rfl, _, _⟩ := hv.slice
                exact ⟨ao, co, he, hv.wider (fun b hb' _ => Nat.le_trans hw'.size hb'), hw'.trans (hb.mono hw'.size), hb⟩
            have HNN : Hid (rulesZ vs.length vs = ps.map B2.said ++ ((us.take n, (us[n]'hnl).kids) :: rulesZ g (us.drop (n + 1)))) := by
              show _ = _
              rw [HN.out, dif_pos hnl]
            generalize (us[n]'hnl).kids = ks at *
            have hbs3 := hB3.size
            have hown3 := HR3.out.1
            have HF1 : Hid (∀ w', Below w3.heap.size w3 w' → w'.cell? ⟨bb, oo + n * 6 + 5, none⟩ = some (.slice kb ks.length kd)) := fun w' hw' => (hw'.cell (p := ⟨bb, oo + n * 6 + 5, none⟩) hbl3).trans hkq
            have HF2 : Hid (∀ w' o, Below w3.heap.size w3 w' → (w'.alloc o).cell? ⟨bb, oo + n * 6 + 5, none⟩ = some (.slice kb ks.length kd)) := fun w' o hw' => HF1.out _ (hw'.alloc hw'.size o)
            have HF3 : Hid (∀ w' o w7, Below w3.heap.size w3 w' → (w'.alloc o).grownBy w7 u3.ownBlock → w7.cell? ⟨bb, oo + n * 6 + 5, none⟩ = some (.slice kb ks.length kd)) := fun w' o w7 hw' hg => (hg.cell_far ⟨bb, oo + n * 6 + 5, none⟩ (by have := hw'.size; simp; omega) (fun e => by have := (hown3.lt bb e.symm).1; omega)).trans (HF2.out w' o hw')
            have gd : Below w3.heap.size w3 w3.drew := below_drewN5 _ w3 1
            have HOW : Hid (∀ w', Below w3.heap.size w3 w' → w'.ownsRow W.heap.size 39 2 u3 ps.length (ps.flatMap fun x => [x.p, x.b])) := fun w' hw' => ownsRow_below hown3 hw'
            have HLT : Hid (∀ k, u3.ownBlock = some k → W.heap.size ≤ k ∧ k < w3.heap.size) := hown3.lt
            have hmx : ps.length + 1 ≤ maxLen := by unfold maxLen; omega
            have hI1 : (0 : Int) ≤ (n : Int) := by omega
            have hI2 : (n : Int) ≤ (c0 : Int) := by omega
            clear hcs hcc hkid ebo HU0 HN hkq hown3
            go_upto_region 6 with fail
            go_region_held3 (fun w' => w'.cell? ⟨bb, oo + n * 6 + 5, none⟩ = some (.slice kb ks.length kd)) (first | with_reducible exact HF1.out _ gd | with_reducible exact HF1.out _ g5 | with_reducible exact HF1.out _ g4 | with_reducible exact HF2.out w5 _ g5 | exact HF3.out w5 _ w7 g5 hgrow7) (first
              | (go_at_call 13; with_reducible refine (HO1.out _ ?_).mono ?_; assumption; rintro e w4 ⟨a4, d4, rfl, hv4, g4, _⟩)
              | (go_at_call 13; with_reducible refine (HO2.out _ ?_).mono ?_; assumption; rintro e w5 ⟨a5, d5, rfl, hv5, g5, k5⟩)
              | (refine step_append_lies _ (by rfl) _ _ _ (by rfl) W.heap.size 39 i0 _ 2 48 Try.underlying33 hi0 hz0 hz1 hz2 rfl (by omega) _ ps.length (ps.flatMap fun x => [x.p, x.b]) (by rfl) ((HOW.out _ g5).alloc _) ⟨w5.heap.size, 0, none⟩ 1 1 [.slice a4 n d4, .slice a5 ks.length d5] (by rfl) (by rfl) (news2 w5 _ _) (by simp [Value.oneCell']) (by omega) hmx (by omega) (by have := g5.size; simp; omega) (w5.heap.size + 1) (by simp) ?_; intro gx cap7 w7 hown7 hgrow7 hgat7 hglt7))
            all_goals
              have hg5 := g5.size
              have hBx : Below W.heap.size W w5 := hB3.trans (g5.mono hbs3)
              have hBw7 : Below W.heap.size W w7 := (hBx.alloc hBx.size _).grown hgrow7 (by simp; omega) (fun k hk => (HLT.out k hk).1)
              have HRP : Hid (Row2 (fun b => W.heap.size ≤ b) W.heap.size w7 (.slice (some ⟨gx, 0, none⟩) (ps.length + 1) cap7) (ps ++ [⟨.slice a4 n d4, us.take n, .slice a5 ks.length d5, ks⟩])) :=
                (HR3.out.keep g5).push (x := ⟨.slice a4 n d4, us.take n, .slice a5 ks.length d5, ks⟩) ((hv4.keep k5).wider (fun b hb _ => ⟨by omega, fun e => by have := (HLT.out b e).2; omega⟩)) (hv5.wider (fun b hb _ => ⟨by omega, fun e => by have := (HLT.out b e).2; omega⟩)) hown7 hgrow7 (by
                  rcases hgat7 with e | e
                  · left; rw [e]; rfl
                  · right; rw [e]; simp [Value.ownBlock]) (by simp; omega)
              have HU7 : Hid (VsAt (fun b => b < W.heap.size) w7 (.slice (some ⟨bb, oo, none⟩) us.length c0) us) := HU3.out.stay (by have := hgrow7.size; simp at this; omega) (fun b hb _ => (hBw7.block b hb).trans (hB3.block b hb).symm)
              have HNP : Hid (rulesZ vs.length vs = (ps ++ [(⟨.slice a4 n d4, us.take n, .slice a5 ks.length d5, ks⟩ : B2)]).map B2.said ++ rulesZ g (us.drop (n + 1))) := by
                show _ = _
                rw [HNN.out, List.map_append, List.append_assoc]
                rfl
              have HBW := hid_mk hBw7
              clear hBw7 hBx hown7 hgrow7 hgat7 hglt7 hv4 hv5 k5 g5 g4 HO1 HO2 HF1 HF2 HF3 HOW HNN HU3 HR3 gd
              go_wp2
              have hlu := HLU.out
              exact ⟨⟨g, us.drop (n + 1), _, by rw [List.length_drop]; omega, HU7.out.dropO (n + 1) (by omega) rfl rfl (fun h => by rw [if_neg (by omega)]), HMU.out.drop (n + 1), HRP.out, HBW.out, HNP.out, by rw [List.length_append, List.length_drop, List.length_singleton]; omega⟩, by simp only [sliceLen]; omega⟩
          · obtain rfl : n = us.length := by omega
            have HF : Hid (ps.map B2.said = rulesZ vs.length vs) := by
              show _ = _
              rw [HN.out, dif_neg hnl, List.append_nil]
            clear HN
            go_wp2
            go_ret
            exact ⟨_, ps, rfl, HR3.out, HF.out, hB3⟩

end Go.Proofs.Ytihdiaklhkecmab
