/- parse.Decls of any values. -/
import Derived.Test.YtihdiaklhkecmabDeclV
namespace Go.Proofs.Ytihdiaklhkecmab
open Go.RowKit
set_option maxRecDepth 100000

/-- A declaration in memory, and what it says. -/
structure D3 where
  nm : ByteArray
  v : Value
  vv : List V
  im : Bool
def D3.said (x : D3) : ByteArray × List V × Bool := (x.nm, x.vv, x.im)
def D3.cells (x : D3) : List Value := [.string x.nm, x.v, .bool x.im]
def Row3 (P : Nat → Prop) (B : Nat) (w : World) (out : Value) (ps : List D3) : Prop :=
  w.ownsRow B 41 3 out ps.length (ps.flatMap D3.cells) ∧ (∀ g, out.ownBlock = some g → P g) ∧ ∀ x ∈ ps, VsAt (fun b => P b ∧ out.ownBlock ≠ some b) w x.v x.vv
theorem Row3.keep {P : Nat → Prop} {B : Nat} {w w' : World} {out : Value} {ps : List D3} (h : Row3 P B w out ps) (hb : Below w.heap.size w w') : Row3 P B w' out ps := ⟨ownsRow_below h.1 hb, h.2.1, fun p hp => VsAt.keep hb (h.2.2 p hp)⟩
theorem Row3.push {P : Nat → Prop} {B : Nat} {w w' : World} {o : Obj} {out v' : Value} {ps : List D3} {x : D3} (h : Row3 P B w out ps) (hk : VsAt (fun b => P b ∧ out.ownBlock ≠ some b) w x.v x.vv)
    (hown : w'.ownsRow B 41 3 v' (ps.length + 1) ((ps.flatMap D3.cells) ++ x.cells)) (hg : (w.alloc o).grownBy w' out.ownBlock) (hat : v'.ownBlock = out.ownBlock ∨ v'.ownBlock = some (w.alloc o).heap.size) (hP : P (w.alloc o).heap.size) : Row3 P B w' v' (ps ++ [x]) := by
  have hs : (w.alloc o).heap.size = w.heap.size + 1 := by simp
  have keep : ∀ {x : Value} {xs : List V}, VsAt (fun b => P b ∧ out.ownBlock ≠ some b) w x xs → VsAt (fun b => P b ∧ v'.ownBlock ≠ some b) w' x xs := by
    intro x xs hx
    have h1 : VsAt (fun b => (P b ∧ out.ownBlock ≠ some b) ∧ v'.ownBlock ≠ some b) w x xs := hx.wider (fun b hb hlt => ⟨hb, by
      rcases hat with e | e
      · rw [e]; exact hb.2
      · rw [e, hs]
        intro e2
        have := Option.some.inj e2
        omega⟩)
    have h2 := h1.stay (W' := w') (by have := hg.size; omega) (fun b hb hlt => by
      rw [hg.block b (by omega) (fun e => hb.1.2 e.symm)]
      exact Below.heap_alloc w o b hlt)
    exact h2.wider (fun b hb _ => ⟨hb.1.1, hb.2⟩)
  refine ⟨?_, ?_, ?_⟩
  · rw [List.length_append, List.flatMap_append, List.flatMap_singleton]
    exact hown
  · intro g hgo
    rcases hat with e | e
    · exact h.2.1 g (e.symm.trans hgo)
    · rw [e] at hgo
      cases hgo
      exact hP
  · intro p hp
    rcases List.mem_append.1 hp with hp | hp
    · exact keep (h.2.2 p hp)
    · rw [List.mem_singleton.1 hp]
      exact keep hk
/-- The document's declarations of values. -/
def declsZ : Nat → List V → List (ByteArray × List V × Bool)
  | 0, _ => []
  | _ + 1, [] => []
  | f + 1, x :: r =>
    if hasZ [13, 17] x.tok.k then declsZ f r
    else if hasZ [3] x.tok.k then declsZ f ((x :: r).drop (nextZ [17, 23] (x :: r) + 1))
    else (declZ x (r.take (nextZ [17] r))).toList ++ declsZ f (r.drop (nextZ [17] r))
theorem declsZ_nil (g : Nat) : declsZ g [] = [] := by cases g <;> rfl
theorem has17 {k : Int} (h : hasZ [13, 17] k = false) : hasZ [17] k = false := by
  unfold hasZ at h ⊢
  simp at h ⊢
  exact h.2
theorem Try.info41 : (Try.prog.info? 41).map (fun i => (i.zero, i.size, i.bytes)) = some (some (.agg #[.string ⟨#[]⟩, .slice none 0 0, .bool false]), 3, 48) := by kernel_rfl
theorem news3 (w : World) (x0 x1 x2 : Value) (j : Nat) (u : Value) (h : [x0, x1, x2][j]? = some u) : (w.alloc (.cells #[x0, x1, x2] 41)).cell? ((⟨w.heap.size, 0, none⟩ : Addr).add j) = some u :=
  World.news_of_block (cs := #[x0, x1, x2]) (t := 41) (fr := (0, 0)) (heap_alloc_new w _) j u h
set_option maxHeartbeats 4000000 in
theorem decls_any {P : Nat → Prop} {W : World} {v : Value} {vs : List V} (hv : VsAt P W v vs) (hm : V.most vs) (hsz : ∀ y ∈ vs, y.tok.tx.size ≤ 140737488355328) (hn : vs.length ≤ 1000000) :
    Calls Try.prog 12 #[v] W fun e w' => ∃ out ps, e = .returned out ∧ Row3 (fun b => W.heap.size ≤ b) W.heap.size w' out ps ∧ ps.map D3.said = declsZ vs.length vs ∧ Below W.heap.size W w' := by
  obtain ⟨i0, hi0, hz0, hz1, hz2⟩ := info_parts Try.info41
  have HV : Hid (VsAt (fun b => b < W.heap.size) W v vs) := hv.wider (fun b _ h => h)
  have HM := hid_mk hm
  have HS : Hid (Hid (∀ y ∈ vs, y.tok.tx.size ≤ 140737488355328)) := hsz
  obtain ⟨a, cap, rfl, hl, hcap⟩ := hv.slice
  clear hv hm hsz
  go_enter Try.func12, Try.ntmps12
  go_wp2
  go_loopw [0, 3] (fun a0 a3 wr => ∃ (g : Nat) (us : List V) (ps : List D3), us.length ≤ g ∧ VsAt (fun b => b < W.heap.size) wr a0 us ∧ V.most us ∧ Hid (∀ y ∈ us, y.tok.tx.size ≤ 140737488355328) ∧ Row3 (fun b => W.heap.size ≤ b) W.heap.size wr a3 ps ∧ Below W.heap.size W wr ∧ Hid (declsZ vs.length vs = ps.map D3.said ++ declsZ g us) ∧ ps.length + us.length ≤ vs.length) (fun a0 _ _ => sliceLen a0)
  case atStart => exact ⟨vs.length, vs, [], Nat.le_refl _, HV.out, HM.out, HS.out, ⟨World.ownsRow_nil _ _ _ _, fun g hg => by simp [Value.ownBlock] at hg, fun p hp => by cases hp⟩, Below.refl _ _, (rfl : _ = _), by simp⟩
  case round =>
    obtain ⟨g, us, ps, hg, hus, hmu, hss, hrow, hB, hE, hpl⟩ := hrel
    clear HV HM HS
    cases us with
    | nil =>
      obtain ⟨a0, c0, rfl, _⟩ := hus.slice
      have HE : Hid (ps.map D3.said = declsZ vs.length vs) := by
        show _ = _
        rw [hE.out, declsZ_nil, List.append_nil]
      have HROW := hid_mk hrow
      clear hrow hE hus hmu
      go_wp2
      go_ret
      exact ⟨_, ps, rfl, HROW.out, HE.out, hB⟩
    | cons x r =>
      obtain ⟨g, rfl⟩ : ∃ g', g = g' + 1 := ⟨g - 1, by rw [List.length_cons] at hg; omega⟩
      obtain ⟨a0, c0, rfl, hl0, hc0⟩ := hus.slice
      have HUS := hid_mk hus
      have HMU := hid_mk hmu
      obtain ⟨_, _, _, hcs⟩ := hus.cells
      obtain ⟨b, off, kv, rfl, hbl, hcc, hkid⟩ := hcs 0 (by simp)
      simp only [Nat.zero_mul, Nat.add_zero, List.getElem_cons_zero] at hcc hkid
      obtain ⟨⟨tk, tx, un, wh, fl⟩, xk⟩ := x
      obtain ⟨ka, kc, rfl, _, _⟩ := hkid.slice
      have HQ : Hid (∀ w', Below wr.heap.size wr w' → w'.cell? ⟨b, off, none⟩ = some (.int .i64 tk) ∧ w'.cell? ⟨b, off + 1, none⟩ = some (.string tx) ∧ w'.cell? ⟨b, off + 2, none⟩ = some (.string un) ∧ w'.cell? ⟨b, off + 3, none⟩ = some (.bool wh) ∧ w'.cell? ⟨b, off + 4, none⟩ = some (.bool fl) ∧ w'.cell? ⟨b, off + 5, none⟩ = some (.slice ka xk.length kc)) := fun w' hw' =>
        have hq := fun j y hy => (hw'.cell (p := ⟨b, off + j, none⟩) hbl).trans (hcc j y hy)
        ⟨hq 0 _ rfl, hq 1 _ rfl, hq 2 _ rfl, hq 3 _ rfl, hq 4 _ rfl, hq 5 _ rfl⟩
      have HNE : Hid (declsZ (g + 1) (V.mk ⟨tk, tx, un, wh, fl⟩ xk :: r) = if hasZ [13, 17] tk then declsZ g r else if hasZ [3] tk then declsZ g ((V.mk ⟨tk, tx, un, wh, fl⟩ xk :: r).drop (nextZ [17, 23] (V.mk ⟨tk, tx, un, wh, fl⟩ xk :: r) + 1)) else (declZ (V.mk ⟨tk, tx, un, wh, fl⟩ xk) (r.take (nextZ [17] r))).toList ++ declsZ g (r.drop (nextZ [17] r))) := by
        show _ = _
        rw [declsZ]
        rfl
      have HNX17 : Hid (hasZ [13, 17] tk = false → nextZ [17] (V.mk ⟨tk, tx, un, wh, fl⟩ xk :: r) = nextZ [17] r + 1) := fun h => by
        rw [nextZ, show (V.mk ⟨tk, tx, un, wh, fl⟩ xk).tok.k = tk from rfl, has17 h]
        rfl
      have hi1 := fun w => is_lit [13, 17] (by decide) w tk tx un wh fl (.slice ka xk.length kc)
      have hi2 := fun w => is_lit [3] (by decide) w tk tx un wh fl (.slice ka xk.length kc)
      rw [List.length_cons] at hg hl0 hpl
      simp only [List.length_cons]
      generalize hasZ [13, 17] tk = y1 at *
      generalize hasZ [3] tk = y2 at *
      obtain ⟨q0, q1, q2, q3, q4, q5⟩ := HQ.out wr (Below.refl _ _)
      have HROW := hid_mk hrow
      have HBB := hid_mk hB
      clear hcs hcc hkid hus hmu hrow hB
      go_wp2_with (go_at_call 17; fail)
      refine (hi1 _).mono ?_
      rintro e w1 ⟨rfl, hb1⟩
      have hB1 : Below W.heap.size W w1 := HBB.out.trans (hb1.mono HBB.out.size)
      have HR1 := hid_mk (HROW.out.keep hb1)
      have HU1 := hid_mk (HUS.out.keep hb1)
      clear hi1 q0 q1 q2 q3 q4 q5 HROW HBB
      cases y1 with
      | true =>
        have HN : Hid (declsZ vs.length vs = ps.map D3.said ++ declsZ g r) := by
          show _ = _
          rw [hE.out, HNE.out, if_pos rfl]
        clear HNE hE hi2
        go_wp2
        go_roundw
        case rel => exact ⟨g, r, ps, by omega, HU1.out.dropO 1 (by simp) (by simp) rfl (fun h => by simp only [List.length_cons] at h; rw [if_neg (by omega)]), HMU.out.drop 1, fun y hy => hss.out y (List.mem_cons_of_mem _ hy), HR1.out, hB1, HN.out, by omega⟩
        case measure => simp [sliceLen]
      | false =>
        obtain ⟨q0, q1, q2, q3, q4, q5⟩ := HQ.out w1 hb1
        go_wp2_with (go_at_call 17; fail)
        refine (hi2 _).mono ?_
        rintro e w2 ⟨rfl, hb2⟩
        have hB2 : Below W.heap.size W w2 := hB1.trans (hb2.mono hB1.size)
        have HR2 := hid_mk (HR1.out.keep hb2)
        have HU2 := hid_mk (HU1.out.keep hb2)
        clear hi2 q0 q1 q2 q3 q4 q5 HR1 HU1 hB1 hb2 hb1 HQ HUS
        cases y2 with
        | true =>
          have HN : Hid (declsZ vs.length vs = ps.map D3.said ++ declsZ g ((V.mk ⟨tk, tx, un, wh, fl⟩ xk :: r).drop (nextZ [17, 23] (V.mk ⟨tk, tx, un, wh, fl⟩ xk :: r) + 1))) := by
            show _ = _
            rw [hE.out, HNE.out, if_neg (by decide), if_pos rfl]
          clear HNE hE
          have hba := behindAt_any HU2.out HMU.out.len
          have hdl : ((V.mk ⟨tk, tx, un, wh, fl⟩ xk :: r).drop (nextZ [17, 23] (V.mk ⟨tk, tx, un, wh, fl⟩ xk :: r) + 1)).length ≤ r.length := by simp
          have HSD : Hid (∀ y ∈ (V.mk ⟨tk, tx, un, wh, fl⟩ xk :: r).drop (nextZ [17, 23] (V.mk ⟨tk, tx, un, wh, fl⟩ xk :: r) + 1), y.tok.tx.size ≤ 140737488355328) := fun y hy => hss.out y (List.mem_of_mem_drop hy)
          have HMD := hid_mk (HMU.out.drop (nextZ [17, 23] (V.mk ⟨tk, tx, un, wh, fl⟩ xk :: r) + 1))
          simp only [List.length_cons] at hba
          generalize (V.mk ⟨tk, tx, un, wh, fl⟩ xk :: r).drop (nextZ [17, 23] (V.mk ⟨tk, tx, un, wh, fl⟩ xk :: r) + 1) = ds at *
          clear HU2 HMU
          go_wp2_with (go_at_call 18; fail)
          refine hba.mono ?_
          rintro e w3 ⟨o3, rfl, ho3, hb3⟩
          have HO3 := hid_mk ho3
          obtain ⟨a3, c3, rfl, _, _⟩ := ho3.slice
          clear ho3 hba
          go_wp2
          go_roundw
          case rel => exact ⟨g, ds, ps, by omega, HO3.out, HMD.out, HSD, HR2.out.keep hb3, hB2.trans (hb3.mono hB2.size), HN.out, by omega⟩
          case measure => simp [sliceLen]; omega
        | false =>
          have HN : Hid (declsZ vs.length vs = ps.map D3.said ++ ((declZ (V.mk ⟨tk, tx, un, wh, fl⟩ xk) (r.take (nextZ [17] r))).toList ++ declsZ g (r.drop (nextZ [17] r)))) := by
            show _ = _
            rw [hE.out, HNE.out, if_neg (by decide), if_neg (by decide)]
          clear HNE hE
          have hnx := next_lit [17] (by decide) HU2.out HMU.out.len
          rw [HNX17.out (by trivial)] at hnx
          have hle := nextZ_le [17] r
          simp only [List.length_cons] at hnx
          generalize nextZ [17] r = n at *
          go_wp2_with (go_at_call 19; fail)
          refine hnx.mono ?_
          rintro e w3 ⟨rfl, hb3⟩
          have hB3 : Below W.heap.size W w3 := hB2.trans (hb3.mono hB2.size)
          have HR3 := hid_mk (HR2.out.keep hb3)
          have HU3 := hid_mk (HU2.out.keep hb3)
          clear hnx HR2 HU2 hb3 HNX17
          have HTA : Hid (∀ w', Below w3.heap.size w3 w' → Calls Try.prog 23 #[.slice (some ⟨b, off, none⟩) (n + 1) c0] w' fun e w'' => DeclSaid w'.heap.size e w'' (declZ (V.mk ⟨tk, tx, un, wh, fl⟩ xk) (r.take n)) ∧ Below w'.heap.size w' w'') := fun w' hw' => by
            have h1 := (HU3.out.keep hw').take (n + 1) (by simp; omega)
            rw [List.take_succ_cons] at h1
            have h2 := HMU.out.take (n + 1)
            rw [List.take_succ_cons] at h2
            exact decl_any h1 h2 (fun y hy => hss.out y (by
              rcases List.mem_cons.1 hy with rfl | hy
              · exact List.mem_cons_self ..
              · exact List.mem_cons_of_mem _ (List.mem_of_mem_take hy)))
          generalize declZ (V.mk ⟨tk, tx, un, wh, fl⟩ xk) (r.take n) = dz at *
          go_wp2_with (go_at_call 23; fail)
          refine (HTA.out w3 (Below.refl _ _)).mono ?_
          rintro e w4 ⟨hd, hb4⟩
          have hB4 : Below W.heap.size W w4 := hB3.trans (hb4.mono hB3.size)
          have HR4 := hid_mk (HR3.out.keep hb4)
          have HU4 := hid_mk (HU3.out.keep hb4)
          have hbs4 := hB4.size
          have HLT : Hid (∀ k, u3.ownBlock = some k → k < w3.heap.size) := fun k hk => (HR3.out.1.lt k hk).2
          clear HTA HU3 HR3
          cases dz with
          | none =>
            have hd1 : e = .returned (.tuple #[.agg #[.string ⟨#[]⟩, .slice none 0 0, .bool false], .bool false]) := hd
            subst hd1
            have HNN : Hid (declsZ vs.length vs = ps.map D3.said ++ declsZ g (r.drop n)) := HN.out
            have hal : ∀ o, Below w4.heap.size w4 (w4.alloc o) := fun o => (Below.refl _ w4).alloc (Nat.le_refl _) o
            clear HN hd
            go_wp2
            go_roundw
            case rel => exact ⟨g, r.drop n, ps, by rw [List.length_drop]; omega, (HU4.out.keep (hal _)).dropO (n + 1) (by simp; omega) (by simp only [List.length_cons]; omega) rfl (fun h => by simp only [List.length_cons] at h; rw [if_neg (by omega)]), HMU.out.drop (n + 1), fun y hy => hss.out y (List.mem_cons_of_mem _ (List.mem_of_mem_drop hy)), HR4.out.keep (hal _), hB4.trans ((hal _).mono hbs4), HNN.out, by rw [List.length_drop]; omega⟩
            case measure => simp only [sliceLen]; omega
          | some d =>
            obtain ⟨o5, he, ho5⟩ := hd
            subst he
            obtain ⟨nm, dv, im⟩ := d
            obtain ⟨a5, c5, rfl, _, _⟩ := ho5.slice
            have HNN : Hid (declsZ vs.length vs = (ps ++ [(⟨nm, .slice a5 dv.length c5, dv, im⟩ : D3)]).map D3.said ++ declsZ g (r.drop n)) := by
              show _ = _
              rw [HN.out, List.map_append, List.append_assoc]
              rfl
            have hal : Below w4.heap.size w4 (w4.alloc (.cells #[.string nm, .slice a5 dv.length c5, .bool im] 41)) := (Below.refl _ w4).alloc (Nat.le_refl _) _
            have HX := hid_mk (heap_alloc_new w4 (.cells #[.string nm, .slice a5 dv.length c5, .bool im] 41))
            have HR5 := hid_mk (HR4.out.keep hal)
            have HU5 := hid_mk (HU4.out.keep hal)
            have HO5 : Hid (VsAt (fun b => W.heap.size ≤ b ∧ u3.ownBlock ≠ some b) (w4.alloc (.cells #[.string nm, .slice a5 dv.length c5, .bool im] 41)) (.slice a5 dv.length c5) dv) := (ho5.keep hal).wider (fun b hb _ => ⟨Nat.le_trans hB3.size hb, fun e => by have := HLT.out b e; omega⟩)
            have hB5 : Below W.heap.size W (w4.alloc (.cells #[.string nm, .slice a5 dv.length c5, .bool im] 41)) := hB4.trans (hal.mono hbs4)
            have hown := HR5.out.1
            have hbs5 := hB5.size
            clear HN ho5 HR4 HU4
            go_upto_region 6 with fail
            generalize w4.alloc (.cells #[.string nm, .slice a5 dv.length c5, .bool im] 41) = w5 at *
            have y0 : w5.cell? ⟨w4.heap.size, 0, none⟩ = some (.string nm) := by simp [World.cell?, HX.out]
            have y1 : w5.cell? ⟨w4.heap.size, 1, none⟩ = some (.slice a5 dv.length c5) := by simp [World.cell?, HX.out]
            have y2 : w5.cell? ⟨w4.heap.size, 2, none⟩ = some (.bool im) := by simp [World.cell?, HX.out]
            go_wp2_with (at_builtin; go_must (refine wpList_append_own_at _ rfl _ _ 36 rfl W.heap.size 41 i0 _ 3 48 Try.underlying36 hi0 hz0 hz1 hz2 rfl (by decide) _ _ _ rfl (hown.alloc _) ⟨w5.heap.size, 0, none⟩ 1 1 [.string nm, .slice a5 dv.length c5, .bool im] rfl rfl (news3 w5 _ _ _) (by intro u hu; simp at hu; rcases hu with rfl | rfl | rfl <;> rfl) (by unfold maxLen; omega) (by omega) (by simp; omega) ?_); intro v' w7 hown7 hgrow7 _ hat7)
            have hBw7 : Below W.heap.size W w7 := (hB5.alloc hbs5 _).grown hgrow7 (by simp; omega) (fun k hk => (hown.lt k hk).1)
            have HRP := HR5.out.push (x := ⟨nm, .slice a5 dv.length c5, dv, im⟩) HO5.out hown7 hgrow7 hat7 (by simp; omega)
            have HU7 := HU5.out.stay (W' := w7) (by have := hgrow7.size; simp at this; omega) (fun b hb _ => (hBw7.block b hb).trans (hB5.block b hb).symm)
            exact ⟨⟨g, r.drop n, _, by rw [List.length_drop]; omega, HU7.dropO (n + 1) (by simp; omega) (by simp only [List.length_cons]; omega) rfl (fun h => by simp only [List.length_cons] at h; rw [if_neg (by omega)]), HMU.out.drop (n + 1), fun y hy => hss.out y (List.mem_cons_of_mem _ (List.mem_of_mem_drop hy)), HRP, hBw7, HNN.out, by rw [List.length_append, List.length_drop, List.length_singleton]; omega⟩, by simp only [sliceLen]; omega⟩

end Go.Proofs.Ytihdiaklhkecmab
