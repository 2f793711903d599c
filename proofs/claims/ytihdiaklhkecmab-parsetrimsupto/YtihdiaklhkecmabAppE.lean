/- An append of nothing; an append of values that lie elsewhere; lists of values, value by value. -/
import Derived.Test.YtihdiaklhkecmabFlatV
import Derived.Test.YtihdiaklhkecmabSameW
namespace Go.Proofs.Ytihdiaklhkecmab
open Go.RowKit
set_option maxRecDepth 100000

theorem run_append_empty {w : World} {base size n : Nat} {t t' e : TypeId} {i : TypeInfo} {v : Value} {xs : List Value} (ht : Try.prog.underlying t = some (.slice e)) (hi : Try.prog.info? e = some i) (hown : w.ownsRow base e size v n xs) (x : Option Addr) (c : Nat) :
    (Builtin.append_ #[t, t] t' #[v, .slice x 0 c]).run Try.prog w = .ok v w := by
  obtain ⟨hl, h⟩ := hown
  rcases h with ⟨rfl, hn⟩ | ⟨g, cap, cur, rfl, _, hg, hnc, hcm, hsz, hx⟩
  · cases x <;> simp [Builtin.append_, run_underlying ht, sizeOf, typeInfo, hi, Builtin.lenOf, Builtin.firstCells, loadCells, loadCellsFrom]
  · cases x <;> simp [Builtin.append_, run_underlying ht, sizeOf, typeInfo, hi, Builtin.lenOf, Builtin.firstCells, loadCells, loadCellsFrom, storeCells, hnc]
/-- Many values more. -/
theorem Row.cat {P : Nat → Prop} {B : Nat} {w w' : World} {out v' : Value} {ps qs : List (T5 × Value × List V)} (h : Row P B w out ps) (hk : ∀ q ∈ qs, VsAt (fun b => P b ∧ out.ownBlock ≠ some b) w q.2.1 q.2.2)
    (hown : w'.ownsRow B 29 6 v' (ps.length + qs.length) ((ps.flatMap fun p => vCells p.1 p.2.1) ++ (qs.flatMap fun p => vCells p.1 p.2.1))) (hg : w.grownBy w' out.ownBlock) (hat : v'.ownBlock = out.ownBlock ∨ v'.ownBlock = some w.heap.size) (hP : P w.heap.size) : Row P B w' v' (ps ++ qs) := by
  have keep : ∀ {x : Value} {xs : List V}, VsAt (fun b => P b ∧ out.ownBlock ≠ some b) w x xs → VsAt (fun b => P b ∧ v'.ownBlock ≠ some b) w' x xs := by
    intro x xs hx
    have h1 : VsAt (fun b => (P b ∧ out.ownBlock ≠ some b) ∧ v'.ownBlock ≠ some b) w x xs := hx.wider (fun b hb hlt => ⟨hb, by
      rcases hat with e | e
      · rw [e]; exact hb.2
      · rw [e]
        intro e2
        have := Option.some.inj e2
        omega⟩)
    have h2 := h1.stay (W' := w') hg.size (fun b hb hlt => hg.block b hlt (fun e => hb.1.2 e.symm))
    exact h2.wider (fun b hb _ => ⟨hb.1.1, hb.2⟩)
  refine ⟨?_, ?_, ?_⟩
  · rw [List.length_append, List.flatMap_append]
    exact hown
  · intro g hgo
    rcases hat with e | e
    · exact h.2.1 g (e.symm.trans hgo)
    · rw [e] at hgo
      cases hgo
      exact hP
  · intro p hp
    rcases List.mem_append.1 hp with hp | hp
    · exact keep (h.2.2 p hp)
    · exact keep (hk p hp)
theorem flat6_len (ps : List (T5 × Value × List V)) : (ps.flatMap fun p => vCells p.1 p.2.1).length = ps.length * 6 := by
  induction ps with
  | nil => rfl
  | cons t r ih =>
    rw [List.flatMap_cons, List.length_append, ih, List.length_cons]
    simp [vCells]
    omega
/-- The values of a slice, one by one, with what each holds. -/
theorem VsAt.parts {P : Nat → Prop} {W : World} {a : Option Addr} {n cap : Nat} {vs : List V} (h : VsAt P W (.slice a n cap) vs) : ∃ qs : List (T5 × Value × List V), qs.map mkV = vs ∧ (∀ q ∈ qs, VsAt P W q.2.1 q.2.2) ∧ (∀ u ∈ qs.flatMap fun p => vCells p.1 p.2.1, u.oneCell' = true) ∧
    (0 < n → ∃ b off, a = some ⟨b, off, none⟩ ∧ b < W.heap.size ∧ P b ∧ ∀ j u, (qs.flatMap fun p => vCells p.1 p.2.1)[j]? = some u → W.cell? ((⟨b, off, none⟩ : Addr).add j) = some u) := by
  generalize hv : Value.slice a n cap = v at h
  cases h with
  | mk a' cap' vs b off kv h1 h2 ha hc hr =>
    cases hv
    have hlen : ((List.range vs.length).attach.map fun i => (((vs[i.1]'(List.mem_range.1 i.2)).tok, kv i.1, (vs[i.1]'(List.mem_range.1 i.2)).kids) : T5 × Value × List V)).length = vs.length := by simp
    have hget : ∀ i (hi : i < vs.length), ((List.range vs.length).attach.map fun i => (((vs[i.1]'(List.mem_range.1 i.2)).tok, kv i.1, (vs[i.1]'(List.mem_range.1 i.2)).kids) : T5 × Value × List V))[i]'(by rw [hlen]; exact hi) = ((vs[i]'hi).tok, kv i, (vs[i]'hi).kids) := fun i hi => by simp
    generalize (List.range vs.length).attach.map (fun i => (((vs[i.1]'(List.mem_range.1 i.2)).tok, kv i.1, (vs[i.1]'(List.mem_range.1 i.2)).kids) : T5 × Value × List V)) = qs at *
    refine ⟨qs, ?_, ?_, ?_, ?_⟩
    · refine List.ext_getElem (by simp [hlen]) (fun i h1 h2 => ?_)
      rw [List.getElem_map, hget i h2]
      cases vs[i]'h2
      rfl
    · intro q hq
      obtain ⟨i, hi, rfl⟩ := List.getElem_of_mem hq
      rw [hget i (by omega)]
      exact hr i (by omega)
    · intro u hu
      obtain ⟨q, hq, hu⟩ := List.mem_flatMap.1 hu
      obtain ⟨i, hi, rfl⟩ := List.getElem_of_mem hq
      rw [hget i (by omega)] at hu
      obtain ⟨x, c, e, _, _⟩ := (hr i (by omega)).slice
      simp [vCells] at hu
      rcases hu with rfl | rfl | rfl | rfl | rfl | rfl
      all_goals first | rfl | (rw [e]; rfl)
    · intro h0
      obtain ⟨ea, hb, hp⟩ := ha h0
      refine ⟨b, off, ea, hb, hp, fun j u hu => ?_⟩
      have hlt := (List.getElem?_eq_some_iff.1 hu).1
      rw [flat6_len, hlen] at hlt
      have e : j = j / 6 * 6 + j % 6 := by omega
      have hk : j / 6 < vs.length := by omega
      rw [e, flat_at qs (j / 6) (j % 6) (by omega) (by omega), hget (j / 6) hk] at hu
      have := hc (j / 6) hk (j % 6) u hu
      rw [Addr.add_mid, show off + j = off + j / 6 * 6 + j % 6 by omega]
      exact this
/-- An append of values, many or none, to a row of one's own. -/
theorem wpList_append_row {ops : Array Oper} {rest : List Oper} {o : Oper} {a : Act} {Q : Exit → Act → World → Prop} {w : World} (hgd : o.guard = none) (s x : Operand) (ho : o.op = .call { callee := .builtin .append, args := #[s, x], argTypes := #[22, 22] })
    {P : Nat → Prop} {B : Nat} {v u : Value} {ps : List (T5 × Value × List V)} {vs : List V} (hs : a.eval s = v) (hx : a.eval x = u) (hrow : Row P B w v ps) (hu : VsAt (fun b => P b ∧ v.ownBlock ≠ some b) w u vs) (hn : ps.length + vs.length ≤ 1000000) (hB : B ≤ w.heap.size) (hP : P w.heap.size)
    (h : ∀ v' w' qs, Row P B w' v' (ps ++ qs) → qs.map mkV = vs → w.grownBy w' v.ownBlock → wpList Try.prog ops Q rest (a.put o.dst v') w') : wpList Try.prog ops Q (o :: rest) a w := by
  obtain ⟨i0, hi0, hz0, hz1, hz2⟩ := info_parts Try.info29
  obtain ⟨ua, uc, rfl, _, _⟩ := hu.slice
  obtain ⟨qs, hq1, hq2, hq3, hq4⟩ := hu.parts
  have hql : qs.length = vs.length := by rw [← hq1, List.length_map]
  by_cases h0 : 0 < vs.length
  · obtain ⟨b, off, rfl, _, _, hcell⟩ := hq4 h0
    refine wpList_append_own_at w hgd s x 22 ho B 29 i0 _ 6 72 Try.underlying22 hi0 hz0 hz1 hz2 rfl (by decide) v ps.length _ hs hrow.1 ⟨b, off, none⟩ vs.length uc _ hx (by rw [flat6_len, hql]) hcell hq3 (by unfold maxLen; omega) (by omega) hB ?_
    intro v' w' hown hg _ hat
    exact h v' w' qs (hrow.cat hq2 (by rw [hql]; exact hown) hg hat hP) hq1 hg
  · have hv0 : vs = [] := List.length_eq_zero_iff.1 (by omega)
    subst hv0
    have hq0 : qs = [] := by simpa using hq1
    subst hq0
    refine wpList_append_same w hgd s x 22 ho v _ hs hx (run_append_empty Try.underlying22 hi0 hrow.1 ua uc) ?_
    exact h v w [] (by simpa using hrow) rfl ⟨rfl, rfl, rfl, Nat.le_refl _, fun _ _ _ => rfl⟩

end Go.Proofs.Ytihdiaklhkecmab
