/- gouachelaw03.ParseValues: the walk. -/
import Derived.Test.YtihdiaklhkecmabLivesV
namespace Go.Proofs.Ytihdiaklhkecmab
open Go.RowKit
set_option maxRecDepth 100000

theorem flat5c_at : ∀ (ts : List T5) (k i : Nat) (h : k < ts.length), i < 5 → (ts.flatMap t5Cells)[k * 5 + i]? = (t5Cells (ts[k]'h))[i]?
  | [], k, _, h, _ => by simp at h
  | t :: r, 0, i, _, hi => by
    simp only [List.flatMap_cons, Nat.zero_mul, Nat.zero_add]
    rw [List.getElem?_append_left (by simpa [t5Cells] using hi)]
    rfl
  | t :: r, k + 1, i, h, hi => by
    have e : (k + 1) * 5 + i = 5 + (k * 5 + i) := by omega
    rw [List.flatMap_cons, e, List.getElem?_append_right (by simp [t5Cells])]
    have e2 : 5 + (k * 5 + i) - (t5Cells t).length = k * 5 + i := by simp [t5Cells]
    rw [e2]
    exact flat5c_at r k i (by simpa using h) hi
theorem flat5c_len (ts : List T5) : (ts.flatMap t5Cells).length = ts.length * 5 := by
  induction ts with
  | nil => rfl
  | cons t r ih =>
    rw [List.flatMap_cons, List.length_append, ih, List.length_cons]
    simp [t5Cells]
    omega
theorem TsAt.own5 {w : World} {B : Nat} {v : Value} {ts : List T5} (h : w.ownsRow B 27 5 v ts.length (ts.flatMap t5Cells)) : TsAt w v ts := by
  obtain ⟨hl, h⟩ := h
  rcases h with ⟨rfl, hn⟩ | ⟨g, cap, cur, rfl, _, hg, hnc, hcm, hsz, hx⟩
  · have hts : ts = [] := List.length_eq_zero_iff.1 hn
    subst hts
    exact TsAt.nil w
  · refine ⟨_, cap, rfl, by omega, hcm, fun _ => ⟨g, 0, rfl, (Array.getElem?_eq_some_iff.1 hg).1, fun i hi j y hy => ?_⟩⟩
    have hj : j < 5 := by
      have := (List.getElem?_eq_some_iff.1 hy).1
      simpa [t5Cells] using this
    have h1 : (ts.flatMap t5Cells)[i * 5 + j]? = some y := by rw [flat5c_at ts i j hi hj, ← hy]
    have hlt : i * 5 + j < ts.length * 5 := by omega
    rw [← hx, List.getElem?_take_of_lt hlt] at h1
    rw [Nat.zero_add]
    simp only [World.cell?, hg]
    simpa using h1
theorem TsAt.news {W : World} {b off n c : Nat} {ts : List T5} (h : TsAt W (.slice (some ⟨b, off, none⟩) n c) ts) : ∀ j u, (ts.flatMap t5Cells)[j]? = some u → W.cell? ((⟨b, off, none⟩ : Addr).add j) = some u := by
  intro j u hu
  have hlt := (List.getElem?_eq_some_iff.1 hu).1
  rw [flat5c_len] at hlt
  obtain ⟨a, c', hv, _, _, h3⟩ := h
  obtain ⟨b', off', ea, hb, hc⟩ := h3 (by omega)
  subst ea
  cases hv
  have e : j = j / 5 * 5 + j % 5 := by omega
  have hk : j / 5 < ts.length := by omega
  rw [e, flat5c_at ts (j / 5) (j % 5) hk (by omega)] at hu
  have := hc (j / 5) hk (j % 5) u hu
  rw [Addr.add_mid, show off + j = off + j / 5 * 5 + j % 5 by omega]
  exact this
theorem wpList_append_same {P : Program} (w : World) {ops : Array Oper} {rest : List Oper} {o : Oper} {a : Act} {Q : Exit → Act → World → Prop} (hgd : o.guard = none) (s x : Operand) (t : TypeId)
    (ho : o.op = .call { callee := .builtin .append, args := #[s, x], argTypes := #[t, t] }) (v u : Value) (hs : a.eval s = v) (hx : a.eval x = u) (hr : (Builtin.append_ #[t, t] o.type #[v, u]).run P w = .ok v w) (h : wpList P ops Q rest (a.put o.dst v) w) : wpList P ops Q (o :: rest) a w := by
  refine wpList_plain hgd fun K hK => ?_
  unfold Oper.wp execOp
  simp only [ho, resolve, invoke, builtin, Sem.run_bind, Sem.run_pure, Result.andThen_ok, List.map_toArray, List.map_cons, List.map_nil, hs, hx, hr]
  exact hK _ _ h
end Go.Proofs.Ytihdiaklhkecmab
