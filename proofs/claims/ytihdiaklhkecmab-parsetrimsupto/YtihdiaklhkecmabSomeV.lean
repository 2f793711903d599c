/- gouacheref03.some: values up to what closes them, whatever the tokens. -/
import Derived.Test.YtihdiaklhkecmabSameV
import Derived.Deep.AppendLies
import Derived.Maps.AppendAt
import Derived.Deep.DeepCutAuto
namespace Go.Proofs.Ytihdiaklhkecmab
open Go.RowKit
set_option maxRecDepth 100000

/-- The slice holds the tokens. -/
def TsAt (W : World) (v : Value) (ts : List T5) : Prop :=
  ∃ a cap, v = .slice a ts.length cap ∧ ts.length ≤ cap ∧ cap ≤ 9223372036854775807 ∧ (0 < ts.length → ∃ b off, a = some ⟨b, off, none⟩ ∧ b < W.heap.size ∧ ∀ i (h : i < ts.length), ∀ j y, (t5Cells (ts[i]'h))[j]? = some y → W.cell? ⟨b, off + i * 5 + j, none⟩ = some y)
theorem TsAt.keep {W W' : World} (hb : Below W.heap.size W W') {v : Value} {ts : List T5} (h : TsAt W v ts) : TsAt W' v ts := by
  obtain ⟨a, cap, hv, h1, h2, h3⟩ := h
  refine ⟨a, cap, hv, h1, h2, fun h0 => ?_⟩
  obtain ⟨b, off, ha, hlt, hc⟩ := h3 h0
  exact ⟨b, off, ha, Nat.lt_of_lt_of_le hlt hb.size, fun i h j y hy => (hb.cell (p := ⟨b, off + i * 5 + j, none⟩) hlt).trans (hc i h j y hy)⟩
theorem TsAt.nil (W : World) : TsAt W (.slice none 0 0) [] := ⟨none, 0, rfl, Nat.le_refl _, by decide, fun h => absurd h (by simp)⟩
/-- The kind that closes what a kind opens; 0: it opens nothing. -/
def closeZ (k : Int) : Int := if k = 19 then 20 else if k = 21 ∨ k = 2 then 22 else if k = 23 then 24 else 0
/-- The document's values of tokens. -/
def someZ : Nat → List T5 → Int → Int → List V × List T5
  | 0, _, _, _ => ([], [])
  | _ + 1, [], _, _ => ([], [])
  | f + 1, t :: r, c, n =>
    if c ≠ 0 ∧ t.k = c then ([], r)
    else if closeZ t.k = 0 then (V.mk t [] :: (someZ f r c n).1, (someZ f r c n).2)
    else if 64 < n + 1 then someZ f (someZ f r (closeZ t.k) (n + 1)).2 c n
    else (V.mk t (someZ f r (closeZ t.k) (n + 1)).1 :: (someZ f (someZ f r (closeZ t.k) (n + 1)).2 c n).1, (someZ f (someZ f r (closeZ t.k) (n + 1)).2 c n).2)
theorem some_len : ∀ (f : Nat) (l : List T5) (c n : Int), (someZ f l c n).2.length ≤ l.length
  | 0, l, _, _ => by simp [someZ]
  | _ + 1, [], _, _ => by simp [someZ]
  | f + 1, t :: r, c, n => by
    have h1 := some_len f r c n
    have h2 := some_len f r (closeZ t.k) (n + 1)
    have h3 := some_len f (someZ f r (closeZ t.k) (n + 1)).2 c n
    rw [someZ]
    repeat' split
    all_goals simp only [List.length_cons]
    all_goals omega
/-- A row of values of one's own, with what is within each, which lies outside of it: an append may write the row's own block in place. -/
def Row (P : Nat → Prop) (B : Nat) (w : World) (out : Value) (ps : List (T5 × Value × List V)) : Prop :=
  w.ownsRow B 29 6 out ps.length (ps.flatMap fun p => vCells p.1 p.2.1) ∧ (∀ g, out.ownBlock = some g → P g) ∧ ∀ p ∈ ps, VsAt (fun b => P b ∧ out.ownBlock ≠ some b) w p.2.1 p.2.2
def mkV (p : T5 × Value × List V) : V := V.mk p.1 p.2.2
theorem flat_at : ∀ (ps : List (T5 × Value × List V)) (k i : Nat) (h : k < ps.length), i < 6 → (ps.flatMap fun p => vCells p.1 p.2.1)[k * 6 + i]? = (vCells (ps[k]'h).1 (ps[k]'h).2.1)[i]?
  | [], k, _, h, _ => by simp at h
  | t :: r, 0, i, _, hi => by
    simp only [List.flatMap_cons, Nat.zero_mul, Nat.zero_add]
    rw [List.getElem?_append_left (by simpa [vCells] using hi)]
    rfl
  | t :: r, k + 1, i, h, hi => by
    have e : (k + 1) * 6 + i = 6 + (k * 6 + i) := by omega
    rw [List.flatMap_cons, e, List.getElem?_append_right (by simp [vCells])]
    have e2 : 6 + (k * 6 + i) - (vCells t.1 t.2.1).length = k * 6 + i := by simp [vCells]
    rw [e2]
    exact flat_at r k i (by simpa using h) hi
theorem Row.vals {P : Nat → Prop} {B : Nat} {w : World} {out : Value} {ps : List (T5 × Value × List V)} (h : Row P B w out ps) : VsAt P w out (ps.map mkV) := by
  have hl : (ps.map mkV).length = ps.length := List.length_map ..
  have hg : ∀ i (hi : i < (ps.map mkV).length), (ps.map mkV)[i]'hi = mkV (ps[i]'(by omega)) := fun i hi => List.getElem_map ..
  refine VsAt.own (B := B) (kv := fun i => match ps[i]? with | some p => p.2.1 | none => .slice none 0 0) (cs := ps.flatMap fun p => vCells p.1 p.2.1) (by rw [hl]; exact h.1) h.2.1 ?_ ?_
  · intro i hi j y hy
    have hi' : i < ps.length := by omega
    have hj : j < 6 := by
      have := (List.getElem?_eq_some_iff.1 hy).1
      simpa [vCells] using this
    rw [flat_at ps i j hi' hj, ← hy, hg i hi]
    simp only [List.getElem?_eq_getElem hi']
    rfl
  · intro i hi
    have hi' : i < ps.length := by omega
    rw [hg i hi]
    simp only [List.getElem?_eq_getElem hi']
    exact (h.2.2 _ (List.getElem_mem hi')).wider (fun b hb _ => hb.1)
theorem Row.keep {P : Nat → Prop} {B : Nat} {w w' : World} {out : Value} {ps : List (T5 × Value × List V)} (h : Row P B w out ps) (hb : Below w.heap.size w w') : Row P B w' out ps := ⟨ownsRow_below h.1 hb, h.2.1, fun p hp => VsAt.keep hb (h.2.2 p hp)⟩
/-- One value more, by an append that may write the row in place or move it. -/
theorem Row.push {P : Nat → Prop} {B : Nat} {w w' : World} {o : Obj} {out v' : Value} {ps : List (T5 × Value × List V)} {t : T5} {kid : Value} {kids : List V} (h : Row P B w out ps) (hk : VsAt (fun b => P b ∧ out.ownBlock ≠ some b) w kid kids)
    (hown : w'.ownsRow B 29 6 v' (ps.length + 1) ((ps.flatMap fun p => vCells p.1 p.2.1) ++ vCells t kid)) (hg : (w.alloc o).grownBy w' out.ownBlock) (hat : v'.ownBlock = out.ownBlock ∨ v'.ownBlock = some (w.alloc o).heap.size) (hP : P (w.alloc o).heap.size) : Row P B w' v' (ps ++ [(t, kid, kids)]) := by
  have hs : (w.alloc o).heap.size = w.heap.size + 1 := by simp
  have keep : ∀ {x : Value} {xs : List V}, VsAt (fun b => P b ∧ out.ownBlock ≠ some b) w x xs → VsAt (fun b => P b ∧ v'.ownBlock ≠ some b) w' x xs := by
    intro x xs hx
    have h1 : VsAt (fun b => (P b ∧ out.ownBlock ≠ some b) ∧ v'.ownBlock ≠ some b) w x xs := hx.wider (fun b hb hlt => ⟨hb, by
      rcases hat with e | e
      · rw [e]; exact hb.2
      · rw [e, hs]
        intro e2
        have := Option.some.inj e2
        omega⟩)
    have h2 := h1.stay (W' := w') (by have := hg.size; omega) (fun b hb hlt => by
      rw [hg.block b (by omega) (fun e => hb.1.2 e.symm)]
      exact Below.heap_alloc w o b hlt)
    exact h2.wider (fun b hb _ => ⟨hb.1.1, hb.2⟩)
  refine ⟨?_, ?_, ?_⟩
  · rw [List.length_append, List.flatMap_append, List.flatMap_singleton]
    exact hown
  · intro g hgo
    rcases hat with e | e
    · exact h.2.1 g (e.symm.trans hgo)
    · rw [e] at hgo
      cases hgo
      exact hP
  · intro p hp
    rcases List.mem_append.1 hp with hp | hp
    · exact keep (h.2.2 p hp)
    · rw [List.mem_singleton.1 hp]
      exact keep hk

end Go.Proofs.Ytihdiaklhkecmab
