/- Trees of values, and the slices that hold them. -/
import Derived.Test.YtihdiaklhkecmabRefToks
namespace Go.Proofs.Ytihdiaklhkecmab
open Go.RowKit
set_option maxRecDepth 100000

/-- A token's five fields. -/
structure T5 where
  k : Int
  tx : ByteArray
  un : ByteArray
  wh : Bool
  fl : Bool
/-- A value: a token, and what is within. -/
inductive V where
  | mk (t : T5) (kids : List V)
def V.tok : V → T5 | .mk t _ => t
def V.kids : V → List V | .mk _ l => l
def t5Cells (t : T5) : List Value := [.int .i64 t.k, .string t.tx, .string t.un, .bool t.wh, .bool t.fl]
def vCells (t : T5) (kid : Value) : List Value := [.int .i64 t.k, .string t.tx, .string t.un, .bool t.wh, .bool t.fl, kid]

/-- The slice holds the values: cell by cell, and what is within each likewise; all blocks are among P. -/
inductive VsAt (P : Nat → Prop) (W : World) : Value → List V → Prop
  | mk (a : Option Addr) (cap : Nat) (vs : List V) (b off : Nat) (kv : Nat → Value) (h1 : vs.length ≤ cap) (h2 : cap ≤ 9223372036854775807)
      (ha : 0 < vs.length → a = some ⟨b, off, none⟩ ∧ b < W.heap.size ∧ P b)
      (hc : ∀ i (h : i < vs.length), ∀ j y, (vCells (vs[i]'h).tok (kv i))[j]? = some y → W.cell? ⟨b, off + i * 6 + j, none⟩ = some y)
      (hr : ∀ i (h : i < vs.length), VsAt P W (kv i) (vs[i]'h).kids) : VsAt P W (.slice a vs.length cap) vs
theorem cell_of_heap {W W' : World} {b o : Nat} (h : W'.heap[b]? = W.heap[b]?) : W'.cell? ⟨b, o, none⟩ = W.cell? ⟨b, o, none⟩ := by
  simp only [World.cell?, h]
/-- Where P's blocks stay, the tree stays. -/
theorem VsAt.stay {P : Nat → Prop} {W W' : World} (hs : W.heap.size ≤ W'.heap.size) (hk : ∀ b, P b → b < W.heap.size → W'.heap[b]? = W.heap[b]?) {v : Value} {vs : List V} (h : VsAt P W v vs) : VsAt P W' v vs := by
  induction h with
  | mk a cap vs b off kv h1 h2 ha hc hr ih =>
    refine .mk a cap vs b off kv h1 h2 (fun h0 => ⟨(ha h0).1, Nat.lt_of_lt_of_le (ha h0).2.1 hs, (ha h0).2.2⟩) (fun i h j y hy => ?_) ih
    obtain ⟨_, h3, h4⟩ := ha (by omega)
    exact (cell_of_heap (hk b h4 h3)).trans (hc i h j y hy)
theorem VsAt.keep {P : Nat → Prop} {W W' : World} (hb : Below W.heap.size W W') {v : Value} {vs : List V} (h : VsAt P W v vs) : VsAt P W' v vs := h.stay hb.size (fun b _ hlt => hb.block b hlt)
theorem VsAt.wider {P Q : Nat → Prop} {W : World} (hq : ∀ b, P b → b < W.heap.size → Q b) {v : Value} {vs : List V} (h : VsAt P W v vs) : VsAt Q W v vs := by
  induction h with
  | mk a cap vs b off kv h1 h2 ha hc hr ih => exact .mk a cap vs b off kv h1 h2 (fun h0 => ⟨(ha h0).1, (ha h0).2.1, hq b (ha h0).2.2 (ha h0).2.1⟩) hc ih
theorem VsAt.nil (P : Nat → Prop) (W : World) : VsAt P W (.slice none 0 0) [] :=
  .mk none 0 [] 0 0 (fun _ => .slice none 0 0) (Nat.le_refl _) (by decide) (fun h => absurd h (by simp)) (fun i h => absurd h (by simp)) (fun i h => absurd h (by simp))
theorem VsAt.slice {P : Nat → Prop} {W : World} {v : Value} {vs : List V} (h : VsAt P W v vs) : ∃ a cap, v = .slice a vs.length cap ∧ vs.length ≤ cap ∧ cap ≤ 9223372036854775807 := by
  cases h with
  | mk a cap vs b off kv h1 h2 ha hc hr => exact ⟨a, cap, rfl, h1, h2⟩
/-- One by one. -/
theorem VsAt.cells {P : Nat → Prop} {W : World} {a : Option Addr} {n cap : Nat} {vs : List V} (h : VsAt P W (.slice a n cap) vs) : n = vs.length ∧ vs.length ≤ cap ∧ cap ≤ 9223372036854775807 ∧
    ∀ i (hi : i < vs.length), ∃ b off kv, a = some ⟨b, off, none⟩ ∧ b < W.heap.size ∧ (∀ j y, (vCells (vs[i]'hi).tok kv)[j]? = some y → W.cell? ⟨b, off + i * 6 + j, none⟩ = some y) ∧ VsAt P W kv (vs[i]'hi).kids := by
  generalize hv : Value.slice a n cap = v at h
  cases h with
  | mk a' cap' vs b off kv h1 h2 ha hc hr =>
    cases hv
    exact ⟨rfl, h1, h2, fun i hi => ⟨b, off, kv i, (ha (by omega)).1, (ha (by omega)).2.1, hc i hi, hr i hi⟩⟩
/-- From k on. -/
theorem VsAt.drop {P : Nat → Prop} {W : World} {a : Option Addr} {n cap : Nat} {vs : List V} (h : VsAt P W (.slice a n cap) vs) (k : Nat) (hk : k ≤ vs.length) (a' : Option Addr) (ha' : k < vs.length → ∃ b off, a = some ⟨b, off, none⟩ ∧ a' = some ⟨b, off + k * 6, none⟩) : VsAt P W (.slice a' (n - k) (cap - k)) (vs.drop k) := by
  generalize hv : Value.slice a n cap = v at h
  cases h with
  | mk a0 cap0 vs b off kv h1 h2 ha hc hr =>
    cases hv
    have hl : (vs.drop k).length = vs.length - k := List.length_drop
    have hget : ∀ i (h : i < (vs.drop k).length), (vs.drop k)[i]'h = vs[k + i]'(by omega) := fun i h => List.getElem_drop ..
    have key := VsAt.mk (P := P) (W := W) a' (cap - k) (vs.drop k) b (off + k * 6) (fun i => kv (k + i)) (by omega) (by omega)
      (fun h0 => by
        obtain ⟨b', off', e1, e2⟩ := ha' (by omega)
        obtain ⟨q1, q2, q3⟩ := ha (by omega)
        rw [e1] at q1
        cases q1
        exact ⟨e2, q2, q3⟩)
      (fun i h j y hy => by
        rw [hget i h] at hy
        have := hc (k + i) (by omega) j y hy
        rw [show off + k * 6 + i * 6 + j = off + (k + i) * 6 + j by omega]
        exact this)
      (fun i h => by
        rw [hget i h]
        exact hr (k + i) (by omega))
    rw [hl] at key
    exact key
theorem VsAt.take {P : Nat → Prop} {W : World} {a : Option Addr} {n cap : Nat} {vs : List V} (h : VsAt P W (.slice a n cap) vs) (k : Nat) (hk : k ≤ vs.length) : VsAt P W (.slice a k cap) (vs.take k) := by
  generalize hv : Value.slice a n cap = v at h
  cases h with
  | mk a0 cap0 vs b off kv h1 h2 ha hc hr =>
    cases hv
    have hl : (vs.take k).length = k := by rw [List.length_take]; omega
    have hget : ∀ i (h : i < (vs.take k).length), (vs.take k)[i]'h = vs[i]'(by omega) := fun i h => List.getElem_take ..
    have key := VsAt.mk (P := P) (W := W) a cap (vs.take k) b off kv (by omega) (by omega) (fun h0 => ha (by omega))
      (fun i h j y hy => by
        rw [hget i h] at hy
        exact hc i (by omega) j y hy)
      (fun i h => by
        rw [hget i h]
        exact hr i (by omega))
    rw [hl] at key
    exact key
/-- A row of one's own, with what is within each. -/
theorem VsAt.own {P : Nat → Prop} {W : World} {B : Nat} {v : Value} {vs : List V} {kv : Nat → Value} {cs : List Value} (h : W.ownsRow B 29 6 v vs.length cs) (hP : ∀ g, v.ownBlock = some g → P g)
    (hcs : ∀ i (hi : i < vs.length), ∀ j y, (vCells (vs[i]'hi).tok (kv i))[j]? = some y → cs[i * 6 + j]? = some y) (hr : ∀ i (hi : i < vs.length), VsAt P W (kv i) (vs[i]'hi).kids) : VsAt P W v vs := by
  obtain ⟨hl, h⟩ := h
  rcases h with ⟨rfl, hn⟩ | ⟨g, cap, cur, rfl, _, hg, hnc, hcm, hsz, hx⟩
  · have hvs : vs = [] := List.length_eq_zero_iff.1 hn
    subst hvs
    exact VsAt.nil P W
  · refine .mk _ cap vs g 0 kv hnc hcm (fun _ => ⟨rfl, (Array.getElem?_eq_some_iff.1 hg).1, hP g rfl⟩) (fun i hi j y hy => ?_) hr
    have h1 := hcs i hi j y hy
    have hlt : i * 6 + j < vs.length * 6 := by
      have := (List.getElem?_eq_some_iff.1 h1).1
      omega
    rw [← hx, List.getElem?_take_of_lt hlt] at h1
    rw [Nat.zero_add]
    simp only [World.cell?, hg]
    simpa using h1

end Go.Proofs.Ytihdiaklhkecmab
