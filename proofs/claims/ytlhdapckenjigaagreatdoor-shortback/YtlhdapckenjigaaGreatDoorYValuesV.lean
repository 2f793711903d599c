/- Trees of values, and the slices that hold them. Trees of values, and the slices that hold them. gouacheref03.Same of two slices that hold the same tree. gouacheref03.some: values up to what closes them, whatever the tokens. gouacheref03.some: the walk. parse.read's helpers: closeOf, closes and its function, behind. parse.read of any tokens. parse.is. parse.trimmed. parse.own. parse.Trim. parse.Values and gouacheref03.Values of any tokens. -/
import Derived.Test.YtlhdapckenjigaaGreatDoorRows
import Derived.WalkKit
import Derived.WalkLawsBesides
import Derived.IntWalk
import Derived.Deep.MidRow
import Derived.BigQuiet
import Derived.Deep.QuietTactic
import Derived.Below
import Derived.Deep.WholeRow
import Derived.Deep.DeepCutAuto
import Derived.Deep.RegionHeld3
import Derived.Handy
import Derived.Deep.AppendLies
import Derived.Maps.AppendAt
import Derived.WalkSmall
import Derived.RangeFuncBox
import Derived.Deep.DeepMust
import Derived.Test.YtlhdapckenjigaaGreatDoorArgs
import Derived.Lib.LazyBuf
namespace Go.Proofs.YtlhdapckenjigaaGreatDoor.L
open Go.RowKit
set_option maxRecDepth 100000

/-- A fact that the walk does not look into. -/
def Hid (p : Prop) : Prop := p
theorem hid_mk {p : Prop} (h : p) : Hid p := h
theorem Hid.out {p : Prop} (h : Hid p) : p := h
theorem cellAt {w : World} {b : Nat} {cs : Array Value} {t : TypeId} {fr : Nat × Nat} (h : w.heap[b]? = some (.cells cs t fr)) (i : Nat) : w.cell? ⟨b, i, none⟩ = cs[i]? := by
  simp [World.cell?, h]
theorem set_at {w : World} {b : Nat} {cs : Array Value} {t : TypeId} (i : Nat) (v : Value) (fr : Nat × Nat) (h : w.heap[b]? = some (.cells cs t fr)) : (w.setCell ⟨b, i, none⟩ v).heap[b]? = some (.cells (cs.setIfInBounds i v) t fr) := by
  simp only [World.setCell, Array.getElem?_modify, h, if_pos, Option.map_some, Option.isSome_none, Bool.false_eq_true, if_false]
/-- All blocks but one are as they were. -/
structure KeepX (b : Nat) (w w' : World) : Prop where
  os : w'.os = w.os
  tape : w'.tape = w.tape
  output : w'.output = w.output
  size : w.heap.size ≤ w'.heap.size
  block : ∀ k, k < w.heap.size → k ≠ b → w'.heap[k]? = w.heap[k]?
theorem KeepX.of {b : Nat} {w w' : World} (h : Below w.heap.size w w') : KeepX b w w' := ⟨h.os, h.tape, h.output, h.size, fun k hk _ => h.block k hk⟩
theorem KeepX.trans {b : Nat} {w w1 w2 : World} (h : KeepX b w w1) (k : KeepX b w1 w2) : KeepX b w w2 :=
  ⟨k.os.trans h.os, k.tape.trans h.tape, k.output.trans h.output, Nat.le_trans h.size k.size, fun j hj hn => (k.block j (Nat.lt_of_lt_of_le hj h.size) hn).trans (h.block j hj hn)⟩
theorem KeepX.below {b B : Nat} {w w' : World} (h : KeepX b w w') (hb : B ≤ b) (hB : B ≤ w.heap.size) : Below B w w' :=
  ⟨h.os, h.tape, h.output, h.size, fun k hk => h.block k (Nat.lt_of_lt_of_le hk hB) (by omega)⟩

/-- A token's five fields. -/
structure T5 where
  k : Int
  tx : ByteArray
  un : ByteArray
  wh : Bool
  fl : Bool
/-- A value: a token, and what is within. -/
inductive V where
  | mk (t : T5) (kids : List V)
def V.tok : V → T5 | .mk t _ => t
def V.kids : V → List V | .mk _ l => l
def t5Cells (t : T5) : List Value := [.int .i64 t.k, .string t.tx, .string t.un, .bool t.wh, .bool t.fl]
def vCells (t : T5) (kid : Value) : List Value := [.int .i64 t.k, .string t.tx, .string t.un, .bool t.wh, .bool t.fl, kid]

/-- The slice holds the values: cell by cell, and what is within each likewise; all blocks are among P. -/
inductive VsAt (P : Nat → Prop) (W : World) : Value → List V → Prop
  | mk (a : Option Addr) (cap : Nat) (vs : List V) (b off : Nat) (kv : Nat → Value) (h1 : vs.length ≤ cap) (h2 : cap ≤ 9223372036854775807)
      (ha : 0 < vs.length → a = some ⟨b, off, none⟩ ∧ b < W.heap.size ∧ P b)
      (hc : ∀ i (h : i < vs.length), ∀ j y, (vCells (vs[i]'h).tok (kv i))[j]? = some y → W.cell? ⟨b, off + i * 6 + j, none⟩ = some y)
      (hr : ∀ i (h : i < vs.length), VsAt P W (kv i) (vs[i]'h).kids) : VsAt P W (.slice a vs.length cap) vs
theorem cell_of_heap {W W' : World} {b o : Nat} (h : W'.heap[b]? = W.heap[b]?) : W'.cell? ⟨b, o, none⟩ = W.cell? ⟨b, o, none⟩ := by
  simp only [World.cell?, h]
/-- Where P's blocks stay, the tree stays. -/
theorem VsAt.stay {P : Nat → Prop} {W W' : World} (hs : W.heap.size ≤ W'.heap.size) (hk : ∀ b, P b → b < W.heap.size → W'.heap[b]? = W.heap[b]?) {v : Value} {vs : List V} (h : VsAt P W v vs) : VsAt P W' v vs := by
  induction h with
  | mk a cap vs b off kv h1 h2 ha hc hr ih =>
    refine .mk a cap vs b off kv h1 h2 (fun h0 => ⟨(ha h0).1, Nat.lt_of_lt_of_le (ha h0).2.1 hs, (ha h0).2.2⟩) (fun i h j y hy => ?_) ih
    obtain ⟨_, h3, h4⟩ := ha (by omega)
    exact (cell_of_heap (hk b h4 h3)).trans (hc i h j y hy)
theorem VsAt.keep {P : Nat → Prop} {W W' : World} (hb : Below W.heap.size W W') {v : Value} {vs : List V} (h : VsAt P W v vs) : VsAt P W' v vs := h.stay hb.size (fun b _ hlt => hb.block b hlt)
theorem VsAt.wider {P Q : Nat → Prop} {W : World} (hq : ∀ b, P b → b < W.heap.size → Q b) {v : Value} {vs : List V} (h : VsAt P W v vs) : VsAt Q W v vs := by
  induction h with
  | mk a cap vs b off kv h1 h2 ha hc hr ih => exact .mk a cap vs b off kv h1 h2 (fun h0 => ⟨(ha h0).1, (ha h0).2.1, hq b (ha h0).2.2 (ha h0).2.1⟩) hc ih
theorem VsAt.nil (P : Nat → Prop) (W : World) : VsAt P W (.slice none 0 0) [] :=
  .mk none 0 [] 0 0 (fun _ => .slice none 0 0) (Nat.le_refl _) (by decide) (fun h => absurd h (by simp)) (fun i h => absurd h (by simp)) (fun i h => absurd h (by simp))
theorem VsAt.slice {P : Nat → Prop} {W : World} {v : Value} {vs : List V} (h : VsAt P W v vs) : ∃ a cap, v = .slice a vs.length cap ∧ vs.length ≤ cap ∧ cap ≤ 9223372036854775807 := by
  cases h with
  | mk a cap vs b off kv h1 h2 ha hc hr => exact ⟨a, cap, rfl, h1, h2⟩
/-- One by one. -/
theorem VsAt.cells {P : Nat → Prop} {W : World} {a : Option Addr} {n cap : Nat} {vs : List V} (h : VsAt P W (.slice a n cap) vs) : n = vs.length ∧ vs.length ≤ cap ∧ cap ≤ 9223372036854775807 ∧
    ∀ i (hi : i < vs.length), ∃ b off kv, a = some ⟨b, off, none⟩ ∧ b < W.heap.size ∧ (∀ j y, (vCells (vs[i]'hi).tok kv)[j]? = some y → W.cell? ⟨b, off + i * 6 + j, none⟩ = some y) ∧ VsAt P W kv (vs[i]'hi).kids := by
  generalize hv : Value.slice a n cap = v at h
  cases h with
  | mk a' cap' vs b off kv h1 h2 ha hc hr =>
    cases hv
    exact ⟨rfl, h1, h2, fun i hi => ⟨b, off, kv i, (ha (by omega)).1, (ha (by omega)).2.1, hc i hi, hr i hi⟩⟩
/-- From k on. -/
theorem VsAt.drop {P : Nat → Prop} {W : World} {a : Option Addr} {n cap : Nat} {vs : List V} (h : VsAt P W (.slice a n cap) vs) (k : Nat) (hk : k ≤ vs.length) (a' : Option Addr) (ha' : k < vs.length → ∃ b off, a = some ⟨b, off, none⟩ ∧ a' = some ⟨b, off + k * 6, none⟩) : VsAt P W (.slice a' (n - k) (cap - k)) (vs.drop k) := by
  generalize hv : Value.slice a n cap = v at h
  cases h with
  | mk a0 cap0 vs b off kv h1 h2 ha hc hr =>
    cases hv
    have hl : (vs.drop k).length = vs.length - k := List.length_drop
    have hget : ∀ i (h : i < (vs.drop k).length), (vs.drop k)[i]'h = vs[k + i]'(by omega) := fun i h => List.getElem_drop ..
    have key := VsAt.mk (P := P) (W := W) a' (cap - k) (vs.drop k) b (off + k * 6) (fun i => kv (k + i)) (by omega) (by omega)
      (fun h0 => by
        obtain ⟨b', off', e1, e2⟩ := ha' (by omega)
        obtain ⟨q1, q2, q3⟩ := ha (by omega)
        rw [e1] at q1
        cases q1
        exact ⟨e2, q2, q3⟩)
      (fun i h j y hy => by
        rw [hget i h] at hy
        have := hc (k + i) (by omega) j y hy
        rw [show off + k * 6 + i * 6 + j = off + (k + i) * 6 + j by omega]
        exact this)
      (fun i h => by
        rw [hget i h]
        exact hr (k + i) (by omega))
    rw [hl] at key
    exact key
theorem VsAt.take {P : Nat → Prop} {W : World} {a : Option Addr} {n cap : Nat} {vs : List V} (h : VsAt P W (.slice a n cap) vs) (k : Nat) (hk : k ≤ vs.length) : VsAt P W (.slice a k cap) (vs.take k) := by
  generalize hv : Value.slice a n cap = v at h
  cases h with
  | mk a0 cap0 vs b off kv h1 h2 ha hc hr =>
    cases hv
    have hl : (vs.take k).length = k := by rw [List.length_take]; omega
    have hget : ∀ i (h : i < (vs.take k).length), (vs.take k)[i]'h = vs[i]'(by omega) := fun i h => List.getElem_take ..
    have key := VsAt.mk (P := P) (W := W) a cap (vs.take k) b off kv (by omega) (by omega) (fun h0 => ha (by omega))
      (fun i h j y hy => by
        rw [hget i h] at hy
        exact hc i (by omega) j y hy)
      (fun i h => by
        rw [hget i h]
        exact hr i (by omega))
    rw [hl] at key
    exact key
/-- A row of one's own, with what is within each. -/
theorem VsAt.own {T : TypeId} {P : Nat → Prop} {W : World} {B : Nat} {v : Value} {vs : List V} {kv : Nat → Value} {cs : List Value} (h : W.ownsRow B T 6 v vs.length cs) (hP : ∀ g, v.ownBlock = some g → P g)
    (hcs : ∀ i (hi : i < vs.length), ∀ j y, (vCells (vs[i]'hi).tok (kv i))[j]? = some y → cs[i * 6 + j]? = some y) (hr : ∀ i (hi : i < vs.length), VsAt P W (kv i) (vs[i]'hi).kids) : VsAt P W v vs := by
  obtain ⟨hl, h⟩ := h
  rcases h with ⟨rfl, hn⟩ | ⟨g, cap, cur, rfl, _, hg, hnc, hcm, hsz, hx⟩
  · have hvs : vs = [] := List.length_eq_zero_iff.1 hn
    subst hvs
    exact VsAt.nil P W
  · refine .mk _ cap vs g 0 kv hnc hcm (fun _ => ⟨rfl, (Array.getElem?_eq_some_iff.1 hg).1, hP g rfl⟩) (fun i hi j y hy => ?_) hr
    have h1 := hcs i hi j y hy
    have hlt : i * 6 + j < vs.length * 6 := by
      have := (List.getElem?_eq_some_iff.1 h1).1
      omega
    rw [← hx, List.getElem?_take_of_lt hlt] at h1
    rw [Nat.zero_add]
    simp only [World.cell?, hg]
    simpa using h1

end Go.Proofs.YtlhdapckenjigaaGreatDoor.L
namespace Go.Proofs.YtlhdapckenjigaaGreatDoor.Y
open Go.RowKit
open Go.Proofs.YtlhdapckenjigaaGreatDoor.L (T5 V VsAt t5Cells vCells cell_of_heap)
set_option maxRecDepth 100000

end Go.Proofs.YtlhdapckenjigaaGreatDoor.Y
namespace Go.Proofs.YtlhdapckenjigaaGreatDoor.Y
open Go.RowKit
open Go.Proofs.YtlhdapckenjigaaGreatDoor.L (T5 V VsAt t5Cells vCells cell_of_heap)
set_option maxRecDepth 100000

theorem below_drewN5 (B : Nat) (w : World) (n : Nat) : Below B w (w.drewN n) := ⟨rfl, rfl, rfl, Nat.le_refl _, fun _ _ => rfl⟩
end Go.Proofs.YtlhdapckenjigaaGreatDoor.Y
namespace Go.Proofs.YtlhdapckenjigaaGreatDoor.Y
open Go.RowKit
open Go.Proofs.YtlhdapckenjigaaGreatDoor.L (T5 V VsAt t5Cells vCells cell_of_heap)
set_option maxRecDepth 100000

theorem hid_mk {p : Prop} (h : p) : Hid p := h
theorem ownsRow_below {w w' : World} {B : Nat} {e : TypeId} {size : Nat} {v : Value} {n : Nat} {xs : List Value} (h : w.ownsRow B e size v n xs) (hb : Below w.heap.size w w') : w'.ownsRow B e size v n xs := by
  refine ⟨h.1, h.2.imp id ?_⟩
  rintro ⟨g, cap, cur, e1, h1, h2, h3⟩
  exact ⟨g, cap, cur, e1, h1, (hb.block g (Array.getElem?_eq_some_iff.1 h2).1).trans h2, h3⟩
/-- The slice holds the tokens. -/
def TsAt (W : World) (v : Value) (ts : List T5) : Prop :=
  ∃ a cap, v = .slice a ts.length cap ∧ ts.length ≤ cap ∧ cap ≤ 9223372036854775807 ∧ (0 < ts.length → ∃ b off, a = some ⟨b, off, none⟩ ∧ b < W.heap.size ∧ ∀ i (h : i < ts.length), ∀ j y, (t5Cells (ts[i]'h))[j]? = some y → W.cell? ⟨b, off + i * 5 + j, none⟩ = some y)
theorem TsAt.keep {W W' : World} (hb : Below W.heap.size W W') {v : Value} {ts : List T5} (h : TsAt W v ts) : TsAt W' v ts := by
  obtain ⟨a, cap, hv, h1, h2, h3⟩ := h
  refine ⟨a, cap, hv, h1, h2, fun h0 => ?_⟩
  obtain ⟨b, off, ha, hlt, hc⟩ := h3 h0
  exact ⟨b, off, ha, Nat.lt_of_lt_of_le hlt hb.size, fun i h j y hy => (hb.cell (p := ⟨b, off + i * 5 + j, none⟩) hlt).trans (hc i h j y hy)⟩
theorem TsAt.nil (W : World) : TsAt W (.slice none 0 0) [] := ⟨none, 0, rfl, Nat.le_refl _, by decide, fun h => absurd h (by simp)⟩
/-- The kind that closes what a kind opens; 0: it opens nothing. -/
def closeZ (k : Int) : Int := if k = 19 then 20 else if k = 21 ∨ k = 2 then 22 else if k = 23 then 24 else 0
/-- The document's values of tokens. -/
def someZ : Nat → List T5 → Int → Int → List V × List T5
  | 0, _, _, _ => ([], [])
  | _ + 1, [], _, _ => ([], [])
  | f + 1, t :: r, c, n =>
    if c ≠ 0 ∧ t.k = c then ([], r)
    else if closeZ t.k = 0 then (V.mk t [] :: (someZ f r c n).1, (someZ f r c n).2)
    else if 64 < n + 1 then someZ f (someZ f r (closeZ t.k) (n + 1)).2 c n
    else (V.mk t (someZ f r (closeZ t.k) (n + 1)).1 :: (someZ f (someZ f r (closeZ t.k) (n + 1)).2 c n).1, (someZ f (someZ f r (closeZ t.k) (n + 1)).2 c n).2)
theorem some_len : ∀ (f : Nat) (l : List T5) (c n : Int), (someZ f l c n).2.length ≤ l.length
  | 0, l, _, _ => by simp [someZ]
  | _ + 1, [], _, _ => by simp [someZ]
  | f + 1, t :: r, c, n => by
    have h1 := some_len f r c n
    have h2 := some_len f r (closeZ t.k) (n + 1)
    have h3 := some_len f (someZ f r (closeZ t.k) (n + 1)).2 c n
    rw [someZ]
    repeat' split
    all_goals simp only [List.length_cons]
    all_goals omega
/-- A row of values of one's own, with what is within each, which lies outside of it: an append may write the row's own block in place. -/
def Row (P : Nat → Prop) (B : Nat) (w : World) (out : Value) (ps : List (T5 × Value × List V)) : Prop :=
  w.ownsRow B 57 6 out ps.length (ps.flatMap fun p => vCells p.1 p.2.1) ∧ (∀ g, out.ownBlock = some g → P g) ∧ ∀ p ∈ ps, VsAt (fun b => P b ∧ out.ownBlock ≠ some b) w p.2.1 p.2.2
def mkV (p : T5 × Value × List V) : V := V.mk p.1 p.2.2
theorem flat_at : ∀ (ps : List (T5 × Value × List V)) (k i : Nat) (h : k < ps.length), i < 6 → (ps.flatMap fun p => vCells p.1 p.2.1)[k * 6 + i]? = (vCells (ps[k]'h).1 (ps[k]'h).2.1)[i]?
  | [], k, _, h, _ => by simp at h
  | t :: r, 0, i, _, hi => by
    simp only [List.flatMap_cons, Nat.zero_mul, Nat.zero_add]
    rw [List.getElem?_append_left (by simpa [vCells] using hi)]
    rfl
  | t :: r, k + 1, i, h, hi => by
    have e : (k + 1) * 6 + i = 6 + (k * 6 + i) := by omega
    rw [List.flatMap_cons, e, List.getElem?_append_right (by simp [vCells])]
    have e2 : 6 + (k * 6 + i) - (vCells t.1 t.2.1).length = k * 6 + i := by simp [vCells]
    rw [e2]
    exact flat_at r k i (by simpa using h) hi
theorem Row.vals {P : Nat → Prop} {B : Nat} {w : World} {out : Value} {ps : List (T5 × Value × List V)} (h : Row P B w out ps) : VsAt P w out (ps.map mkV) := by
  have hl : (ps.map mkV).length = ps.length := List.length_map ..
  have hg : ∀ i (hi : i < (ps.map mkV).length), (ps.map mkV)[i]'hi = mkV (ps[i]'(by omega)) := fun i hi => List.getElem_map ..
  refine VsAt.own (B := B) (kv := fun i => match ps[i]? with | some p => p.2.1 | none => .slice none 0 0) (cs := ps.flatMap fun p => vCells p.1 p.2.1) (by rw [hl]; exact h.1) h.2.1 ?_ ?_
  · intro i hi j y hy
    have hi' : i < ps.length := by omega
    have hj : j < 6 := by
      have := (List.getElem?_eq_some_iff.1 hy).1
      simpa [vCells] using this
    rw [flat_at ps i j hi' hj, ← hy, hg i hi]
    simp only [List.getElem?_eq_getElem hi']
    rfl
  · intro i hi
    have hi' : i < ps.length := by omega
    rw [hg i hi]
    simp only [List.getElem?_eq_getElem hi']
    exact (h.2.2 _ (List.getElem_mem hi')).wider (fun b hb _ => hb.1)
theorem Row.keep {P : Nat → Prop} {B : Nat} {w w' : World} {out : Value} {ps : List (T5 × Value × List V)} (h : Row P B w out ps) (hb : Below w.heap.size w w') : Row P B w' out ps := ⟨ownsRow_below h.1 hb, h.2.1, fun p hp => VsAt.keep hb (h.2.2 p hp)⟩
/-- One value more, by an append that may write the row in place or move it. -/
theorem Row.push {P : Nat → Prop} {B : Nat} {w w' : World} {o : Obj} {out v' : Value} {ps : List (T5 × Value × List V)} {t : T5} {kid : Value} {kids : List V} (h : Row P B w out ps) (hk : VsAt (fun b => P b ∧ out.ownBlock ≠ some b) w kid kids)
    (hown : w'.ownsRow B 57 6 v' (ps.length + 1) ((ps.flatMap fun p => vCells p.1 p.2.1) ++ vCells t kid)) (hg : (w.alloc o).grownBy w' out.ownBlock) (hat : v'.ownBlock = out.ownBlock ∨ v'.ownBlock = some (w.alloc o).heap.size) (hP : P (w.alloc o).heap.size) : Row P B w' v' (ps ++ [(t, kid, kids)]) := by
  have hs : (w.alloc o).heap.size = w.heap.size + 1 := by simp
  have keep : ∀ {x : Value} {xs : List V}, VsAt (fun b => P b ∧ out.ownBlock ≠ some b) w x xs → VsAt (fun b => P b ∧ v'.ownBlock ≠ some b) w' x xs := by
    intro x xs hx
    have h1 : VsAt (fun b => (P b ∧ out.ownBlock ≠ some b) ∧ v'.ownBlock ≠ some b) w x xs := hx.wider (fun b hb hlt => ⟨hb, by
      rcases hat with e | e
      · rw [e]; exact hb.2
      · rw [e, hs]
        intro e2
        have := Option.some.inj e2
        omega⟩)
    have h2 := h1.stay (W' := w') (by have := hg.size; omega) (fun b hb hlt => by
      rw [hg.block b (by omega) (fun e => hb.1.2 e.symm)]
      exact Below.heap_alloc w o b hlt)
    exact h2.wider (fun b hb _ => ⟨hb.1.1, hb.2⟩)
  refine ⟨?_, ?_, ?_⟩
  · rw [List.length_append, List.flatMap_append, List.flatMap_singleton]
    exact hown
  · intro g hgo
    rcases hat with e | e
    · exact h.2.1 g (e.symm.trans hgo)
    · rw [e] at hgo
      cases hgo
      exact hP
  · intro p hp
    rcases List.mem_append.1 hp with hp | hp
    · exact keep (h.2.2 p hp)
    · rw [List.mem_singleton.1 hp]
      exact keep hk

end Go.Proofs.YtlhdapckenjigaaGreatDoor.Y
namespace Go.Proofs.YtlhdapckenjigaaGreatDoor.Y
open Go.RowKit
open Go.Proofs.YtlhdapckenjigaaGreatDoor.L (T5 V VsAt t5Cells vCells cell_of_heap)
set_option maxRecDepth 100000

def sliceLen : Value → Nat
  | .slice _ n _ => n
  | _ => 0
theorem Tryz.info57 : (Tryz.prog.info? 57).map (fun i => (i.zero, i.size, i.bytes)) = some (some (.agg #[.int .i64 0, .string ⟨#[]⟩, .string ⟨#[]⟩, .bool false, .bool false, .slice none 0 0]), 6, 72) := by kernel_rfl
theorem news6 (w : World) (x0 x1 x2 x3 x4 x5 : Value) (j : Nat) (u : Value) (h : [x0, x1, x2, x3, x4, x5][j]? = some u) : (w.alloc (.cells #[x0, x1, x2, x3, x4, x5] 57)).cell? ((⟨w.heap.size, 0, none⟩ : Addr).add j) = some u :=
  World.news_of_block (cs := #[x0, x1, x2, x3, x4, x5]) (t := 57) (fr := (0, 0)) (heap_alloc_new w _) j u h
theorem addr_eq {b o o' : Nat} (h : o = o') : (⟨b, o, none⟩ : Addr) = ⟨b, o', none⟩ := by subst h; rfl
/-- The tokens behind the first, by a slice of the same memory. -/
theorem TsAt.tail {W : World} {b off c : Nat} {t : T5} {r : List T5} (h : TsAt W (.slice (some ⟨b, off, none⟩) (r.length + 1) c) (t :: r)) (a' : Addr) (ha : 0 < r.length → a' = ⟨b, off + 5, none⟩) : TsAt W (.slice (some a') r.length (c - 1)) r := by
  obtain ⟨a, c', hv, h1, h2, h3⟩ := h
  have e1 : a = some ⟨b, off, none⟩ := by injection hv with x y z; exact x.symm
  have e2 : c' = c := by injection hv with x y z; exact z.symm
  subst e1 e2
  rw [List.length_cons] at h1
  refine ⟨_, _, rfl, by omega, by omega, fun h0 => ?_⟩
  obtain ⟨b', off', ha', hlt, hc⟩ := h3 (by simp)
  cases ha'
  refine ⟨b, off + 5, congrArg some (ha h0), hlt, fun i hi j y hy => ?_⟩
  have := hc (i + 1) (by simp; omega) j y hy
  rw [show off + 5 + i * 5 + j = off + (i + 1) * 5 + j by omega]
  exact this
theorem someZ_nil (g : Nat) (c n : Int) : someZ g [] c n = ([], []) := by cases g <;> rfl
theorem pair_cat {α β : Type} {x : List α × β} {ps : List α} {y z : List α × β} (h : x = (ps ++ y.1, y.2)) (e : y = z) : x = (ps ++ z.1, z.2) := by rw [h, e]

theorem tok6 {W : World} {B : Nat} {x0 x1 x2 x3 x4 x5 : Value} (h : W.heap[B]? = some (.cells #[x0, x1, x2, x3, x4, x5] 57 (0, 0))) :
    W.cell? ⟨B, 0, none⟩ = some x0 ∧ W.cell? ⟨B, 1, none⟩ = some x1 ∧ W.cell? ⟨B, 2, none⟩ = some x2 ∧ W.cell? ⟨B, 3, none⟩ = some x3 ∧ W.cell? ⟨B, 4, none⟩ = some x4 ∧ W.cell? ⟨B, 5, none⟩ = some x5 := by
  refine ⟨?_, ?_, ?_, ?_, ?_, ?_⟩ <;> simp [World.cell?, h]

theorem tok6f {W : World} {B : Nat} {x0 x1 x2 x3 x4 x5 : Value} (h : W.heap[B]? = some (.cells #[x0, x1, x2, x3, x4, x5] 57 (0, 0))) : W.frozen? ⟨B, 5, none⟩ = false := by
  simp [World.frozen?, h]
/-- Behind the store of what is within. -/
theorem opened {P0 : Nat} {W wr WA w1 : World} {u8 : Value} {ps : List (T5 × Value × List V)} {x0 x1 x2 x3 x4 x5 : Value} {kv : Value} {kids : List V} (hrow : Row (fun b => P0 ≤ b) P0 wr u8 ps) (hB : Below P0 W wr) (hAW : Below wr.heap.size wr WA) (hb1 : Below WA.heap.size WA w1)
    (hx : WA.heap[wr.heap.size + 1]? = some (.cells #[x0, x1, x2, x3, x4, x5] 57 (0, 0))) (hk : VsAt (fun b => WA.heap.size ≤ b) w1 kv kids) (hP : P0 ≤ wr.heap.size) :
    Row (fun b => P0 ≤ b) P0 (w1.setCell ⟨wr.heap.size + 1, 5, none⟩ kv) u8 ps ∧ Below P0 W (w1.setCell ⟨wr.heap.size + 1, 5, none⟩ kv) ∧ (w1.setCell ⟨wr.heap.size + 1, 5, none⟩ kv).heap[wr.heap.size + 1]? = some (.cells #[x0, x1, x2, x3, x4, kv] 57 (0, 0)) ∧ VsAt (fun b => P0 ≤ b ∧ u8.ownBlock ≠ some b) (w1.setCell ⟨wr.heap.size + 1, 5, none⟩ kv) kv kids := by
  have hlt : wr.heap.size + 1 < WA.heap.size := (Array.getElem?_eq_some_iff.1 hx).1
  have h1 : Below wr.heap.size wr (w1.setCell ⟨wr.heap.size + 1, 5, none⟩ kv) := (hAW.trans (hb1.mono hAW.size)).setCell (p := ⟨wr.heap.size + 1, 5, none⟩) (by show wr.heap.size ≤ wr.heap.size + 1; omega) kv
  have hx1 := (hb1.block _ hlt).trans hx
  refine ⟨hrow.keep h1, hB.trans (h1.mono hP), ?_, ?_⟩
  · have := heap_setCell_same w1 (wr.heap.size + 1) 5 #[x0, x1, x2, x3, x4, x5] 57 kv hx1
    rw [this]
    rfl
  · have h2 := hk.stay (W' := w1.setCell ⟨wr.heap.size + 1, 5, none⟩ kv) (by simp) (fun b hb _ => Below.heap_setCell w1 ⟨wr.heap.size + 1, 5, none⟩ kv b (by show b ≠ wr.heap.size + 1; omega))
    refine h2.wider (fun b hb _ => ⟨by have := hAW.size; omega, fun e => ?_⟩)
    have := (hrow.1.lt b e).2
    have := hAW.size
    omega
end Go.Proofs.YtlhdapckenjigaaGreatDoor.Y
namespace Go.Proofs.YtlhdapckenjigaaGreatDoor.Y
open Go.RowKit
open Go.Proofs.YtlhdapckenjigaaGreatDoor.L (T5 V VsAt t5Cells vCells cell_of_heap)
set_option maxRecDepth 100000

set_option maxHeartbeats 400000 in
theorem closeOf_any (k : Int) (w : World) : Calls Tryz.prog 85 #[.int .i64 k] w fun e w' => e = .returned (.int .i64 (closeZ k)) ∧ w = w' := by
  have HZ : ∀ (p q r s : Bool), p = (k == 19) → q = (k == 21) → r = (k == 2) → s = (k == 23) → Calls Tryz.prog 85 #[.int .i64 k] w fun e w' => e = .returned (.int .i64 (closeZ k)) ∧ w = w' := by
    intro p q r s z1 z2 z3 z4
    have HV : Hid (closeZ k = if p then 20 else if q || r then 22 else if s then 24 else 0) := by
      show _ = _
      unfold closeZ
      rw [z1, z2, z3, z4]
      simp
    have y1 := z1.symm
    have y2 := z2.symm
    have y3 := z3.symm
    have y4 := z4.symm
    clear z1 z2 z3 z4
    cases p <;> cases q <;> cases r <;> cases s
    all_goals
      go_enter Tryz.func85, Tryz.ntmps85
      go_wp2
      go_ret
      exact ⟨by rw [HV.out]; rfl, rfl⟩
  exact HZ _ _ _ _ rfl rfl rfl rfl
set_option maxHeartbeats 400000 in
theorem ends0_any (cs : Array Value) (w : World) : Calls Tryz.prog 57 #[.agg cs] w fun e w' => e = .returned (.bool false) ∧ Below w.heap.size w w' := by
  go_enter Tryz.func57, Tryz.ntmps57
  go_wp2
  go_ret
  exact ⟨rfl, (Below.refl _ w).alloc (Nat.le_refl _) _⟩
set_option maxHeartbeats 400000 in
theorem ends1_any (k c : Int) (tx un : ByteArray) (wh fl : Bool) (w : World) (B : Nat) (h : w.heap[B]? = some (.cells #[.int .i64 c] 3 (0, 0))) :
    Calls Tryz.prog 117 #[.agg #[.int .i64 k, .string tx, .string un, .bool wh, .bool fl], .pointer (some ⟨B, 0, none⟩)] w fun e w' => e = .returned (.bool (k == c)) ∧ Below w.heap.size w w' := by
  have hlt : B < w.heap.size := (Array.getElem?_eq_some_iff.1 h).1
  have hc : w.cell? ⟨B, 0, none⟩ = some (.int .i64 c) := by simp [World.cell?, h]
  clear h
  go_enter Tryz.func117, Tryz.ntmps117
  go_wp2
  go_ret
  exact ⟨rfl, (Below.refl _ w).alloc (Nat.le_refl _) _⟩
set_option maxHeartbeats 400000 in
theorem closes_any (k : Int) (tx un : ByteArray) (wh fl : Bool) (w : World) :
    Calls Tryz.prog 87 #[.agg #[.int .i64 k, .string tx, .string un, .bool wh, .bool fl]] w fun e w' => ∃ B, e = .returned (.func (.func 117) #[] #[.pointer (some ⟨B, 0, none⟩)]) ∧ w.heap.size ≤ B ∧ w'.heap[B]? = some (.cells #[.int .i64 (closeZ k)] 3 (0, 0)) ∧ Below w.heap.size w w' := by
  have hco := fun w => closeOf_any k w
  generalize closeZ k = c at *
  have hal : ∀ o o', Below w.heap.size w ((w.alloc o).alloc o') := fun o o' => ((Below.refl _ w).alloc (Nat.le_refl _) o).alloc (by simp) o'
  have hbl : ∀ o o', ((w.alloc o).alloc o').heap[w.heap.size + 1]? = some o' := fun o o' => by
    have := heap_alloc_new (w.alloc o) o'
    rwa [show (w.alloc o).heap.size = w.heap.size + 1 by simp] at this
  go_enter Tryz.func87, Tryz.ntmps87
  go_wp2_with (go_at_call 85; refine (hco _).mono ?_; rintro e w1 ⟨rfl, rfl⟩)
  go_ret
  exact ⟨_, rfl, by omega, hbl _ _, hal _ _⟩
theorem Tryz.info3 : (Tryz.prog.info? 3).map (fun i => (i.zero, i.size, i.bytes)) = some (some (.int .i64 0), 1, 8) := by kernel_rfl
/-- The tokens behind all that is open, the innermost first. -/
def runS : List Int → List T5 → List T5
  | [], l => l
  | _ :: _, [] => []
  | c :: s, t :: r => if t.k = c then runS s r else if closeZ t.k = 0 then runS (c :: s) r else runS (closeZ t.k :: c :: s) r
termination_by _ l => l.length
theorem runS_nil (s : List Int) : runS s [] = [] := by cases s <;> simp [runS]
theorem runS_some : ∀ (f : Nat) (l : List T5), l.length ≤ f → ∀ (c n : Int) (s : List Int), c ≠ 0 → runS (c :: s) l = runS s (someZ f l c n).2
  | f, [], _, c, n, s, _ => by rw [runS_nil, someZ_nil, runS_nil]
  | 0, t :: r, h, c, n, s, _ => by simp at h
  | f + 1, t :: r, h, c, n, s, hc => by
    rw [List.length_cons] at h
    rw [runS, someZ]
    by_cases h1 : t.k = c
    · rw [if_pos h1, if_pos ⟨hc, h1⟩]
    · rw [if_neg h1, if_neg (show ¬ (c ≠ 0 ∧ t.k = c) from fun e => h1 e.2)]
      by_cases h2 : closeZ t.k = 0
      · rw [if_pos h2, if_pos h2]
        exact runS_some f r (by omega) c n s hc
      · have hl := some_len f r (closeZ t.k) (n + 1)
        rw [if_neg h2, if_neg h2, runS_some f r (by omega) (closeZ t.k) (n + 1) (c :: s) h2, runS_some f _ (by omega) c n s hc]
        by_cases h3 : 64 < n + 1
        · rw [if_pos h3]
        · rw [if_neg h3]

theorem TsAt.drop {W : World} {b off n c : Nat} {ts : List T5} (h : TsAt W (.slice (some ⟨b, off, none⟩) n c) ts) (k : Nat) (hk : k ≤ ts.length) (a' : Addr) (ha : k < ts.length → a' = ⟨b, off + k * 5, none⟩) : TsAt W (.slice (some a') (n - k) (c - k)) (ts.drop k) := by
  obtain ⟨a, c', hv, h1, h2, h3⟩ := h
  have e1 : a = some ⟨b, off, none⟩ := by injection hv with x y z; exact x.symm
  have e2 : c' = c := by injection hv with x y z; exact z.symm
  have e3 : n = ts.length := by injection hv with x y z
  subst e1 e2 e3
  have hl : (ts.drop k).length = ts.length - k := List.length_drop
  refine ⟨_, c' - k, by rw [hl], by omega, by omega, fun h0 => ?_⟩
  obtain ⟨b', off', ha', hlt, hc⟩ := h3 (by omega)
  cases ha'
  refine ⟨b, off + k * 5, congrArg some (ha (by omega)), hlt, fun i hi j y hy => ?_⟩
  have := hc (k + i) (by omega) j y (by rw [← hy]; simp)
  rw [show off + k * 5 + i * 5 + j = off + (k + i) * 5 + j by omega]
  exact this
set_option maxHeartbeats 1000000 in
theorem behind_any (ts : List T5) (W0 W : World) (v : Value) (hv : TsAt W0 v ts) (hW0 : Below W0.heap.size W0 W) (k : Int) (tx un : ByteArray) (wh fl : Bool) (hn : ts.length ≤ 100000) :
    Calls Tryz.prog 86 #[v, .agg #[.int .i64 k, .string tx, .string un, .bool wh, .bool fl]] W fun e w' => ∃ rest, e = .returned rest ∧ TsAt W0 rest (runS [closeZ k] ts) ∧ Below W.heap.size W w' := by
  have hco := fun w => closeOf_any k w
  generalize closeZ k = c at *
  have HV := hid_mk hv
  obtain ⟨a, cap, rfl, hl, hcap, hxx⟩ := hv
  go_enter Tryz.func86, Tryz.ntmps86
  go_wp2_with (go_at_call 85; refine (hco _).mono ?_; rintro e w1 ⟨rfl, rfl⟩)
  have HI : Hid (((W.alloc (.cells #[.int .i64 k, .string tx, .string un, .bool wh, .bool fl] 55)).alloc (.cells #[.int .i64 c] 3)).ownsRow W.heap.size 3 1 (.slice (some ⟨W.heap.size + 1, 0, none⟩) 1 1) 1 [.int .i64 c]) := by
    have := World.ownsRow_lit (base := W.heap.size) (e := 3) (size := 1) (W.alloc (.cells #[.int .i64 k, .string tx, .string un, .bool wh, .bool fl] 55)) #[.int .i64 c] 1 (by simp) (by decide) rfl
    rwa [show (W.alloc (.cells #[.int .i64 k, .string tx, .string un, .bool wh, .bool fl] 55)).heap.size = W.heap.size + 1 by simp] at this
  have HB : Hid (Below W.heap.size W ((W.alloc (.cells #[.int .i64 k, .string tx, .string un, .bool wh, .bool fl] 55)).alloc (.cells #[.int .i64 c] 3))) := ((Below.refl _ W).alloc (Nat.le_refl _) _).alloc (by simp) _
  go_loopw [5, 16] (fun a5 a16 wr => ∃ (i : Nat) (ss : List Int) (c' : Int), i ≤ ts.length ∧ a16 = .int .i64 (i : Int) ∧ wr.ownsRow W.heap.size 3 1 a5 (ss.length + 1) ((ss ++ [c']).map (Value.int .i64)) ∧ ss.length ≤ i ∧ runS [c] ts = runS (c' :: ss.reverse) (ts.drop i) ∧ Below W.heap.size W wr) (fun _ a16 _ => ts.length + 1 - (intOf a16).toNat)
  case atStart => exact ⟨0, [], c, Nat.zero_le _, rfl, HI.out, Nat.zero_le _, rfl, HB.out⟩
  case round =>
    obtain ⟨i, ss, c', hi, rfl, hown, hss, hE, hB⟩ := hrel
    clear HI HB hco
    by_cases hlt : i < ts.length
    · obtain ⟨g, rcap, rfl⟩ := ownsRow_succ hown
      obtain ⟨b, off, rfl, hbw, hcell⟩ := hxx (by omega)
      have hq := fun j y hy => ((hW0.trans (hB.mono hW0.size)).cell (p := ⟨b, off + i * 5 + j, none⟩) hbw).trans (hcell i hlt j y hy)
      have hdr : ts.drop i = ts[i]'hlt :: ts.drop (i + 1) := List.drop_eq_getElem_cons hlt
      rw [hdr] at hE
      clear hdr
      generalize ts[i]'hlt = t at *
      obtain ⟨tk, ttx, tun, twh, tfl⟩ := t
      have q0 : wr.cell? ⟨b, off + i * 5, none⟩ = some (.int .i64 tk) := hq 0 _ rfl
      have q1 : wr.cell? ⟨b, off + i * 5 + 1, none⟩ = some (.string ttx) := hq 1 _ rfl
      have q2 : wr.cell? ⟨b, off + i * 5 + 2, none⟩ = some (.string tun) := hq 2 _ rfl
      have q3 : wr.cell? ⟨b, off + i * 5 + 3, none⟩ = some (.bool twh) := hq 3 _ rfl
      have q4 : wr.cell? ⟨b, off + i * 5 + 4, none⟩ = some (.bool tfl) := hq 4 _ rfl
      have hlt2 := (hown.lt g rfl).2
      have hbw2 : b < wr.heap.size := Nat.lt_of_lt_of_le hbw (Nat.le_trans hW0.size hB.size)
      have hrc : wr.cell? ⟨g, ss.length, none⟩ = some (.int .i64 c') := by
        rw [hown.cellAt ss.length (by omega)]
        simp
      have hbs := hB.size
      have hrm : ss.length + 1 ≤ rcap ∧ rcap ≤ 9223372036854775807 := by
        rcases hown.2 with ⟨h, _⟩ | ⟨_, _, _, h, _, _, h1, h2, _⟩
        · cases h
        · cases h
          exact ⟨h1, h2⟩
      obtain ⟨hr1, hr2⟩ := hrm
      have HBA : Hid (∀ o, Below W.heap.size W (wr.alloc o)) := fun o => hB.alloc hbs o
      have HTD : Hid (∀ a' n' d', n' = ts.length - (i + 1) → d' = cap - (i + 1) → (i + 1 < ts.length → a' = ⟨b, off + (i + 1) * 5, none⟩) → TsAt W0 (.slice (some a') n' d') (ts.drop (i + 1))) := by
        rintro a' n' d' rfl rfl h
        exact HV.out.drop (i + 1) (by omega) a' h
      have HOWN := hid_mk hown
      have HE : Hid (runS [c] ts = if tk = c' then runS ss.reverse (ts.drop (i + 1)) else if closeZ tk = 0 then runS (c' :: ss.reverse) (ts.drop (i + 1)) else runS (closeZ tk :: c' :: ss.reverse) (ts.drop (i + 1))) := by
        show _ = _
        rw [hE, runS]
      clear hq hcell hxx hE hown hB HV hW0
      by_cases h1 : tk = c'
      · subst h1
        have HE1 := HE.out
        rw [if_pos rfl] at HE1
        have HF := hid_mk HE1
        clear HE HE1
        rcases List.eq_nil_or_concat ss with rfl | ⟨ss', c2, rfl⟩
        · have HR : Hid (runS [c] ts = ts.drop (i + 1)) := by
            show _ = _
            rw [HF.out, List.reverse_nil, runS]
          simp only [List.length_nil, Nat.zero_add] at hrc hr1 HOWN
          simp only [List.length_nil, Nat.zero_add]
          clear HF HOWN
          go_wp2
          go_quiet (fail)
          go_wp2
          all_goals
            go_ret
            exact ⟨_, rfl, by rw [HR.out]; exact HTD.out _ _ _ (by omega) (by omega) (fun h => by first | exact addr_eq (by omega) | (exfalso; omega)), (HBA.out _).trans (below_drewN5 _ _ _)⟩
        · have HR : Hid (runS [c] ts = runS (c2 :: ss'.reverse) (ts.drop (i + 1))) := by
            show _ = _
            rw [HF.out, List.concat_eq_append, List.reverse_append]
            rfl
          have HP : Hid (wr.ownsRow W.heap.size 3 1 (.slice (some ⟨g, 0, none⟩) (ss'.length + 1) rcap) (ss'.length + 1) ((ss' ++ [c2]).map (Value.int .i64))) := by
            have := HOWN.out
            rw [List.concat_eq_append, List.map_append] at this
            have hl2 : (ss' ++ [c2]).length = ss'.length + 1 := by simp
            rw [hl2] at this
            exact ownsRow_pop (by simp) this
          have hl2 : (ss'.concat c2).length = ss'.length + 1 := by simp
          rw [hl2] at hrc hr1 hss
          rw [hl2]
          clear HF HOWN hl2
          go_wp2
          go_quiet (fail)
          go_wp2
          go_roundw
          case rel => exact ⟨i + 1, ss', c2, by omega, by go_num, ownsRow_below (HP.out.alloc _) (below_drewN5 _ _ _), by omega, HR.out, (HBA.out _).trans (below_drewN5 _ _ _)⟩
          case measure => simp [intOf]; omega
      · have z1 : (tk == c') = false := by simpa using h1
        have HE1 := HE.out
        rw [if_neg h1] at HE1
        have HF := hid_mk HE1
        have hco := fun w => closeOf_any tk w
        generalize closeZ tk = e at *
        clear HE HE1 h1
        by_cases h2 : e = 0
        · subst h2
          have HR := HF.out
          rw [if_pos rfl] at HR
          have HG := hid_mk HR
          clear HR HF
          go_wp2
          go_quiet (fail)
          go_wp2_with (go_at_call 85; refine (hco _).mono ?_; rintro e' w' ⟨rfl, rfl⟩)
          go_roundw
          case rel => exact ⟨i + 1, ss, c', by omega, by go_num, ownsRow_below (HOWN.out.alloc _) (below_drewN5 _ _ _), by omega, HG.out, (HBA.out _).trans (below_drewN5 _ _ _)⟩
          case measure => simp [intOf]; omega
        · have z2 : (e != 0) = true := by simpa using h2
          have HG : Hid (runS [c] ts = runS (e :: (ss ++ [c']).reverse) (ts.drop (i + 1))) := by
            show _ = _
            have := HF.out
            rw [if_neg h2] at this
            rw [this, List.reverse_append]
            rfl
          clear HF h2
          go_wp2
          go_quiet (fail)
          go_wp2_with (go_at_call 85; refine (hco _).mono ?_; rintro e' w' ⟨rfl, rfl⟩; fail)
          go_at_call 85
          refine (hco _).mono ?_
          rintro e' w' ⟨rfl, rfl⟩
          have hown2 := ownsRow_below (HOWN.out.alloc (.cells #[.int .i64 tk, .string ttx, .string tun, .bool twh, .bool tfl] 55)) (below_drewN5 _ _ nq)
          have HB2 : Hid (Below W.heap.size W ((wr.alloc (.cells #[.int .i64 tk, .string ttx, .string tun, .bool twh, .bool tfl] 55)).drewN nq)) := (HBA.out _).trans (below_drewN5 _ _ _)
          generalize (wr.alloc (.cells #[.int .i64 tk, .string ttx, .string tun, .bool twh, .bool tfl] 55)).drewN nq = WA at *
          obtain ⟨i0, hi0, hz0, hz1, hz2⟩ := info_parts Tryz.info3
          have hbs2 := HB2.out.size
          go_wp2_with (at_builtin; go_must (refine wpList_append_own _ rfl _ _ 52 rfl W.heap.size 3 i0 _ 1 8 Tryz.underlying52 hi0 hz0 hz1 hz2 rfl (by decide) _ _ _ rfl (hown2.alloc _) ⟨WA.heap.size, 0, none⟩ 1 1 [.int .i64 e] rfl rfl (cell_one_new _ _ _) (by intro u hu; simp at hu; subst hu; rfl) (by unfold maxLen; omega) (by omega) (by simp; omega) ?_); intro v' w7 hown7 hgrow7 _; obtain ⟨g7, cap7, rfl⟩ := ownsRow_succ hown7)
          go_roundw
          case rel => exact ⟨i + 1, ss ++ [c'], e, by omega, by go_num, by simpa using hown7, by simp; omega, HG.out, (HB2.out.alloc hbs2 _).grown hgrow7 (by simp; omega) (fun k hk => (hown2.lt k hk).1)⟩
          case measure => simp [intOf]; omega
    · have hd : ts.drop i = [] := List.drop_eq_nil_of_le (by omega)
      rw [hd, runS_nil] at hE
      clear hd hown hW0
      have HE := hid_mk hE
      clear hE
      go_wp2
      go_ret
      exact ⟨_, rfl, by rw [HE.out]; exact TsAt.nil _, hB⟩

end Go.Proofs.YtlhdapckenjigaaGreatDoor.Y
namespace Go.Proofs.YtlhdapckenjigaaGreatDoor.Y
open Go.RowKit
open Go.Proofs.YtlhdapckenjigaaGreatDoor.L (T5 V VsAt t5Cells vCells cell_of_heap)
set_option maxRecDepth 100000

/-- Behind the store of what is within, wherever the value's block lies. -/
theorem opened2 {P0 B : Nat} {W wr WA w1 : World} {u8 : Value} {ps : List (T5 × Value × List V)} {x0 x1 x2 x3 x4 x5 : Value} {kv : Value} {kids : List V} (hrow : Row (fun b => P0 ≤ b) P0 wr u8 ps) (hB : Below P0 W wr) (hAW : Below wr.heap.size wr WA) (hb1 : Below WA.heap.size WA w1)
    (hx : WA.heap[B]? = some (.cells #[x0, x1, x2, x3, x4, x5] 57 (0, 0))) (hBs : wr.heap.size ≤ B) (hk : VsAt (fun b => WA.heap.size ≤ b) w1 kv kids) (hP : P0 ≤ wr.heap.size) :
    Row (fun b => P0 ≤ b) P0 (w1.setCell ⟨B, 5, none⟩ kv) u8 ps ∧ Below P0 W (w1.setCell ⟨B, 5, none⟩ kv) ∧ (w1.setCell ⟨B, 5, none⟩ kv).heap[B]? = some (.cells #[x0, x1, x2, x3, x4, kv] 57 (0, 0)) ∧ VsAt (fun b => P0 ≤ b ∧ u8.ownBlock ≠ some b) (w1.setCell ⟨B, 5, none⟩ kv) kv kids := by
  have hlt : B < WA.heap.size := (Array.getElem?_eq_some_iff.1 hx).1
  have h1 : Below wr.heap.size wr (w1.setCell ⟨B, 5, none⟩ kv) := (hAW.trans (hb1.mono hAW.size)).setCell (p := ⟨B, 5, none⟩) hBs kv
  have hx1 := (hb1.block _ hlt).trans hx
  refine ⟨hrow.keep h1, hB.trans (h1.mono hP), ?_, ?_⟩
  · have := heap_setCell_same w1 B 5 #[x0, x1, x2, x3, x4, x5] 57 kv hx1
    rw [this]
    rfl
  · have h2 := hk.stay (W' := w1.setCell ⟨B, 5, none⟩ kv) (by simp) (fun b hb _ => Below.heap_setCell w1 ⟨B, 5, none⟩ kv b (by show b ≠ B; omega))
    refine h2.wider (fun b hb _ => ⟨by have := hAW.size; omega, fun e => ?_⟩)
    have := (hrow.1.lt b e).2
    have := hAW.size
    omega
/-- The function that tells what ends the values: nothing (0), or a kind. -/
def EndF (W : World) (fv : Value) (c : Int) : Prop := (fv = .func (.func 57) #[] #[] ∧ c = 0) ∨ ∃ B, fv = .func (.func 117) #[] #[.pointer (some ⟨B, 0, none⟩)] ∧ c ≠ 0 ∧ W.heap[B]? = some (.cells #[.int .i64 c] 3 (0, 0))
theorem tok5c {W : World} {B : Nat} {x0 x1 x2 x3 x4 : Value} (h : W.heap[B]? = some (.cells #[x0, x1, x2, x3, x4] 55 (0, 0))) :
    W.cell? ⟨B, 0, none⟩ = some x0 ∧ W.cell? ⟨B, 1, none⟩ = some x1 ∧ W.cell? ⟨B, 2, none⟩ = some x2 ∧ W.cell? ⟨B, 3, none⟩ = some x3 ∧ W.cell? ⟨B, 4, none⟩ = some x4 := by
  refine ⟨?_, ?_, ?_, ?_, ?_⟩ <;> simp [World.cell?, h]

set_option maxHeartbeats 2000000 in
theorem read_any (f : Nat) : ∀ (ts : List T5), ts.length ≤ f → ∀ (W0 : World) (v : Value), TsAt W0 v ts → ∀ W, Below W0.heap.size W0 W → ∀ (c n : Int) (fv : Value), EndF W fv c → 0 ≤ n → n ≤ 64 → ts.length ≤ 100000 →
    Calls Tryz.prog 56 #[v, .int .i64 n, fv] W fun e w' => ∃ out rest, e = .returned (.tuple #[out, rest]) ∧ VsAt (fun b => W.heap.size ≤ b) w' out (someZ f ts c n).1 ∧ TsAt W0 rest (someZ f ts c n).2 ∧ Below W.heap.size W w' := by
  induction f using Nat.strongRecOn with
  | _ f ih =>
    intro ts hf W0 v hv W hW0 c n fv hfv hn0 hn1 hn2
    obtain ⟨i0, hi0, hz0, hz1, hz2⟩ := info_parts Tryz.info57
    have HV := hid_mk hv
    have HI := hid_mk ih
    obtain ⟨a, cap, rfl, hl, hcap, _⟩ := hv
    clear ih
    rcases hfv with ⟨rfl, hc0⟩ | ⟨BF, rfl, hcz, hBF⟩
    · have HEN : Hid (∀ (tk : Int) (tx un : ByteArray) (wh fl : Bool) (w : World), Below W.heap.size W w → Calls Tryz.prog 57 #[.agg #[.int .i64 tk, .string tx, .string un, .bool wh, .bool fl]] w fun e w' => e = .returned (.bool (decide (c ≠ 0 ∧ tk = c))) ∧ Below w.heap.size w w') := by
        intro tk tx un wh fl w _
        have : decide (c ≠ 0 ∧ tk = c) = false := by simp [hc0]
        rw [this]
        exact ends0_any _ w
      clear hc0
      go_enter Tryz.func56, Tryz.ntmps56
      go_wp2
      go_loopw [0, 8] (fun a0 a8 wr => ∃ (g : Nat) (r : List T5) (ps : List (T5 × Value × List V)), r.length ≤ g ∧ g ≤ f ∧ TsAt W0 a0 r ∧ Row (fun b => W.heap.size ≤ b) W.heap.size wr a8 ps ∧ Below W.heap.size W wr ∧ someZ f ts c n = (ps.map mkV ++ (someZ g r c n).1, (someZ g r c n).2) ∧ ps.length + r.length ≤ ts.length) (fun a0 _ _ => sliceLen a0)
      case atStart => exact ⟨f, ts, [], hf, Nat.le_refl _, HV.out, ⟨World.ownsRow_nil _ _ _ _, fun g hg => by simp [Value.ownBlock] at hg, fun p hp => by cases hp⟩, Below.refl _ _, rfl, by simp⟩
      case round =>
        obtain ⟨g, r, ps, hg, hgf, hts, hrow, hB, hE, hpl⟩ := hrel
        have HE := hid_mk hE
        clear hE HV
        have hW1 : Below W0.heap.size W0 wr := hW0.trans (hB.mono hW0.size)
        cases r with
        | nil =>
          obtain ⟨a0, c0, rfl, _⟩ := hts
          have HD := hid_mk (someZ_nil g c n)
          have hvs := hrow.vals
          have HR : Hid (VsAt (fun b => W.heap.size ≤ b) wr u8 (someZ f ts c n).1 ∧ (someZ f ts c n).2 = []) := by
            show _ ∧ _
            rw [HE.out, HD.out, List.append_nil]
            exact ⟨hvs, rfl⟩
          clear hrow hvs HI HE HD HEN
          go_wp2
          go_ret2
          exact ⟨_, _, rfl, HR.out.1, by rw [HR.out.2]; exact TsAt.nil _, hB⟩
        | cons t r =>
          obtain ⟨g, rfl⟩ : ∃ g', g = g' + 1 := ⟨g - 1, by rw [List.length_cons] at hg; omega⟩
          have HTS := hid_mk hts
          obtain ⟨a0, c0, rfl, hc1, hc2, hcell⟩ := hts
          obtain ⟨b, off, rfl, hbw, hcc⟩ := hcell (by simp)
          have hq := fun j y hy => (hW1.cell (p := ⟨b, off + 0 * 5 + j, none⟩) hbw).trans (hcc 0 (by simp) j y hy)
          simp only [Nat.zero_mul, Nat.add_zero, List.getElem_cons_zero] at hq
          rw [List.length_cons] at hg hpl hc1
          obtain ⟨tk, tx, un, wh, fl⟩ := t
          have q0 := hq 0 _ rfl
          have q1 := hq 1 _ rfl
          have q2 := hq 2 _ rfl
          have q3 := hq 3 _ rfl
          have q4 := hq 4 _ rfl
          simp only [Nat.add_zero] at q0
          clear hq hcc hcell
          have hen := fun w hw => HEN.out tk tx un wh fl w hw
          obtain ⟨en, he⟩ : ∃ en, en = decide (c ≠ 0 ∧ tk = c) := ⟨_, rfl⟩
          rw [← he] at hen
          have HQ := hid_mk he
          clear he HEN
          have HTL : Hid (∀ a', (0 < r.length → a' = ⟨b, off + 5, none⟩) → TsAt W0 (.slice (some a') r.length (c0 - 1)) r) := fun a' h => TsAt.tail HTS.out a' h
          have hAl : Below wr.heap.size wr (wr.alloc (.cells #[.int .i64 tk, .string tx, .string un, .bool wh, .bool fl] 55)) := (Below.refl _ wr).alloc (Nat.le_refl _) _
          have hBA : Below W.heap.size W (wr.alloc (.cells #[.int .i64 tk, .string tx, .string un, .bool wh, .bool fl] 55)) := hB.trans (hAl.mono hB.size)
          have hbl0 := heap_alloc_new wr (.cells #[.int .i64 tk, .string tx, .string un, .bool wh, .bool fl] 55)
          have hsA : (wr.alloc (.cells #[.int .i64 tk, .string tx, .string un, .bool wh, .bool fl] 55)).heap.size = wr.heap.size + 1 := by simp
          have HROW := hid_mk hrow
          clear hrow HTS
          go_wp2_with (go_at_call 57; fail)
          all_goals
            refine (hen _ hBA).mono ?_
            rintro e' w1 ⟨rfl, b1⟩
            have hw1 : Below wr.heap.size wr w1 := hAl.trans (b1.mono hAl.size)
            have hBw : Below W.heap.size W w1 := hB.trans (hw1.mono hB.size)
            have hWw : Below W0.heap.size W0 w1 := hW1.trans (hw1.mono hW1.size)
            have HRW := hid_mk (HROW.out.keep hw1)
            have hx : w1.heap[wr.heap.size]? = some (.cells #[.int .i64 tk, .string tx, .string un, .bool wh, .bool fl] 55 (0, 0)) := (b1.block _ (by omega)).trans hbl0
            have hsz : wr.heap.size < w1.heap.size := (Array.getElem?_eq_some_iff.1 hx).1
            clear q0 q1 q2 q3 q4
            obtain ⟨q0, q1, q2, q3, q4⟩ := tok5c hx
            have HT : Hid (∃ sl, TsAt W0 sl r) := ⟨_, HTL.out ⟨b, off + 5, none⟩ (fun h => rfl)⟩
            first
              | (have hc01 : c0 = 1 := by omega
                 subst hc01
                 have htl : TsAt W0 (.slice (some ⟨b, off, none⟩) r.length 0) r := HTL.out ⟨b, off, none⟩ (fun h => by exfalso; omega)
                 have HTT := hid_mk htl
                 clear htl)
              | (have htl := HTL.out ⟨b, off + 5, none⟩ (fun h => rfl)
                 have HTT := hid_mk htl
                 clear htl)
            clear b1 hen hBA hbl0 hAl hw1 HROW HTL HT hx hW1 hB
            have hbs := hBw.size
            by_cases hen1 : en = true
            · subst hen1
              have HZ : Hid (someZ (g + 1) (⟨tk, tx, un, wh, fl⟩ :: r) c n = ([], r)) := by show _ = _; rw [someZ, if_pos (of_decide_eq_true HQ.out.symm)]
              have HR : Hid (VsAt (fun b => W.heap.size ≤ b) w1 u8 (someZ f ts c n).1 ∧ (someZ f ts c n).2 = r) := by
                show _ ∧ _
                rw [HE.out, HZ.out, List.append_nil]
                exact ⟨HRW.out.vals, rfl⟩
              clear HRW HI HE HZ HQ
              go_wp2
              go_ret2
              exact ⟨_, _, rfl, HR.out.1, by rw [HR.out.2]; exact HTT.out, hBw⟩
            · have hen2 : en = false := by simpa using hen1
              subst hen2
              have HA : Hid (¬ (c ≠ 0 ∧ tk = c)) := of_decide_eq_false HQ.out.symm
              clear hen1 HQ
              have hco := fun w => closeOf_any tk w
              obtain ⟨e, he⟩ : ∃ e, e = closeZ tk := ⟨_, rfl⟩
              rw [← he] at hco
              have HEQ := hid_mk he
              clear he
              go_wp2_with (go_at_call 85; fail)
              refine (hco _).mono ?_
              rintro e' w' ⟨rfl, rfl⟩
              clear hco
              by_cases h0 : e = 0
              · subst h0
                have HNX : Hid (someZ f ts c n = ((ps ++ [((⟨tk, tx, un, wh, fl⟩ : T5), (Value.slice none 0 0), ([] : List V))]).map mkV ++ (someZ g r c n).1, (someZ g r c n).2)) := by
                  show _ = _
                  rw [HE.out, someZ, if_neg HA.out, if_pos HEQ.out.symm, List.map_append, List.append_assoc]
                  rfl
                have hown := HRW.out.1
                clear HI HE HA HEQ
                go_wp2_with (at_builtin; go_must (refine wpList_append_own_at _ rfl _ _ 24 rfl W.heap.size 57 i0 _ 6 72 Tryz.underlying24 hi0 hz0 hz1 hz2 rfl (by decide) _ _ _ rfl (hown.alloc _) ⟨w1.heap.size, 0, none⟩ 1 1 [.int .i64 tk, .string tx, .string un, .bool wh, .bool fl, .slice none 0 0] rfl rfl (news6 w1 _ _ _ _ _ _) (by intro u hu; simp at hu; rcases hu with rfl | rfl | rfl | rfl | rfl | rfl <;> rfl) (by unfold maxLen; omega) (by omega) (by simp; omega) ?_); intro v' w7 hown7 hgrow7 _ hat7)
                go_roundw
                case rel => exact ⟨g, r, _, by omega, by omega, HTT.out, HRW.out.push (t := ⟨tk, tx, un, wh, fl⟩) (VsAt.nil _ _) hown7 hgrow7 hat7 (by simp; omega), (hBw.alloc hbs _).grown hgrow7 (by simp; omega) (fun k hk => (hown.lt k hk).1), HNX.out, by simp; omega⟩
                case measure => simp [sliceLen]
              · have zE : (e == 0) = false := by simpa using h0
                have hrl := some_len g r e (n + 1)
                have HSZ : Hid (someZ f ts c n = if 64 < n + 1 then (ps.map mkV ++ (someZ g (someZ g r e (n + 1)).2 c n).1, (someZ g (someZ g r e (n + 1)).2 c n).2) else (ps.map mkV ++ (V.mk ⟨tk, tx, un, wh, fl⟩ (someZ g r e (n + 1)).1 :: (someZ g (someZ g r e (n + 1)).2 c n).1), (someZ g (someZ g r e (n + 1)).2 c n).2)) := by
                  show _ = _
                  rw [HE.out, someZ, if_neg HA.out, if_neg (by rw [← HEQ.out]; exact h0), ← HEQ.out]
                  by_cases h6 : 64 < n + 1
                  · rw [if_pos h6, if_pos h6]
                  · rw [if_neg h6, if_neg h6]
                have HRS : Hid (runS [closeZ tk] r = (someZ g r e (n + 1)).2) := by
                  show _ = _
                  rw [runS_some g r (by omega) (closeZ tk) (n + 1) [] (by rw [← HEQ.out]; exact h0), runS, ← HEQ.out]
                have HREC : Hid (∀ sl, TsAt W0 sl r → ∀ w', Below W0.heap.size W0 w' → ∀ fv, EndF w' fv e → n + 1 ≤ 64 → Calls Tryz.prog 56 #[sl, .int .i64 (n + 1), fv] w' fun e' w'' => ∃ out rest, e' = .returned (.tuple #[out, rest]) ∧ VsAt (fun b => w'.heap.size ≤ b) w'' out (someZ g r e (n + 1)).1 ∧ TsAt W0 rest (someZ g r e (n + 1)).2 ∧ Below w'.heap.size w' w'') :=
                  fun sl hsl w' hw' fv hfv hn => HI.out g (by omega) r (by omega) W0 sl hsl w' hw' e (n + 1) fv hfv (by omega) hn (by omega)
                have HBH : Hid (Calls Tryz.prog 86 #[_, .agg #[.int .i64 tk, .string tx, .string un, .bool wh, .bool fl]] w1 fun e w' => ∃ rest, e = .returned rest ∧ TsAt W0 rest (runS [closeZ tk] r) ∧ Below w1.heap.size w1 w') := behind_any r W0 w1 _ HTT.out hWw tk tx un wh fl (by omega)
                have HBH2 := HBH.out
                rw [HRS.out] at HBH2
                have HBK := hid_mk HBH2
                clear HBH HBH2
                generalize someZ g r e (n + 1) = Z at *
                obtain ⟨zk, zr⟩ := Z
                have HEQ2 := hid_mk HEQ.out
                clear HI HE HA HEQ HRS
                by_cases h6 : n = 64
                · have HNX : Hid (someZ f ts c n = (ps.map mkV ++ (someZ g zr c n).1, (someZ g zr c n).2)) := by
                    show _ = _
                    have := HSZ.out
                    rwa [if_pos (by omega)] at this
                  clear HSZ HREC
                  subst h6
                  go_wp2_with (go_at_call 86; fail)
                  refine HBK.out.mono ?_
                  rintro e' w2 ⟨rest, rfl, htr, hb2⟩
                  have HTR := hid_mk htr
                  obtain ⟨ra, rc, rfl, _⟩ := htr
                  clear HBK
                  go_wp2
                  go_roundw
                  case rel => exact ⟨g, zr, ps, by omega, by omega, HTR.out, HRW.out.keep hb2, hBw.trans (hb2.mono hbs), HNX.out, by omega⟩
                  case measure => simp [sliceLen]; omega
                · have z6 : (n == 64) = false := by simpa using h6
                  have HNX : Hid (∀ kv, someZ f ts c n = ((ps ++ [((⟨tk, tx, un, wh, fl⟩ : T5), (kv : Value), zk)]).map mkV ++ (someZ g zr c n).1, (someZ g zr c n).2)) := by
                    intro kv
                    have := HSZ.out
                    rw [if_neg (by omega)] at this
                    rw [this, List.map_append, List.append_assoc]
                    rfl
                  clear HSZ HBK
                  have hAv : Below w1.heap.size w1 (w1.alloc (.cells #[.int .i64 tk, .string tx, .string un, .bool wh, .bool fl, .slice none 0 0] 57)) := (Below.refl _ w1).alloc (Nat.le_refl _) _
                  have hbv := heap_alloc_new w1 (.cells #[.int .i64 tk, .string tx, .string un, .bool wh, .bool fl, .slice none 0 0] 57)
                  go_wp2_with (go_at_call 87; fail)
                  refine (closes_any tk tx un wh fl _).mono ?_
                  rintro e' wc ⟨BC, rfl, hBC, hcx, hbc⟩
                  have hsv : (w1.alloc (.cells #[.int .i64 tk, .string tx, .string un, .bool wh, .bool fl, .slice none 0 0] 57)).heap.size = w1.heap.size + 1 := by simp
                  have hxv : wc.heap[w1.heap.size]? = some (.cells #[.int .i64 tk, .string tx, .string un, .bool wh, .bool fl, .slice none 0 0] 57 (0, 0)) := (hbc.block _ (by omega)).trans hbv
                  have hAW : Below w1.heap.size w1 wc := hAv.trans (hbc.mono hAv.size)
                  rw [← HEQ2.out] at hcx
                  have hrec := HREC.out _ HTT.out wc (hWw.trans (hAW.mono hWw.size)) _ (.inr ⟨BC, rfl, h0, hcx⟩) (by omega)
                  have HXV := hid_mk hxv
                  have hvlt : w1.heap.size < wc.heap.size := (Array.getElem?_eq_some_iff.1 hxv).1
                  clear hxv hbv hcx hbc hAv HREC hsv hBC q0 q1 q2 q3 q4 hsz hsA
                  go_wp2_with (go_at_call 56; fail)
                  refine hrec.mono ?_
                  rintro e' wk ⟨kids, rest, rfl, hvk, htr, hbk⟩
                  have x1 : wk.heap[w1.heap.size]? = some (.cells #[.int .i64 tk, .string tx, .string un, .bool wh, .bool fl, .slice none 0 0] 57 (0, 0)) := (hbk.block _ hvlt).trans HXV.out
                  obtain ⟨y0, y1, y2, y3, y4, y5⟩ := tok6 x1
                  have yf := tok6f x1
                  obtain ⟨ka, kc, rfl, _, _⟩ := hvk.slice
                  obtain ⟨D1, D2, D3, D4⟩ := opened2 (P0 := W.heap.size) HRW.out hBw hAW hbk HXV.out (Nat.le_refl _) hvk hbs
                  have HD1 := hid_mk D1
                  have HD2 := hid_mk D2
                  have HD3 := hid_mk D3
                  have HD4 := hid_mk D4
                  have HTR := hid_mk htr
                  obtain ⟨ra, rc, rfl, _⟩ := htr
                  clear hrec x1 hvk hbk hAW HXV D1 D2 D3 D4 HRW hBw hWw
                  go_upto_region 7 with fail
                  generalize wk.setCell ⟨w1.heap.size, 5, none⟩ (.slice ka zk.length kc) = w2 at *
                  clear y0 y1 y2 y3 y4 y5 yf
                  obtain ⟨y0, y1, y2, y3, y4, y5⟩ := tok6 HD3.out
                  have hown := HD1.out.1
                  have hbs2 := HD2.out.size
                  go_wp2_with (at_builtin; go_must (refine wpList_append_own_at _ rfl _ _ 24 rfl W.heap.size 57 i0 _ 6 72 Tryz.underlying24 hi0 hz0 hz1 hz2 rfl (by decide) _ _ _ rfl (hown.alloc _) ⟨w2.heap.size, 0, none⟩ 1 1 [.int .i64 tk, .string tx, .string un, .bool wh, .bool fl, .slice ka zk.length kc] rfl rfl (news6 w2 _ _ _ _ _ _) (by intro u hu; simp at hu; rcases hu with rfl | rfl | rfl | rfl | rfl | rfl <;> rfl) (by unfold maxLen; omega) (by omega) (by simp; omega) ?_); intro v' w7 hown7 hgrow7 _ hat7)
                  go_roundw
                  case rel => exact ⟨g, zr, _, by omega, by omega, HTR.out, HD1.out.push (t := ⟨tk, tx, un, wh, fl⟩) HD4.out hown7 hgrow7 hat7 (by simp; omega), (HD2.out.alloc hbs2 _).grown hgrow7 (by simp; omega) (fun k hk => (hown.lt k hk).1), HNX.out _, by simp; omega⟩
                  case measure => simp [sliceLen]; omega
    · have HEN : Hid (∀ (tk : Int) (tx un : ByteArray) (wh fl : Bool) (w : World), Below W.heap.size W w → Calls Tryz.prog 117 #[.agg #[.int .i64 tk, .string tx, .string un, .bool wh, .bool fl], .pointer (some ⟨BF, 0, none⟩)] w fun e w' => e = .returned (.bool (decide (c ≠ 0 ∧ tk = c))) ∧ Below w.heap.size w w') := by
        intro tk tx un wh fl w hw
        have : decide (c ≠ 0 ∧ tk = c) = (tk == c) := by
          rw [Bool.eq_iff_iff]
          simp [hcz]
        rw [this]
        exact ends1_any tk c tx un wh fl w BF ((hw.block BF (Array.getElem?_eq_some_iff.1 hBF).1).trans hBF)
      clear hcz hBF
      go_enter Tryz.func56, Tryz.ntmps56
      go_wp2
      go_loopw [0, 8] (fun a0 a8 wr => ∃ (g : Nat) (r : List T5) (ps : List (T5 × Value × List V)), r.length ≤ g ∧ g ≤ f ∧ TsAt W0 a0 r ∧ Row (fun b => W.heap.size ≤ b) W.heap.size wr a8 ps ∧ Below W.heap.size W wr ∧ someZ f ts c n = (ps.map mkV ++ (someZ g r c n).1, (someZ g r c n).2) ∧ ps.length + r.length ≤ ts.length) (fun a0 _ _ => sliceLen a0)
      case atStart => exact ⟨f, ts, [], hf, Nat.le_refl _, HV.out, ⟨World.ownsRow_nil _ _ _ _, fun g hg => by simp [Value.ownBlock] at hg, fun p hp => by cases hp⟩, Below.refl _ _, rfl, by simp⟩
      case round =>
        obtain ⟨g, r, ps, hg, hgf, hts, hrow, hB, hE, hpl⟩ := hrel
        have HE := hid_mk hE
        clear hE HV
        have hW1 : Below W0.heap.size W0 wr := hW0.trans (hB.mono hW0.size)
        cases r with
        | nil =>
          obtain ⟨a0, c0, rfl, _⟩ := hts
          have HD := hid_mk (someZ_nil g c n)
          have hvs := hrow.vals
          have HR : Hid (VsAt (fun b => W.heap.size ≤ b) wr u8 (someZ f ts c n).1 ∧ (someZ f ts c n).2 = []) := by
            show _ ∧ _
            rw [HE.out, HD.out, List.append_nil]
            exact ⟨hvs, rfl⟩
          clear hrow hvs HI HE HD HEN
          go_wp2
          go_ret2
          exact ⟨_, _, rfl, HR.out.1, by rw [HR.out.2]; exact TsAt.nil _, hB⟩
        | cons t r =>
          obtain ⟨g, rfl⟩ : ∃ g', g = g' + 1 := ⟨g - 1, by rw [List.length_cons] at hg; omega⟩
          have HTS := hid_mk hts
          obtain ⟨a0, c0, rfl, hc1, hc2, hcell⟩ := hts
          obtain ⟨b, off, rfl, hbw, hcc⟩ := hcell (by simp)
          have hq := fun j y hy => (hW1.cell (p := ⟨b, off + 0 * 5 + j, none⟩) hbw).trans (hcc 0 (by simp) j y hy)
          simp only [Nat.zero_mul, Nat.add_zero, List.getElem_cons_zero] at hq
          rw [List.length_cons] at hg hpl hc1
          obtain ⟨tk, tx, un, wh, fl⟩ := t
          have q0 := hq 0 _ rfl
          have q1 := hq 1 _ rfl
          have q2 := hq 2 _ rfl
          have q3 := hq 3 _ rfl
          have q4 := hq 4 _ rfl
          simp only [Nat.add_zero] at q0
          clear hq hcc hcell
          have hen := fun w hw => HEN.out tk tx un wh fl w hw
          obtain ⟨en, he⟩ : ∃ en, en = decide (c ≠ 0 ∧ tk = c) := ⟨_, rfl⟩
          rw [← he] at hen
          have HQ := hid_mk he
          clear he HEN
          have HTL : Hid (∀ a', (0 < r.length → a' = ⟨b, off + 5, none⟩) → TsAt W0 (.slice (some a') r.length (c0 - 1)) r) := fun a' h => TsAt.tail HTS.out a' h
          have hAl : Below wr.heap.size wr (wr.alloc (.cells #[.int .i64 tk, .string tx, .string un, .bool wh, .bool fl] 55)) := (Below.refl _ wr).alloc (Nat.le_refl _) _
          have hBA : Below W.heap.size W (wr.alloc (.cells #[.int .i64 tk, .string tx, .string un, .bool wh, .bool fl] 55)) := hB.trans (hAl.mono hB.size)
          have hbl0 := heap_alloc_new wr (.cells #[.int .i64 tk, .string tx, .string un, .bool wh, .bool fl] 55)
          have hsA : (wr.alloc (.cells #[.int .i64 tk, .string tx, .string un, .bool wh, .bool fl] 55)).heap.size = wr.heap.size + 1 := by simp
          have HROW := hid_mk hrow
          clear hrow HTS
          go_wp2_with (go_at_call 117; fail)
          all_goals
            refine (hen _ hBA).mono ?_
            rintro e' w1 ⟨rfl, b1⟩
            have hw1 : Below wr.heap.size wr w1 := hAl.trans (b1.mono hAl.size)
            have hBw : Below W.heap.size W w1 := hB.trans (hw1.mono hB.size)
            have hWw : Below W0.heap.size W0 w1 := hW1.trans (hw1.mono hW1.size)
            have HRW := hid_mk (HROW.out.keep hw1)
            have hx : w1.heap[wr.heap.size]? = some (.cells #[.int .i64 tk, .string tx, .string un, .bool wh, .bool fl] 55 (0, 0)) := (b1.block _ (by omega)).trans hbl0
            have hsz : wr.heap.size < w1.heap.size := (Array.getElem?_eq_some_iff.1 hx).1
            clear q0 q1 q2 q3 q4
            obtain ⟨q0, q1, q2, q3, q4⟩ := tok5c hx
            have HT : Hid (∃ sl, TsAt W0 sl r) := ⟨_, HTL.out ⟨b, off + 5, none⟩ (fun h => rfl)⟩
            first
              | (have hc01 : c0 = 1 := by omega
                 subst hc01
                 have htl : TsAt W0 (.slice (some ⟨b, off, none⟩) r.length 0) r := HTL.out ⟨b, off, none⟩ (fun h => by exfalso; omega)
                 have HTT := hid_mk htl
                 clear htl)
              | (have htl := HTL.out ⟨b, off + 5, none⟩ (fun h => rfl)
                 have HTT := hid_mk htl
                 clear htl)
            clear b1 hen hBA hbl0 hAl hw1 HROW HTL HT hx hW1 hB
            have hbs := hBw.size
            by_cases hen1 : en = true
            · subst hen1
              have HZ : Hid (someZ (g + 1) (⟨tk, tx, un, wh, fl⟩ :: r) c n = ([], r)) := by show _ = _; rw [someZ, if_pos (of_decide_eq_true HQ.out.symm)]
              have HR : Hid (VsAt (fun b => W.heap.size ≤ b) w1 u8 (someZ f ts c n).1 ∧ (someZ f ts c n).2 = r) := by
                show _ ∧ _
                rw [HE.out, HZ.out, List.append_nil]
                exact ⟨HRW.out.vals, rfl⟩
              clear HRW HI HE HZ HQ
              go_wp2
              go_ret2
              exact ⟨_, _, rfl, HR.out.1, by rw [HR.out.2]; exact HTT.out, hBw⟩
            · have hen2 : en = false := by simpa using hen1
              subst hen2
              have HA : Hid (¬ (c ≠ 0 ∧ tk = c)) := of_decide_eq_false HQ.out.symm
              clear hen1 HQ
              have hco := fun w => closeOf_any tk w
              obtain ⟨e, he⟩ : ∃ e, e = closeZ tk := ⟨_, rfl⟩
              rw [← he] at hco
              have HEQ := hid_mk he
              clear he
              go_wp2_with (go_at_call 85; fail)
              refine (hco _).mono ?_
              rintro e' w' ⟨rfl, rfl⟩
              clear hco
              by_cases h0 : e = 0
              · subst h0
                have HNX : Hid (someZ f ts c n = ((ps ++ [((⟨tk, tx, un, wh, fl⟩ : T5), (Value.slice none 0 0), ([] : List V))]).map mkV ++ (someZ g r c n).1, (someZ g r c n).2)) := by
                  show _ = _
                  rw [HE.out, someZ, if_neg HA.out, if_pos HEQ.out.symm, List.map_append, List.append_assoc]
                  rfl
                have hown := HRW.out.1
                clear HI HE HA HEQ
                go_wp2_with (at_builtin; go_must (refine wpList_append_own_at _ rfl _ _ 24 rfl W.heap.size 57 i0 _ 6 72 Tryz.underlying24 hi0 hz0 hz1 hz2 rfl (by decide) _ _ _ rfl (hown.alloc _) ⟨w1.heap.size, 0, none⟩ 1 1 [.int .i64 tk, .string tx, .string un, .bool wh, .bool fl, .slice none 0 0] rfl rfl (news6 w1 _ _ _ _ _ _) (by intro u hu; simp at hu; rcases hu with rfl | rfl | rfl | rfl | rfl | rfl <;> rfl) (by unfold maxLen; omega) (by omega) (by simp; omega) ?_); intro v' w7 hown7 hgrow7 _ hat7)
                go_roundw
                case rel => exact ⟨g, r, _, by omega, by omega, HTT.out, HRW.out.push (t := ⟨tk, tx, un, wh, fl⟩) (VsAt.nil _ _) hown7 hgrow7 hat7 (by simp; omega), (hBw.alloc hbs _).grown hgrow7 (by simp; omega) (fun k hk => (hown.lt k hk).1), HNX.out, by simp; omega⟩
                case measure => simp [sliceLen]
              · have zE : (e == 0) = false := by simpa using h0
                have hrl := some_len g r e (n + 1)
                have HSZ : Hid (someZ f ts c n = if 64 < n + 1 then (ps.map mkV ++ (someZ g (someZ g r e (n + 1)).2 c n).1, (someZ g (someZ g r e (n + 1)).2 c n).2) else (ps.map mkV ++ (V.mk ⟨tk, tx, un, wh, fl⟩ (someZ g r e (n + 1)).1 :: (someZ g (someZ g r e (n + 1)).2 c n).1), (someZ g (someZ g r e (n + 1)).2 c n).2)) := by
                  show _ = _
                  rw [HE.out, someZ, if_neg HA.out, if_neg (by rw [← HEQ.out]; exact h0), ← HEQ.out]
                  by_cases h6 : 64 < n + 1
                  · rw [if_pos h6, if_pos h6]
                  · rw [if_neg h6, if_neg h6]
                have HRS : Hid (runS [closeZ tk] r = (someZ g r e (n + 1)).2) := by
                  show _ = _
                  rw [runS_some g r (by omega) (closeZ tk) (n + 1) [] (by rw [← HEQ.out]; exact h0), runS, ← HEQ.out]
                have HREC : Hid (∀ sl, TsAt W0 sl r → ∀ w', Below W0.heap.size W0 w' → ∀ fv, EndF w' fv e → n + 1 ≤ 64 → Calls Tryz.prog 56 #[sl, .int .i64 (n + 1), fv] w' fun e' w'' => ∃ out rest, e' = .returned (.tuple #[out, rest]) ∧ VsAt (fun b => w'.heap.size ≤ b) w'' out (someZ g r e (n + 1)).1 ∧ TsAt W0 rest (someZ g r e (n + 1)).2 ∧ Below w'.heap.size w' w'') :=
                  fun sl hsl w' hw' fv hfv hn => HI.out g (by omega) r (by omega) W0 sl hsl w' hw' e (n + 1) fv hfv (by omega) hn (by omega)
                have HBH : Hid (Calls Tryz.prog 86 #[_, .agg #[.int .i64 tk, .string tx, .string un, .bool wh, .bool fl]] w1 fun e w' => ∃ rest, e = .returned rest ∧ TsAt W0 rest (runS [closeZ tk] r) ∧ Below w1.heap.size w1 w') := behind_any r W0 w1 _ HTT.out hWw tk tx un wh fl (by omega)
                have HBH2 := HBH.out
                rw [HRS.out] at HBH2
                have HBK := hid_mk HBH2
                clear HBH HBH2
                generalize someZ g r e (n + 1) = Z at *
                obtain ⟨zk, zr⟩ := Z
                have HEQ2 := hid_mk HEQ.out
                clear HI HE HA HEQ HRS
                by_cases h6 : n = 64
                · have HNX : Hid (someZ f ts c n = (ps.map mkV ++ (someZ g zr c n).1, (someZ g zr c n).2)) := by
                    show _ = _
                    have := HSZ.out
                    rwa [if_pos (by omega)] at this
                  clear HSZ HREC
                  subst h6
                  go_wp2_with (go_at_call 86; fail)
                  refine HBK.out.mono ?_
                  rintro e' w2 ⟨rest, rfl, htr, hb2⟩
                  have HTR := hid_mk htr
                  obtain ⟨ra, rc, rfl, _⟩ := htr
                  clear HBK
                  go_wp2
                  go_roundw
                  case rel => exact ⟨g, zr, ps, by omega, by omega, HTR.out, HRW.out.keep hb2, hBw.trans (hb2.mono hbs), HNX.out, by omega⟩
                  case measure => simp [sliceLen]; omega
                · have z6 : (n == 64) = false := by simpa using h6
                  have HNX : Hid (∀ kv, someZ f ts c n = ((ps ++ [((⟨tk, tx, un, wh, fl⟩ : T5), (kv : Value), zk)]).map mkV ++ (someZ g zr c n).1, (someZ g zr c n).2)) := by
                    intro kv
                    have := HSZ.out
                    rw [if_neg (by omega)] at this
                    rw [this, List.map_append, List.append_assoc]
                    rfl
                  clear HSZ HBK
                  have hAv : Below w1.heap.size w1 (w1.alloc (.cells #[.int .i64 tk, .string tx, .string un, .bool wh, .bool fl, .slice none 0 0] 57)) := (Below.refl _ w1).alloc (Nat.le_refl _) _
                  have hbv := heap_alloc_new w1 (.cells #[.int .i64 tk, .string tx, .string un, .bool wh, .bool fl, .slice none 0 0] 57)
                  go_wp2_with (go_at_call 87; fail)
                  refine (closes_any tk tx un wh fl _).mono ?_
                  rintro e' wc ⟨BC, rfl, hBC, hcx, hbc⟩
                  have hsv : (w1.alloc (.cells #[.int .i64 tk, .string tx, .string un, .bool wh, .bool fl, .slice none 0 0] 57)).heap.size = w1.heap.size + 1 := by simp
                  have hxv : wc.heap[w1.heap.size]? = some (.cells #[.int .i64 tk, .string tx, .string un, .bool wh, .bool fl, .slice none 0 0] 57 (0, 0)) := (hbc.block _ (by omega)).trans hbv
                  have hAW : Below w1.heap.size w1 wc := hAv.trans (hbc.mono hAv.size)
                  rw [← HEQ2.out] at hcx
                  have hrec := HREC.out _ HTT.out wc (hWw.trans (hAW.mono hWw.size)) _ (.inr ⟨BC, rfl, h0, hcx⟩) (by omega)
                  have HXV := hid_mk hxv
                  have hvlt : w1.heap.size < wc.heap.size := (Array.getElem?_eq_some_iff.1 hxv).1
                  clear hxv hbv hcx hbc hAv HREC hsv hBC q0 q1 q2 q3 q4 hsz hsA
                  go_wp2_with (go_at_call 56; fail)
                  refine hrec.mono ?_
                  rintro e' wk ⟨kids, rest, rfl, hvk, htr, hbk⟩
                  have x1 : wk.heap[w1.heap.size]? = some (.cells #[.int .i64 tk, .string tx, .string un, .bool wh, .bool fl, .slice none 0 0] 57 (0, 0)) := (hbk.block _ hvlt).trans HXV.out
                  obtain ⟨y0, y1, y2, y3, y4, y5⟩ := tok6 x1
                  have yf := tok6f x1
                  obtain ⟨ka, kc, rfl, _, _⟩ := hvk.slice
                  obtain ⟨D1, D2, D3, D4⟩ := opened2 (P0 := W.heap.size) HRW.out hBw hAW hbk HXV.out (Nat.le_refl _) hvk hbs
                  have HD1 := hid_mk D1
                  have HD2 := hid_mk D2
                  have HD3 := hid_mk D3
                  have HD4 := hid_mk D4
                  have HTR := hid_mk htr
                  obtain ⟨ra, rc, rfl, _⟩ := htr
                  clear hrec x1 hvk hbk hAW HXV D1 D2 D3 D4 HRW hBw hWw
                  go_upto_region 7 with fail
                  generalize wk.setCell ⟨w1.heap.size, 5, none⟩ (.slice ka zk.length kc) = w2 at *
                  clear y0 y1 y2 y3 y4 y5 yf
                  obtain ⟨y0, y1, y2, y3, y4, y5⟩ := tok6 HD3.out
                  have hown := HD1.out.1
                  have hbs2 := HD2.out.size
                  go_wp2_with (at_builtin; go_must (refine wpList_append_own_at _ rfl _ _ 24 rfl W.heap.size 57 i0 _ 6 72 Tryz.underlying24 hi0 hz0 hz1 hz2 rfl (by decide) _ _ _ rfl (hown.alloc _) ⟨w2.heap.size, 0, none⟩ 1 1 [.int .i64 tk, .string tx, .string un, .bool wh, .bool fl, .slice ka zk.length kc] rfl rfl (news6 w2 _ _ _ _ _ _) (by intro u hu; simp at hu; rcases hu with rfl | rfl | rfl | rfl | rfl | rfl <;> rfl) (by unfold maxLen; omega) (by omega) (by simp; omega) ?_); intro v' w7 hown7 hgrow7 _ hat7)
                  go_roundw
                  case rel => exact ⟨g, zr, _, by omega, by omega, HTR.out, HD1.out.push (t := ⟨tk, tx, un, wh, fl⟩) HD4.out hown7 hgrow7 hat7 (by simp; omega), (HD2.out.alloc hbs2 _).grown hgrow7 (by simp; omega) (fun k hk => (hown.lt k hk).1), HNX.out _, by simp; omega⟩
                  case measure => simp [sliceLen]; omega

end Go.Proofs.YtlhdapckenjigaaGreatDoor.Y
namespace Go.Proofs.YtlhdapckenjigaaGreatDoor.Y
open Go.RowKit
open Go.Proofs.YtlhdapckenjigaaGreatDoor.L (T5 V VsAt t5Cells vCells cell_of_heap)
set_option maxRecDepth 100000

/-- Is it among them? -/
def hasZ (ks : List Int) (x : Int) : Bool := ks.contains x
theorem contains_drop (ks : List Int) (x : Int) (i : Nat) (h : i < ks.length) : hasZ (ks.drop i) x = (x == ks.getD i 0 || hasZ (ks.drop (i + 1)) x) := by
  unfold hasZ
  rw [List.drop_eq_getElem_cons h, List.contains_cons]
  congr 2
  simp [List.getD, h]
set_option maxHeartbeats 400000 in
theorem index_any {w : World} {v : Value} {ks : List Int} (hv : RowAt .i64 w v ks) (hk : ks.length ≤ 100000) (x : Int) : Calls Tryz.prog 177 #[v, .int .i64 x] w fun e w' => ∃ i : Int, e = .returned (.int .i64 i) ∧ Hid (decide (0 ≤ i) = hasZ ks x) ∧ Below w.heap.size w w' := by
  obtain ⟨a, cap, rfl, hl, hc⟩ := hv
  go_enter Tryz.func177, Tryz.ntmps177
  go_wp2
  go_loopw [8] (fun a8 wr => ∃ (i : Nat), i ≤ ks.length ∧ a8 = .int .i64 (i : Int) ∧ Hid (hasZ ks x = hasZ (ks.drop i) x) ∧ Below w.heap.size w wr) (fun a8 _ => ks.length + 1 - (intOf a8).toNat)
  case atStart => exact ⟨0, Nat.zero_le _, rfl, rfl, Below.refl _ _⟩
  case round =>
    obtain ⟨i, hi, rfl, hE, hB⟩ := hrel
    by_cases hlt : i < ks.length
    · obtain ⟨b, off, rfl, hcell⟩ := hc (by omega)
      have hq := hcell i hlt
      have hbl := World.block_lt_of_cell? w _ hq
      rw [← hB.cell hbl] at hq
      have hE := hE.out
      rw [contains_drop ks x i hlt] at hE
      generalize ks.getD i 0 = y at *
      have HE := hid_mk hE
      clear hE hc hcell
      by_cases hy : x = y
      · subst hy
        go_wp2
        go_ret
        exact ⟨(i : Int), rfl, by show _ = _; rw [HE.out]; simp, hB⟩
      · have z : (x == y) = false := by simpa using hy
        go_wp2
        go_roundw
        case rel => exact ⟨i + 1, by omega, by go_num, by show _ = _; rw [HE.out, z, Bool.false_or], hB⟩
        case measure => simp [intOf]; omega
    · have hd : ks.drop i = [] := List.drop_eq_nil_of_le (by omega)
      have hE := hE.out
      rw [hd] at hE
      have HE := hid_mk hE
      clear hE hd hc
      go_wp2
      go_ret
      exact ⟨-1, rfl, by show _ = _; rw [HE.out]; rfl, hB⟩
set_option maxHeartbeats 400000 in
theorem has_any {w : World} {v : Value} {ks : List Int} (hv : RowAt .i64 w v ks) (hk : ks.length ≤ 100000) (x : Int) : Calls Tryz.prog 171 #[v, .int .i64 x] w fun e w' => e = .returned (.bool (hasZ ks x)) ∧ Below w.heap.size w w' := by
  have h := index_any hv hk x
  obtain ⟨a, cap, rfl, hl, hc⟩ := hv
  clear hc
  go_enter Tryz.func171, Tryz.ntmps171
  go_wp2_with (go_at_call 177; fail)
  refine h.mono ?_
  rintro e w' ⟨i, rfl, hd, hB⟩
  go_wp2
  go_ret
  exact ⟨by rw [← hd.out]; rfl, hB⟩
set_option maxHeartbeats 400000 in
theorem is_any {w : World} {v : Value} {ks : List Int} (hv : RowAt .i64 w v ks) (hk : ks.length ≤ 100000) (tk : Int) (tx un : ByteArray) (wh fl : Bool) (kid : Value) :
    Calls Tryz.prog 163 #[.agg #[.int .i64 tk, .string tx, .string un, .bool wh, .bool fl, kid], v] w fun e w' => e = .returned (.bool (hasZ ks tk)) ∧ Below w.heap.size w w' := by
  have hal : ∀ o, Below w.heap.size w (w.alloc o) := fun o => (Below.refl _ w).alloc (Nat.le_refl _) o
  have h := fun o => has_any (hv.below (hal o)) hk tk
  obtain ⟨a, cap, rfl, hl, hc⟩ := hv
  clear hc
  go_enter Tryz.func163, Tryz.ntmps163
  go_wp2_with (go_at_call 171; fail)
  refine (h _).mono ?_
  rintro e w' ⟨rfl, hB⟩
  have HB := hid_mk hB
  clear hB
  go_wp2
  go_ret
  exact ⟨rfl, (hal _).trans (HB.out.mono (by simp))⟩
/-- The place of the first value of one of these kinds, or that of the end. -/
def nextZ (ks : List Int) : List V → Nat
  | [] => 0
  | x :: r => if hasZ ks x.tok.k then 0 else nextZ ks r + 1
theorem nextZ_le (ks : List Int) : ∀ l, nextZ ks l ≤ l.length
  | [] => Nat.le_refl _
  | x :: r => by
    rw [nextZ]
    split
    · simp
    · have := nextZ_le ks r
      simp only [List.length_cons]
      omega
end Go.Proofs.YtlhdapckenjigaaGreatDoor.Y
namespace Go.Proofs.YtlhdapckenjigaaGreatDoor.Y
open Go.RowKit
open Go.Proofs.YtlhdapckenjigaaGreatDoor.L (T5 V VsAt t5Cells vCells cell_of_heap)
set_option maxRecDepth 100000

/-- A list of kinds that a call was given one by one. -/
theorem row_lit (w : World) (ks : List Int) (hk : ks.length ≤ 100000) : RowAt .i64 (w.alloc (.cells (ks.map (Value.int .i64)).toArray 3)) (.slice (some ⟨w.heap.size, 0, none⟩) ks.length ks.length) ks := by
  have h := World.ownsRow_lit (base := w.heap.size) (e := 3) (size := 1) w (ks.map (Value.int .i64)).toArray ks.length (Nat.le_refl _) (by unfold maxLen; omega) (by simp)
  exact RowAt.own (by simpa using h)
theorem _root_.Go.Proofs.YtlhdapckenjigaaGreatDoor.L.VsAt.dropA {P : Nat → Prop} {W : World} {b off n cap : Nat} {vs : List V} (h : VsAt P W (.slice (some ⟨b, off, none⟩) n cap) vs) (k : Nat) (hk : k ≤ vs.length) (a' : Addr) (n' c' : Nat) (hn : n' = n - k) (hc : c' = cap - k) (ha : k < vs.length → a' = ⟨b, off + k * 6, none⟩) : VsAt P W (.slice (some a') n' c') (vs.drop k) := by
  subst hn hc
  exact h.drop k hk (some a') (fun h => ⟨b, off, rfl, congrArg some (ha h)⟩)
theorem _root_.Go.Proofs.YtlhdapckenjigaaGreatDoor.L.VsAt.dropO {P : Nat → Prop} {W : World} {b off n cap : Nat} {vs : List V} (h : VsAt P W (.slice (some ⟨b, off, none⟩) n cap) vs) (k : Nat) (hk : k ≤ vs.length) {a' : Option Addr} {n' c' : Nat} (hn : n' = n - k) (hc : c' = cap - k) (ha : k < vs.length → a' = some ⟨b, off + k * 6, none⟩) : VsAt P W (.slice a' n' c') (vs.drop k) := by
  subst hn hc
  exact h.drop k hk a' (fun h => ⟨b, off, rfl, ha h⟩)
/-- Without what is a Space ahead. -/
def spaceV (x : V) : Bool := hasZ [13] x.tok.k
set_option maxHeartbeats 1000000 in
theorem behindSpace_any {P : Nat → Prop} {w : World} {v : Value} {vs : List V} (hv : VsAt P w v vs) (_hn : vs.length ≤ 1954687338211) :
    Calls Tryz.prog 151 #[v] w fun e w' => ∃ out, e = .returned out ∧ VsAt P w' out (vs.dropWhile spaceV) ∧ Below w.heap.size w w' := by
  have his : ∀ w', Below w.heap.size w w' → ∀ tk tx un wh fl kid, Calls Tryz.prog 163 #[.agg #[.int .i64 tk, .string tx, .string un, .bool wh, .bool fl, kid], .slice (some ⟨w'.heap.size, 0, none⟩) 1 1] (w'.alloc (.cells #[.int .i64 13] 3)) fun e w'' => e = .returned (.bool (hasZ [13] tk)) ∧ Below w.heap.size w w'' := by
    intro w' hw tk tx un wh fl kid
    refine (is_any (row_lit w' [13] (by decide)) (by decide) tk tx un wh fl kid).mono ?_
    rintro e w'' ⟨rfl, hB⟩
    have hA : Below w.heap.size w (w'.alloc (.cells ([13].map (Value.int .i64)).toArray 3)) := hw.alloc hw.size _
    exact ⟨rfl, hA.trans (hB.mono hA.size)⟩
  have HV := hid_mk hv
  obtain ⟨a, cap, rfl, hl, hcap⟩ := hv.slice
  clear hv
  go_enter Tryz.func151, Tryz.ntmps151
  go_wp2
  go_loopw [0] (fun a0 wr => ∃ (us : List V), VsAt P w a0 us ∧ us.length ≤ vs.length ∧ Hid (vs.dropWhile spaceV = us.dropWhile spaceV) ∧ Below w.heap.size w wr) (fun a0 _ => sliceLen a0)
  case atStart => exact ⟨vs, HV.out, Nat.le_refl _, (rfl : _ = _), Below.refl _ _⟩
  case round =>
    obtain ⟨us, hus, hul, hE, hB⟩ := hrel
    cases us with
    | nil =>
      obtain ⟨a0, c0, rfl, _, _⟩ := hus.slice
      have HUS := hid_mk (hus.keep hB)
      have HW := hE.out
      rw [List.dropWhile_nil] at HW
      have HW2 := hid_mk HW
      clear hus HW hE his HV
      go_wp2
      all_goals first
        | (go_ret; exact ⟨_, rfl, by rw [HW2.out]; exact HUS.out, hB⟩)
        | trace_state
    | cons x r =>
      obtain ⟨a0, c0, rfl, hl0, hc0⟩ := hus.slice
      have HUS := hid_mk hus
      obtain ⟨_, _, _, hcs⟩ := hus.cells
      obtain ⟨b, off, kv, rfl, hbl, hcc, hkid⟩ := hcs 0 (by simp)
      have hq := fun j y hy => (hB.cell (p := ⟨b, off + 0 * 6 + j, none⟩) hbl).trans (hcc j y hy)
      simp only [Nat.zero_mul, Nat.add_zero, List.getElem_cons_zero] at hq hkid
      obtain ⟨⟨tk, tx, un, wh, fl⟩, xk⟩ := x
      obtain ⟨ka, kc, rfl, _, _⟩ := hkid.slice
      generalize (V.mk ⟨tk, tx, un, wh, fl⟩ xk).kids.length = kn at *
      have q0 : wr.cell? ⟨b, off, none⟩ = some (.int .i64 tk) := hq 0 _ rfl
      have q1 : wr.cell? ⟨b, off + 1, none⟩ = some (.string tx) := hq 1 _ rfl
      have q2 : wr.cell? ⟨b, off + 2, none⟩ = some (.string un) := hq 2 _ rfl
      have q3 : wr.cell? ⟨b, off + 3, none⟩ = some (.bool wh) := hq 3 _ rfl
      have q4 : wr.cell? ⟨b, off + 4, none⟩ = some (.bool fl) := hq 4 _ rfl
      have q5 : wr.cell? ⟨b, off + 5, none⟩ = some (.slice ka kn kc) := hq 5 _ rfl
      have hc2 := his wr hB tk tx un wh fl (.slice ka kn kc)
      have HE := hE.out
      rw [List.dropWhile_cons, show spaceV (V.mk ⟨tk, tx, un, wh, fl⟩ xk) = hasZ [13] tk from rfl] at HE
      have HE2 := hid_mk HE
      rw [List.length_cons] at hul hl0
      generalize hasZ [13] tk = y at *
      have HB := hid_mk hB
      clear hE HE hcs hcc hq hkid his hB hus HV
      simp only [List.length_cons]
      go_wp2_with (go_at_call 163; fail)
      refine hc2.mono ?_
      rintro e w' ⟨rfl, hB2⟩
      clear hc2 q0 q1 q2 q3 q4 q5
      cases y with
      | true =>
        have HR : Hid (vs.dropWhile spaceV = r.dropWhile spaceV) := by
          show _ = _
          rw [HE2.out, if_pos rfl]
        clear HE2
        go_wp2
        all_goals
          go_roundw
          case rel => exact ⟨r, HUS.out.dropO 1 (by simp) (by simp) rfl (fun h => by simp only [List.length_cons] at h; rw [if_neg (by omega)]), by omega, HR.out, hB2⟩
          case measure => simp [sliceLen]
      | false =>
        have HR : Hid (vs.dropWhile spaceV = V.mk ⟨tk, tx, un, wh, fl⟩ xk :: r) := by
          show _ = _
          rw [HE2.out, if_neg (by decide)]
        clear HE2
        go_wp2
        go_ret
        exact ⟨_, rfl, by rw [HR.out]; exact HUS.out.keep hB2, hB2⟩
/-- Without what is a Space behind. -/
def aheadZ (vs : List V) : List V := (vs.reverse.dropWhile spaceV).reverse
theorem aheadZ_nil : aheadZ [] = [] := rfl
theorem aheadZ_snoc (r : List V) (x : V) : aheadZ (r ++ [x]) = if spaceV x then aheadZ r else r ++ [x] := by
  unfold aheadZ
  rw [List.reverse_append, List.reverse_singleton, List.singleton_append, List.dropWhile_cons]
  split
  · rfl
  · simp
theorem aheadZ_le (vs : List V) : (aheadZ vs).length ≤ vs.length := by
  unfold aheadZ
  have := (List.dropWhile_sublist spaceV (l := vs.reverse)).length_le
  simpa using this
set_option maxHeartbeats 1000000 in
theorem aheadOfSpace_any {P : Nat → Prop} {w : World} {v : Value} {vs : List V} (hv : VsAt P w v vs) (_hn : vs.length ≤ 1954687338211) :
    Calls Tryz.prog 150 #[v] w fun e w' => ∃ out, e = .returned out ∧ VsAt P w' out (aheadZ vs) ∧ Below w.heap.size w w' := by
  have his : ∀ w', Below w.heap.size w w' → ∀ tk tx un wh fl kid, Calls Tryz.prog 163 #[.agg #[.int .i64 tk, .string tx, .string un, .bool wh, .bool fl, kid], .slice (some ⟨w'.heap.size, 0, none⟩) 1 1] (w'.alloc (.cells #[.int .i64 13] 3)) fun e w'' => e = .returned (.bool (hasZ [13] tk)) ∧ Below w.heap.size w w'' := by
    intro w' hw tk tx un wh fl kid
    refine (is_any (row_lit w' [13] (by decide)) (by decide) tk tx un wh fl kid).mono ?_
    rintro e w'' ⟨rfl, hB⟩
    have hA : Below w.heap.size w (w'.alloc (.cells ([13].map (Value.int .i64)).toArray 3)) := hw.alloc hw.size _
    exact ⟨rfl, hA.trans (hB.mono hA.size)⟩
  have HV := hid_mk hv
  obtain ⟨a, cap, rfl, hl, hcap⟩ := hv.slice
  clear hv
  go_enter Tryz.func150, Tryz.ntmps150
  go_wp2
  go_loopw [0] (fun a0 wr => ∃ (us : List V), VsAt P w a0 us ∧ us.length ≤ vs.length ∧ Hid (aheadZ vs = aheadZ us) ∧ Below w.heap.size w wr) (fun a0 _ => sliceLen a0)
  case atStart => exact ⟨vs, HV.out, Nat.le_refl _, (rfl : _ = _), Below.refl _ _⟩
  case round =>
    obtain ⟨us, hus, hul, hE, hB⟩ := hrel
    rcases List.eq_nil_or_concat us with rfl | ⟨r, x, rfl⟩
    · obtain ⟨a0, c0, rfl, _, _⟩ := hus.slice
      have HUS := hid_mk (hus.keep hB)
      have HW := hE.out
      rw [aheadZ_nil] at HW
      have HW2 := hid_mk HW
      clear hus HW hE his HV
      go_wp2
      go_ret
      exact ⟨_, rfl, by rw [HW2.out]; exact HUS.out, hB⟩
    · rw [List.concat_eq_append] at hus hul hE
      obtain ⟨a0, c0, rfl, hl0, hc0⟩ := hus.slice
      have HUS := hid_mk hus
      obtain ⟨_, _, _, hcs⟩ := hus.cells
      have hll : (r ++ [x]).length = r.length + 1 := by simp
      obtain ⟨b, off, kv, rfl, hbl, hcc, hkid⟩ := hcs r.length (by omega)
      have hq := fun j y hy => (hB.cell (p := ⟨b, off + r.length * 6 + j, none⟩) hbl).trans (hcc j y hy)
      have hgx : (r ++ [x])[r.length]'(by omega) = x := by simp
      rw [hgx] at hq hkid
      obtain ⟨⟨tk, tx, un, wh, fl⟩, xk⟩ := x
      obtain ⟨ka, kc, rfl, _, _⟩ := hkid.slice
      generalize (V.mk ⟨tk, tx, un, wh, fl⟩ xk).kids.length = kn at *
      have q0 : wr.cell? ⟨b, off + r.length * 6, none⟩ = some (.int .i64 tk) := hq 0 _ rfl
      have q1 : wr.cell? ⟨b, off + r.length * 6 + 1, none⟩ = some (.string tx) := hq 1 _ rfl
      have q2 : wr.cell? ⟨b, off + r.length * 6 + 2, none⟩ = some (.string un) := hq 2 _ rfl
      have q3 : wr.cell? ⟨b, off + r.length * 6 + 3, none⟩ = some (.bool wh) := hq 3 _ rfl
      have q4 : wr.cell? ⟨b, off + r.length * 6 + 4, none⟩ = some (.bool fl) := hq 4 _ rfl
      have q5 : wr.cell? ⟨b, off + r.length * 6 + 5, none⟩ = some (.slice ka kn kc) := hq 5 _ rfl
      have hc2 := his wr hB tk tx un wh fl (.slice ka kn kc)
      have HE := hE.out
      rw [aheadZ_snoc, show spaceV (V.mk ⟨tk, tx, un, wh, fl⟩ xk) = hasZ [13] tk from rfl] at HE
      have HE2 := hid_mk HE
      have HTK : Hid ((r ++ [V.mk ⟨tk, tx, un, wh, fl⟩ xk]).take r.length = r) := by show _ = _; simp
      rw [hll] at hul hl0
      rw [hll]
      generalize hasZ [13] tk = y at *
      clear hE HE hcs hcc hq hkid his hB hus HV hgx
      go_wp2_with (go_at_call 163; fail)
      refine hc2.mono ?_
      rintro e w' ⟨rfl, hB2⟩
      clear hc2 q0 q1 q2 q3 q4 q5
      cases y with
      | true =>
        have HR : Hid (aheadZ vs = aheadZ r) := by
          show _ = _
          rw [HE2.out, if_pos rfl]
        have HT := HUS.out.take r.length (by omega)
        rw [HTK.out] at HT
        have HT2 := hid_mk HT
        clear HE2 HT
        go_wp2
        go_roundw
        case rel => exact ⟨r, HT2.out, by omega, HR.out, hB2⟩
        case measure => simp [sliceLen]
      | false =>
        have HR : Hid (aheadZ vs = r ++ [V.mk ⟨tk, tx, un, wh, fl⟩ xk]) := by
          show _ = _
          rw [HE2.out, if_neg (by decide)]
        have HU := HUS.out
        rw [hll] at HU
        have HU2 := hid_mk HU
        clear HE2 HU
        go_wp2
        go_ret
        exact ⟨_, rfl, by rw [HR.out]; exact HU2.out.keep hB2, hB2⟩
set_option maxHeartbeats 1000000 in
theorem trimmed_any {P : Nat → Prop} {w : World} {v : Value} {vs : List V} (hv : VsAt P w v vs) (hn : vs.length ≤ 1954687338211) :
    Calls Tryz.prog 135 #[v] w fun e w' => ∃ out, e = .returned out ∧ VsAt P w' out (aheadZ (vs.dropWhile spaceV)) ∧ Below w.heap.size w w' := by
  have h1 := behindSpace_any hv hn
  have hle : (vs.dropWhile spaceV).length ≤ vs.length := (List.dropWhile_sublist spaceV (l := vs)).length_le
  obtain ⟨a, cap, rfl, hl, hcap⟩ := hv.slice
  clear hv
  go_enter Tryz.func135, Tryz.ntmps135
  go_wp2_with (go_at_call 151; fail)
  refine h1.mono ?_
  rintro e w1 ⟨o1, rfl, ho1, hb1⟩
  have h2 := aheadOfSpace_any ho1 (by omega)
  obtain ⟨a1, c1, rfl, _, _⟩ := ho1.slice
  clear ho1 h1
  go_wp2_with (go_at_call 150; fail)
  refine h2.mono ?_
  rintro e w2 ⟨o2, rfl, ho2, hb2⟩
  obtain ⟨a2, c2, rfl, _, _⟩ := ho2.slice
  have HO := hid_mk ho2
  clear ho2 h2
  go_wp2
  go_ret
  exact ⟨_, rfl, HO.out, hb1.trans (hb2.mono hb1.size)⟩

end Go.Proofs.YtlhdapckenjigaaGreatDoor.Y
namespace Go.Proofs.YtlhdapckenjigaaGreatDoor.Y
open Go.RowKit
open Go.Proofs.YtlhdapckenjigaaGreatDoor.L (T5 V VsAt t5Cells vCells cell_of_heap)
set_option maxRecDepth 100000

/-- A row under way in block g: the first i values stand, what is within them lies in other new blocks. -/
def Part (B0 : Nat) (w : World) (g i : Nat) (vs : List V) : Prop :=
  B0 ≤ g ∧ g < w.heap.size ∧ w.there g 0 (vs.length * 6) ∧ ∃ kv : Nat → Value, ∀ j (h : j < vs.length), j < i → w.rangeAt g (j * 6) (vCells (vs[j]'h).tok (kv j)) ∧ VsAt (fun b => B0 ≤ b ∧ b ≠ g) w (kv j) (vs[j]'h).kids
theorem Part.keep {B0 : Nat} {w w' : World} {g i : Nat} {vs : List V} (h : Part B0 w g i vs) (hb : Below w.heap.size w w') : Part B0 w' g i vs := by
  obtain ⟨h1, h2, h3, kv, h4⟩ := h
  refine ⟨h1, Nat.lt_of_lt_of_le h2 hb.size, fun j hj => ?_, kv, fun j hj hi => ⟨fun k v hv => ?_, (h4 j hj hi).2.keep hb⟩⟩
  · rw [hb.cell (p := ⟨g, 0 + j, none⟩) h2, hb.frozen (p := ⟨g, 0 + j, none⟩) h2]
    exact h3 j hj
  · rw [hb.cell (p := ⟨g, j * 6 + k, none⟩) h2]
    exact (h4 j hj hi).1 k v hv
theorem Part.start {w w' : World} {vs : List V} {xs : List Value} (hown : w'.ownsRow w.heap.size 57 6 (.slice (some ⟨w.heap.size, 0, none⟩) vs.length vs.length) vs.length xs) : Part w.heap.size w' w.heap.size 0 vs := by
  refine ⟨Nat.le_refl _, (hown.lt _ rfl).2, fun j hj => ?_, fun _ => .slice none 0 0, fun j _ h => by omega⟩
  rw [Nat.zero_add]
  refine ⟨?_, hown.frozenAt j⟩
  rw [hown.cellAt j hj]
  have := hown.1
  simp [this, hj]
theorem size_setCellsV (b : Nat) : ∀ (vs : List Value) (o : Nat) (w : World), (w.setCells b o vs).heap.size = w.heap.size
  | [], _, _ => rfl
  | v :: r, o, w => (size_setCellsV b r (o + 1) _).trans (by simp)
theorem heap_setCellsV (g : Nat) : ∀ (vs : List Value) (o : Nat) (w : World) (b : Nat), b ≠ g → (w.setCells g o vs).heap[b]? = w.heap[b]?
  | [], _, _, _, _ => rfl
  | v :: r, o, w, b, h => (heap_setCellsV g r (o + 1) _ b h).trans (Below.heap_setCell w ⟨g, o, none⟩ v b h)
theorem Part.step {B0 : Nat} {w : World} {g i : Nat} {vs : List V} (h : Part B0 w g i vs) (hi : i < vs.length) {kid : Value} (hk : VsAt (fun b => B0 ≤ b ∧ b ≠ g) w kid (vs[i]'hi).kids) : Part B0 (w.setCells g (i * 6) (vCells (vs[i]'hi).tok kid)) g (i + 1) vs := by
  obtain ⟨h1, h2, h3, kv, h4⟩ := h
  have hs : (w.setCells g (i * 6) (vCells (vs[i]'hi).tok kid)).heap.size = w.heap.size := size_setCellsV ..
  have hoth : ∀ b, B0 ≤ b ∧ b ≠ g → b < w.heap.size → (w.setCells g (i * 6) (vCells (vs[i]'hi).tok kid)).heap[b]? = w.heap[b]? := fun b hb hlt => heap_setCellsV g _ (i * 6) w b hb.2
  refine ⟨h1, by omega, World.there_setCells h3 _ _ _, fun j => if j = i then kid else kv j, fun j hj hlt => ?_⟩
  by_cases e : j = i
  · subst e
    simp only [if_true]
    refine ⟨World.rangeAt_setCells_same w g (j * 6) _ (fun k hk6 => ?_), hk.stay (by omega) hoth⟩
    have hk6' : k < 6 := by simpa [vCells] using hk6
    have := h3 (j * 6 + k) (by omega)
    rwa [Nat.zero_add] at this
  · simp only [if_neg e]
    obtain ⟨r1, r2⟩ := h4 j hj (by omega)
    refine ⟨World.rangeAt_setCells_apart r1 g (i * 6) _ (.inr (.inl ?_)), r2.stay (by omega) hoth⟩
    simp [vCells]
    omega
theorem Part.done {B0 : Nat} {w : World} {g : Nat} {vs : List V} (h : Part B0 w g vs.length vs) (hm : vs.length ≤ 9223372036854775807) : VsAt (fun b => B0 ≤ b) w (.slice (some ⟨g, 0, none⟩) vs.length vs.length) vs := by
  obtain ⟨h1, h2, h3, kv, h4⟩ := h
  refine .mk _ _ vs g 0 kv (Nat.le_refl _) hm (fun _ => ⟨rfl, h2, h1⟩) (fun i hi j y hy => ?_) (fun i hi => (h4 i hi hi).2.wider (fun b hb _ => hb.1))
  rw [Nat.zero_add]
  exact (h4 i hi hi).1 j y hy

/-- Nowhere too many. -/
inductive V.most : List V → Prop
  | mk (vs : List V) (h : vs.length ≤ 1954687338211) (hk : ∀ x ∈ vs, V.most x.kids) : V.most vs
theorem V.most.len {vs : List V} (h : V.most vs) : vs.length ≤ 1954687338211 := by cases h; assumption
theorem V.most.kid {vs : List V} (h : V.most vs) {x : V} (hx : x ∈ vs) : V.most x.kids := by
  cases h with
  | mk _ _ hk => exact hk x hx
set_option maxHeartbeats 4000000 in
theorem own_any {P : Nat → Prop} {W : World} {v : Value} {vs : List V} (h : VsAt P W v vs) : ∀ w, Below W.heap.size W w → V.most vs → Calls Tryz.prog 134 #[v] w fun e w' => ∃ out, e = .returned out ∧ VsAt (fun b => w.heap.size ≤ b) w' out vs ∧ Below w.heap.size w w' := by
  obtain ⟨i0, hi0, hz0, hz1, hz2⟩ := info_parts Tryz.info57
  induction h with
  | mk a cap vs b off kv h1 h2 ha hc hr ih =>
    intro w hw hm
    have hn := hm.len
    have HM := hid_mk hm
    have HA := hid_mk ha
    have HC := hid_mk hc
    have HR := hid_mk hr
    have HI := hid_mk ih
    have HW := hid_mk hw
    clear ha hc hr ih hw hm
    by_cases h0 : vs.length = 0
    · have hvs : vs = [] := List.length_eq_zero_iff.1 h0
      clear h0
      subst hvs
      go_enter Tryz.func134, Tryz.ntmps134
      go_wp2
      go_ret
      exact ⟨_, rfl, VsAt.nil _ _, Below.refl _ _⟩
    · have hpos : 0 < vs.length := by omega
      have hzz : ((vs.length : Int) == 0) = false := beq_eq_false_iff_ne.2 (by omega)
      obtain ⟨w5, hr5, hown5, hgr5⟩ := run_make_full (P := Tryz.prog) w w.heap.size 24 57 i0 _ 6 Tryz.underlying24 hi0 hz0 hz1 .i64 .i64 vs.length (by rw [hz2]; omega) (by unfold maxLen; omega) (Nat.le_refl _)
      have HP : Hid (Part w.heap.size w5 w.heap.size 0 vs) := Part.start hown5
      have HB : Hid (Below w.heap.size w w5) := (Below.refl _ w).grown hgr5 (Nat.le_refl _) (fun k e => by cases e)
      obtain ⟨ea, hbl, _⟩ := HA.out hpos
      subst ea
      clear hown5 hgr5 HA
      go_enter Tryz.func134, Tryz.ntmps134
      go_wp2
      clear hr5
      go_loopw [14] (fun a14 wr => ∃ (i : Nat), i ≤ vs.length ∧ a14 = .int .i64 (i : Int) ∧ Part w.heap.size wr w.heap.size i vs ∧ Below w.heap.size w wr) (fun a14 _ => vs.length + 1 - (intOf a14).toNat)
      case atStart => exact ⟨0, Nat.zero_le _, rfl, HP.out, HB.out⟩
      case round =>
        obtain ⟨i, hi, rfl, hP, hB⟩ := hrel
        clear HP HB
        by_cases hlt : i < vs.length
        · have hWB : Below W.heap.size W wr := HW.out.trans (hB.mono HW.out.size)
          have hq := fun j y hy => (hWB.cell (p := ⟨b, off + i * 6 + j, none⟩) hbl).trans (HC.out i hlt j y hy)
          obtain ⟨ka, kc, ek, _, hkm⟩ := (HR.out i hlt).slice
          have hrec := fun w' (hw' : Below W.heap.size W w') => HI.out i hlt w' hw' (HM.out.kid (List.getElem_mem hlt))
          have hst := fun w' (h' : Part w.heap.size w' w.heap.size i vs) kid hk => h'.step (kid := kid) hlt hk
          have hbl2 : b < wr.heap.size := Nat.lt_of_lt_of_le hbl hWB.size
          rw [ek] at hrec hq
          generalize (vs[i]'hlt).tok = t at *
          generalize (vs[i]'hlt).kids = ks at *
          obtain ⟨tk, tx, un, wh, fl⟩ := t
          have q0 : wr.cell? ⟨b, off + i * 6, none⟩ = some (.int .i64 tk) := hq 0 _ rfl
          have q1 : wr.cell? ⟨b, off + i * 6 + 1, none⟩ = some (.string tx) := hq 1 _ rfl
          have q2 : wr.cell? ⟨b, off + i * 6 + 2, none⟩ = some (.string un) := hq 2 _ rfl
          have q3 : wr.cell? ⟨b, off + i * 6 + 3, none⟩ = some (.bool wh) := hq 3 _ rfl
          have q4 : wr.cell? ⟨b, off + i * 6 + 4, none⟩ = some (.bool fl) := hq 4 _ rfl
          have q5 : wr.cell? ⟨b, off + i * 6 + 5, none⟩ = some (.slice ka ks.length kc) := hq 5 _ rfl
          have hbl0 := heap_alloc_new wr (.cells #[.int .i64 tk, .string tx, .string un, .bool wh, .bool fl, .slice ka ks.length kc] 57)
          have hAl : Below wr.heap.size wr (wr.alloc (.cells #[.int .i64 tk, .string tx, .string un, .bool wh, .bool fl, .slice ka ks.length kc] 57)) := (Below.refl _ wr).alloc (Nat.le_refl _) _
          have HREC := hid_mk hrec
          have HST := hid_mk hst
          have HPB := hid_mk (And.intro hP (And.intro hB hWB))
          clear hq hrec hst ek hP hWB HC HR HI HM hB
          go_upto_region 7 with fail
          have hsA : (wr.alloc (.cells #[.int .i64 tk, .string tx, .string un, .bool wh, .bool fl, .slice ka ks.length kc] 57)).heap.size = wr.heap.size + 1 := by simp
          generalize wr.alloc (.cells #[.int .i64 tk, .string tx, .string un, .bool wh, .bool fl, .slice ka ks.length kc] 57) = WA at *
          have hgl := HPB.out.1.2.1
          have HPA : Hid (∀ w', Below WA.heap.size WA w' → Part w.heap.size w' w.heap.size i vs) := fun w' hw' => HPB.out.1.keep (hAl.trans (hw'.mono hAl.size))
          have HBA : Hid (∀ w', Below WA.heap.size WA w' → Below w.heap.size w w') := fun w' hw' => HPB.out.2.1.trans ((hAl.trans (hw'.mono hAl.size)).mono HPB.out.2.1.size)
          have HFA : Hid (∀ w', Below WA.heap.size WA w' → w'.heap[wr.heap.size]? = some (.cells #[.int .i64 tk, .string tx, .string un, .bool wh, .bool fl, .slice ka ks.length kc] 57 (0, 0))) := fun w' hw' => (hw'.block _ (by omega)).trans hbl0
          have HF1 : Hid (∀ w', Below WA.heap.size WA w' → w'.cell? ⟨wr.heap.size, 0, none⟩ = some (.int .i64 tk) ∧ w'.cell? ⟨wr.heap.size, 1, none⟩ = some (.string tx) ∧ w'.cell? ⟨wr.heap.size, 2, none⟩ = some (.string un) ∧ w'.cell? ⟨wr.heap.size, 3, none⟩ = some (.bool wh) ∧ w'.cell? ⟨wr.heap.size, 4, none⟩ = some (.bool fl) ∧ w'.cell? ⟨wr.heap.size, 5, none⟩ = some (.slice ka ks.length kc)) := fun w' hw' => tok6 (HFA.out w' hw')
          have HF2 : Hid (∀ w' ao co, Below WA.heap.size WA w' → ((((((w'.setCell ⟨w.heap.size, i * 6, none⟩ (.int .i64 tk)).setCell ⟨w.heap.size, i * 6 + 1, none⟩ (.string tx)).setCell ⟨w.heap.size, i * 6 + 2, none⟩ (.string un)).setCell ⟨w.heap.size, i * 6 + 3, none⟩ (.bool wh)).setCell ⟨w.heap.size, i * 6 + 4, none⟩ (.bool fl)).setCell ⟨w.heap.size, i * 6 + 5, none⟩ (.slice ao ks.length co)).cell? ⟨wr.heap.size, 0, none⟩ = some (.int .i64 tk) ∧ ((((((w'.setCell ⟨w.heap.size, i * 6, none⟩ (.int .i64 tk)).setCell ⟨w.heap.size, i * 6 + 1, none⟩ (.string tx)).setCell ⟨w.heap.size, i * 6 + 2, none⟩ (.string un)).setCell ⟨w.heap.size, i * 6 + 3, none⟩ (.bool wh)).setCell ⟨w.heap.size, i * 6 + 4, none⟩ (.bool fl)).setCell ⟨w.heap.size, i * 6 + 5, none⟩ (.slice ao ks.length co)).cell? ⟨wr.heap.size, 1, none⟩ = some (.string tx) ∧ ((((((w'.setCell ⟨w.heap.size, i * 6, none⟩ (.int .i64 tk)).setCell ⟨w.heap.size, i * 6 + 1, none⟩ (.string tx)).setCell ⟨w.heap.size, i * 6 + 2, none⟩ (.string un)).setCell ⟨w.heap.size, i * 6 + 3, none⟩ (.bool wh)).setCell ⟨w.heap.size, i * 6 + 4, none⟩ (.bool fl)).setCell ⟨w.heap.size, i * 6 + 5, none⟩ (.slice ao ks.length co)).cell? ⟨wr.heap.size, 2, none⟩ = some (.string un) ∧ ((((((w'.setCell ⟨w.heap.size, i * 6, none⟩ (.int .i64 tk)).setCell ⟨w.heap.size, i * 6 + 1, none⟩ (.string tx)).setCell ⟨w.heap.size, i * 6 + 2, none⟩ (.string un)).setCell ⟨w.heap.size, i * 6 + 3, none⟩ (.bool wh)).setCell ⟨w.heap.size, i * 6 + 4, none⟩ (.bool fl)).setCell ⟨w.heap.size, i * 6 + 5, none⟩ (.slice ao ks.length co)).cell? ⟨wr.heap.size, 3, none⟩ = some (.bool wh) ∧ ((((((w'.setCell ⟨w.heap.size, i * 6, none⟩ (.int .i64 tk)).setCell ⟨w.heap.size, i * 6 + 1, none⟩ (.string tx)).setCell ⟨w.heap.size, i * 6 + 2, none⟩ (.string un)).setCell ⟨w.heap.size, i * 6 + 3, none⟩ (.bool wh)).setCell ⟨w.heap.size, i * 6 + 4, none⟩ (.bool fl)).setCell ⟨w.heap.size, i * 6 + 5, none⟩ (.slice ao ks.length co)).cell? ⟨wr.heap.size, 4, none⟩ = some (.bool fl) ∧ ((((((w'.setCell ⟨w.heap.size, i * 6, none⟩ (.int .i64 tk)).setCell ⟨w.heap.size, i * 6 + 1, none⟩ (.string tx)).setCell ⟨w.heap.size, i * 6 + 2, none⟩ (.string un)).setCell ⟨w.heap.size, i * 6 + 3, none⟩ (.bool wh)).setCell ⟨w.heap.size, i * 6 + 4, none⟩ (.bool fl)).setCell ⟨w.heap.size, i * 6 + 5, none⟩ (.slice ao ks.length co)).cell? ⟨wr.heap.size, 5, none⟩ = some (.slice ka ks.length kc)) := fun w' ao co hw' => tok6 ((heap_setCellsV w.heap.size [.int .i64 tk, .string tx, .string un, .bool wh, .bool fl, .slice ao ks.length co] (i * 6) w' wr.heap.size (by omega)).trans (HFA.out w' hw'))
          have HTH : Hid (∀ w', Below WA.heap.size WA w' → w'.there w.heap.size (i * 6) 6) := fun w' hw' j hj => by
            have := (HPA.out w' hw').2.2.1 (i * 6 + j) (by omega)
            rwa [Nat.zero_add] at this
          have HCL : Hid (∀ w', Below WA.heap.size WA w' → Calls Tryz.prog 134 #[.slice ka ks.length kc] w' fun e w'' => ∃ ao co, e = .returned (.slice ao ks.length co) ∧ VsAt (fun b => WA.heap.size ≤ b) w'' (.slice ao ks.length co) ks ∧ Below WA.heap.size WA w'' ∧ (∃ c, w''.cell? ⟨w.heap.size, i * 6, none⟩ = some c) ∧ w''.frozen? ⟨w.heap.size, i * 6, none⟩ = false ∧ (∃ c, w''.cell? ⟨w.heap.size, i * 6 + 1, none⟩ = some c) ∧ w''.frozen? ⟨w.heap.size, i * 6 + 1, none⟩ = false ∧ (∃ c, w''.cell? ⟨w.heap.size, i * 6 + 2, none⟩ = some c) ∧ w''.frozen? ⟨w.heap.size, i * 6 + 2, none⟩ = false ∧ (∃ c, w''.cell? ⟨w.heap.size, i * 6 + 3, none⟩ = some c) ∧ w''.frozen? ⟨w.heap.size, i * 6 + 3, none⟩ = false ∧ (∃ c, w''.cell? ⟨w.heap.size, i * 6 + 4, none⟩ = some c) ∧ w''.frozen? ⟨w.heap.size, i * 6 + 4, none⟩ = false ∧ (∃ c, w''.cell? ⟨w.heap.size, i * 6 + 5, none⟩ = some c) ∧ w''.frozen? ⟨w.heap.size, i * 6 + 5, none⟩ = false) := fun w' hw' =>
            (HREC.out w' (HPB.out.2.2.trans ((hAl.trans (hw'.mono hAl.size)).mono HPB.out.2.2.size))).mono fun e w'' ⟨out, he, hv, hb⟩ => by
              obtain ⟨ao, co, rfl, _, _⟩ := hv.slice
              have h6 := hw'.trans (hb.mono hw'.size)
              have hth := fun j hj => HTH.out w'' h6 j hj
              have hp := fun j hj => Option.isSome_iff_exists.1 (hth j hj).1
              exact ⟨ao, co, he, hv.wider (fun b hb' _ => Nat.le_trans hw'.size hb'), h6, hp 0 (by omega), (hth 0 (by omega)).2, hp 1 (by omega), (hth 1 (by omega)).2, hp 2 (by omega), (hth 2 (by omega)).2, hp 3 (by omega), (hth 3 (by omega)).2, hp 4 (by omega), (hth 4 (by omega)).2, hp 5 (by omega), (hth 5 (by omega)).2⟩
          have HPS : Hid (∀ w2 out, Below WA.heap.size WA w2 → VsAt (fun b => WA.heap.size ≤ b) w2 out ks → Part w.heap.size (w2.setCells w.heap.size (i * 6) [.int .i64 tk, .string tx, .string un, .bool wh, .bool fl, out]) w.heap.size (i + 1) vs ∧ Below w.heap.size w (w2.setCells w.heap.size (i * 6) [.int .i64 tk, .string tx, .string un, .bool wh, .bool fl, out])) := fun w2 out hw2 hv =>
            ⟨HST.out w2 (HPA.out w2 hw2) out (hv.wider (fun b hb _ => ⟨by omega, by omega⟩)), below_setCells (Nat.le_refl _) _ _ _ (HBA.out w2 hw2)⟩
          have gd : Below WA.heap.size WA WA.drew := below_drewN5 _ WA 1
          have hs6 : (Tryz.prog.info? 57).map (·.size) = some 6 := by rw [hi0, Option.map_some, hz1]
          clear HREC HST HPB hAl hbl0 HPA HBA HFA HW q0 q1 q2 q3 q4 q5 hi0 hz0 hz1 hz2
          go_region_held3 (fun w' => w'.cell? ⟨wr.heap.size, 0, none⟩ = some (.int .i64 tk) ∧ w'.cell? ⟨wr.heap.size, 1, none⟩ = some (.string tx) ∧ w'.cell? ⟨wr.heap.size, 2, none⟩ = some (.string un) ∧ w'.cell? ⟨wr.heap.size, 3, none⟩ = some (.bool wh) ∧ w'.cell? ⟨wr.heap.size, 4, none⟩ = some (.bool fl) ∧ w'.cell? ⟨wr.heap.size, 5, none⟩ = some (.slice ka ks.length kc)) (first | with_reducible exact HF1.out _ gd | with_reducible exact HF1.out _ g2 | with_reducible exact HF2.out w2 ao co g2 | exact HF2.out w2 ao co g2) (first
            | (go_at_call 134; refine (HCL.out _ ?_).mono ?_; assumption; rintro e w2 ⟨ao, co, rfl, hv2, g2, ⟨c0, e0⟩, f0, ⟨c1, e1⟩, f1, ⟨c2, e2⟩, f2, ⟨c3, e3⟩, f3, ⟨c4, e4⟩, f4, ⟨c5, e5⟩, f5⟩))
          all_goals
            have HPF := HPS.out w2 (.slice ao ks.length co) g2 hv2
            have HPG := hid_mk HPF
            clear HPF HPS HCL HF1 HF2 HTH hv2 e0 e1 e2 e3 e4 e5 f0 f1 f2 f3 f4 f5
            go_wp2
            go_roundw
            case rel => exact ⟨i + 1, by omega, by go_num, HPG.out.1, HPG.out.2⟩
            case measure => simp [intOf]; omega
        · obtain rfl : i = vs.length := by omega
          have HD := hid_mk (hP.done (by omega))
          clear hP HC HR HI HM HW
          go_wp2
          go_ret
          exact ⟨_, rfl, HD.out, hB⟩

end Go.Proofs.YtlhdapckenjigaaGreatDoor.Y
namespace Go.Proofs.YtlhdapckenjigaaGreatDoor.Y
open Go.RowKit
open Go.Proofs.YtlhdapckenjigaaGreatDoor.L (T5 V VsAt t5Cells vCells cell_of_heap)
set_option maxRecDepth 100000

/-- Without space at the ends. -/
def trimZ (vs : List V) : List V := aheadZ (vs.dropWhile spaceV)
theorem drop_id {vs : List V} (h : ∀ x r, vs = x :: r → spaceV x = false) : vs.dropWhile spaceV = vs := by
  cases vs with
  | nil => rfl
  | cons x r => rw [List.dropWhile_cons, h x r rfl]; rfl
theorem ahead_id {vs : List V} (h : ∀ x r, vs = r ++ [x] → spaceV x = false) : aheadZ vs = vs := by
  rcases List.eq_nil_or_concat vs with rfl | ⟨r, x, rfl⟩
  · rfl
  · rw [List.concat_eq_append] at h ⊢
    rw [aheadZ_snoc, h x r rfl]; rfl
theorem drop_head (vs : List V) : ∀ x r, vs.dropWhile spaceV = x :: r → spaceV x = false := by
  induction vs with
  | nil => intro x r h; simp at h
  | cons y t ih =>
    intro x r h
    rw [List.dropWhile_cons] at h
    split at h
    · exact ih x r h
    · rename_i hy
      cases h
      simpa using hy
theorem ahead_last (vs : List V) : ∀ x r, aheadZ vs = r ++ [x] → spaceV x = false := by
  intro x r h
  unfold aheadZ at h
  have h2 := congrArg List.reverse h
  rw [List.reverse_reverse, List.reverse_append, List.reverse_singleton, List.singleton_append] at h2
  exact drop_head _ x r.reverse h2
theorem ahead_pre (vs : List V) : ∃ t, vs = aheadZ vs ++ t := by
  refine ⟨(vs.reverse.takeWhile spaceV).reverse, ?_⟩
  unfold aheadZ
  rw [← List.reverse_append, List.takeWhile_append_dropWhile, List.reverse_reverse]
theorem trim_last (vs : List V) : ∀ x r, trimZ vs = r ++ [x] → spaceV x = false := ahead_last _
theorem trim_head (vs : List V) : ∀ x r, trimZ vs = x :: r → spaceV x = false := by
  intro x r h
  obtain ⟨t, ht⟩ := ahead_pre (vs.dropWhile spaceV)
  unfold trimZ at h
  rw [h, List.cons_append] at ht
  exact drop_head vs x _ ht
theorem trim_id (vs : List V) : trimZ (trimZ vs) = trimZ vs := by
  show aheadZ ((trimZ vs).dropWhile spaceV) = trimZ vs
  rw [drop_id (trim_head vs), ahead_id (trim_last vs)]
theorem trim_sub (vs : List V) : ∀ y ∈ trimZ vs, y ∈ vs := by
  intro y hy
  unfold trimZ aheadZ at hy
  exact (List.dropWhile_sublist spaceV).subset (List.mem_reverse.1 ((List.dropWhile_sublist spaceV).subset (List.mem_reverse.1 hy)))
theorem trim_len (vs : List V) : (trimZ vs).length ≤ vs.length := Nat.le_trans (aheadZ_le _) (List.dropWhile_sublist spaceV).length_le
theorem trim_most {vs : List V} (h : V.most vs) : V.most (trimZ vs) := .mk _ (Nat.le_trans (trim_len vs) h.len) (fun y hy => h.kid (trim_sub vs y hy))

set_option maxHeartbeats 400000 in
theorem ptrim_any {P : Nat → Prop} {W : World} {v : Value} {vs : List V} (hv : VsAt P W v vs) (hm : V.most vs) :
    Calls Tryz.prog 107 #[v] W fun e w' => ∃ out, e = .returned out ∧ VsAt (fun b => W.heap.size ≤ b) w' out (trimZ vs) ∧ Below W.heap.size W w' := by
  have h42 := trimmed_any hv hm.len
  have hm2 := trim_most hm
  unfold trimZ at hm2 ⊢
  obtain ⟨a, cap, rfl, _, _⟩ := hv.slice
  generalize aheadZ (vs.dropWhile spaceV) = tv at *
  go_enter Tryz.func107, Tryz.ntmps107
  go_wp2_with (go_at_call 135; fail)
  refine h42.mono ?_
  rintro e w1 ⟨o1, rfl, ho1, hb1⟩
  have h35 := own_any ho1 w1 (Below.refl _ _) hm2
  have HB1 := hid_mk hb1
  obtain ⟨a1, c1, rfl, _, _⟩ := ho1.slice
  clear h42 ho1 hb1
  go_wp2_with (go_at_call 134; fail)
  refine h35.mono ?_
  rintro e w2 ⟨o2, rfl, ho2, hb2⟩
  have HB2 : Hid (Below W.heap.size W w2) := HB1.out.trans (hb2.mono HB1.out.size)
  have HO2 : Hid (VsAt (fun b => W.heap.size ≤ b) w2 o2 tv) := ho2.wider (fun b hb _ => Nat.le_trans HB1.out.size hb)
  obtain ⟨a2, c2, rfl, _, _⟩ := ho2.slice
  clear h35 ho2 hb2
  go_wp2
  go_ret
  exact ⟨_, rfl, HO2.out, HB2.out⟩

end Go.Proofs.YtlhdapckenjigaaGreatDoor.Y
namespace Go.Proofs.YtlhdapckenjigaaGreatDoor.Y
open Go.RowKit
open Go.Proofs.YtlhdapckenjigaaGreatDoor.L (T5 V VsAt t5Cells vCells cell_of_heap)
set_option maxRecDepth 100000

/-- The values of tokens. -/
def valsZ (ts : List T5) : List V := (someZ ts.length ts 0 0).1
set_option maxHeartbeats 400000 in
theorem values_any {W : World} {v : Value} {ts : List T5} (hv : TsAt W v ts) (hn : ts.length ≤ 100000) :
    Calls Tryz.prog 38 #[v] W fun e w' => ∃ out, e = .returned out ∧ VsAt (fun b => W.heap.size ≤ b) w' out (valsZ ts) ∧ Below W.heap.size W w' := by
  have hr := read_any ts.length ts (Nat.le_refl _) W v hv W (Below.refl _ _) 0 0 (.func (.func 57) #[] #[]) (.inl ⟨rfl, rfl⟩) (by omega) (by omega) hn
  have HZ : Hid ((someZ ts.length ts 0 0).1 = valsZ ts) := (rfl : _ = _)
  generalize someZ ts.length ts 0 0 = Z at *
  obtain ⟨a, cap, rfl, hl, hcap, _⟩ := hv
  obtain ⟨zk, zr⟩ := Z
  go_enter Tryz.func38, Tryz.ntmps38
  go_wp2_with (go_at_call 56; fail)
  refine hr.mono ?_
  rintro e w1 ⟨out, rest, rfl, ho, ht, hb⟩
  have HO := hid_mk ho
  obtain ⟨oa, oc, rfl, _, _⟩ := ho.slice
  obtain ⟨ra, rc, rfl, _⟩ := ht
  clear ho hr
  go_wp2
  go_ret
  exact ⟨_, rfl, by rw [← HZ.out]; exact HO.out, hb⟩
end Go.Proofs.YtlhdapckenjigaaGreatDoor.Y
