/- Trees of values, and the slices that hold them. Selectors as trees, and the slices that hold them. How specific: the small functions. How specific selectors are, plainly. -/
import Derived.Test.YtbeolmofnmnknaaGreatDoorRows
import Derived.WalkKit
import Derived.WalkLawsBesides
import Derived.IntWalk
import Derived.Deep.MidRow
import Derived.BigQuiet
import Derived.Deep.QuietTactic
import Derived.Below
import Derived.Deep.WholeRow
import Derived.Deep.DeepCutAuto
import Derived.Deep.RegionHeld3
import Derived.Handy
namespace Go.Proofs.YtbeolmofnmnknaaGreatDoor.L
open Go.RowKit
set_option maxRecDepth 100000

/-- A fact that the walk does not look into. -/
def Hid (p : Prop) : Prop := p
theorem hid_mk {p : Prop} (h : p) : Hid p := h
theorem Hid.out {p : Prop} (h : Hid p) : p := h
theorem cellAt {w : World} {b : Nat} {cs : Array Value} {t : TypeId} {fr : Nat × Nat} (h : w.heap[b]? = some (.cells cs t fr)) (i : Nat) : w.cell? ⟨b, i, none⟩ = cs[i]? := by
  simp [World.cell?, h]
theorem set_at {w : World} {b : Nat} {cs : Array Value} {t : TypeId} (i : Nat) (v : Value) (fr : Nat × Nat) (h : w.heap[b]? = some (.cells cs t fr)) : (w.setCell ⟨b, i, none⟩ v).heap[b]? = some (.cells (cs.setIfInBounds i v) t fr) := by
  simp only [World.setCell, Array.getElem?_modify, h, if_pos, Option.map_some, Option.isSome_none, Bool.false_eq_true, if_false]
/-- All blocks but one are as they were. -/
structure KeepX (b : Nat) (w w' : World) : Prop where
  os : w'.os = w.os
  tape : w'.tape = w.tape
  output : w'.output = w.output
  size : w.heap.size ≤ w'.heap.size
  block : ∀ k, k < w.heap.size → k ≠ b → w'.heap[k]? = w.heap[k]?
theorem KeepX.of {b : Nat} {w w' : World} (h : Below w.heap.size w w') : KeepX b w w' := ⟨h.os, h.tape, h.output, h.size, fun k hk _ => h.block k hk⟩
theorem KeepX.trans {b : Nat} {w w1 w2 : World} (h : KeepX b w w1) (k : KeepX b w1 w2) : KeepX b w w2 :=
  ⟨k.os.trans h.os, k.tape.trans h.tape, k.output.trans h.output, Nat.le_trans h.size k.size, fun j hj hn => (k.block j (Nat.lt_of_lt_of_le hj h.size) hn).trans (h.block j hj hn)⟩
theorem KeepX.below {b B : Nat} {w w' : World} (h : KeepX b w w') (hb : B ≤ b) (hB : B ≤ w.heap.size) : Below B w w' :=
  ⟨h.os, h.tape, h.output, h.size, fun k hk => h.block k (Nat.lt_of_lt_of_le hk hB) (by omega)⟩

/-- A token's five fields. -/
structure T5 where
  k : Int
  tx : ByteArray
  un : ByteArray
  wh : Bool
  fl : Bool
/-- A value: a token, and what is within. -/
inductive V where
  | mk (t : T5) (kids : List V)
def V.tok : V → T5 | .mk t _ => t
def V.kids : V → List V | .mk _ l => l
def t5Cells (t : T5) : List Value := [.int .i64 t.k, .string t.tx, .string t.un, .bool t.wh, .bool t.fl]
def vCells (t : T5) (kid : Value) : List Value := [.int .i64 t.k, .string t.tx, .string t.un, .bool t.wh, .bool t.fl, kid]

/-- The slice holds the values: cell by cell, and what is within each likewise; all blocks are among P. -/
inductive VsAt (P : Nat → Prop) (W : World) : Value → List V → Prop
  | mk (a : Option Addr) (cap : Nat) (vs : List V) (b off : Nat) (kv : Nat → Value) (h1 : vs.length ≤ cap) (h2 : cap ≤ 9223372036854775807)
      (ha : 0 < vs.length → a = some ⟨b, off, none⟩ ∧ b < W.heap.size ∧ P b)
      (hc : ∀ i (h : i < vs.length), ∀ j y, (vCells (vs[i]'h).tok (kv i))[j]? = some y → W.cell? ⟨b, off + i * 6 + j, none⟩ = some y)
      (hr : ∀ i (h : i < vs.length), VsAt P W (kv i) (vs[i]'h).kids) : VsAt P W (.slice a vs.length cap) vs
theorem cell_of_heap {W W' : World} {b o : Nat} (h : W'.heap[b]? = W.heap[b]?) : W'.cell? ⟨b, o, none⟩ = W.cell? ⟨b, o, none⟩ := by
  simp only [World.cell?, h]
/-- Where P's blocks stay, the tree stays. -/
theorem VsAt.stay {P : Nat → Prop} {W W' : World} (hs : W.heap.size ≤ W'.heap.size) (hk : ∀ b, P b → b < W.heap.size → W'.heap[b]? = W.heap[b]?) {v : Value} {vs : List V} (h : VsAt P W v vs) : VsAt P W' v vs := by
  induction h with
  | mk a cap vs b off kv h1 h2 ha hc hr ih =>
    refine .mk a cap vs b off kv h1 h2 (fun h0 => ⟨(ha h0).1, Nat.lt_of_lt_of_le (ha h0).2.1 hs, (ha h0).2.2⟩) (fun i h j y hy => ?_) ih
    obtain ⟨_, h3, h4⟩ := ha (by omega)
    exact (cell_of_heap (hk b h4 h3)).trans (hc i h j y hy)
theorem VsAt.keep {P : Nat → Prop} {W W' : World} (hb : Below W.heap.size W W') {v : Value} {vs : List V} (h : VsAt P W v vs) : VsAt P W' v vs := h.stay hb.size (fun b _ hlt => hb.block b hlt)
theorem VsAt.wider {P Q : Nat → Prop} {W : World} (hq : ∀ b, P b → b < W.heap.size → Q b) {v : Value} {vs : List V} (h : VsAt P W v vs) : VsAt Q W v vs := by
  induction h with
  | mk a cap vs b off kv h1 h2 ha hc hr ih => exact .mk a cap vs b off kv h1 h2 (fun h0 => ⟨(ha h0).1, (ha h0).2.1, hq b (ha h0).2.2 (ha h0).2.1⟩) hc ih
theorem VsAt.nil (P : Nat → Prop) (W : World) : VsAt P W (.slice none 0 0) [] :=
  .mk none 0 [] 0 0 (fun _ => .slice none 0 0) (Nat.le_refl _) (by decide) (fun h => absurd h (by simp)) (fun i h => absurd h (by simp)) (fun i h => absurd h (by simp))
theorem VsAt.slice {P : Nat → Prop} {W : World} {v : Value} {vs : List V} (h : VsAt P W v vs) : ∃ a cap, v = .slice a vs.length cap ∧ vs.length ≤ cap ∧ cap ≤ 9223372036854775807 := by
  cases h with
  | mk a cap vs b off kv h1 h2 ha hc hr => exact ⟨a, cap, rfl, h1, h2⟩
/-- One by one. -/
theorem VsAt.cells {P : Nat → Prop} {W : World} {a : Option Addr} {n cap : Nat} {vs : List V} (h : VsAt P W (.slice a n cap) vs) : n = vs.length ∧ vs.length ≤ cap ∧ cap ≤ 9223372036854775807 ∧
    ∀ i (hi : i < vs.length), ∃ b off kv, a = some ⟨b, off, none⟩ ∧ b < W.heap.size ∧ (∀ j y, (vCells (vs[i]'hi).tok kv)[j]? = some y → W.cell? ⟨b, off + i * 6 + j, none⟩ = some y) ∧ VsAt P W kv (vs[i]'hi).kids := by
  generalize hv : Value.slice a n cap = v at h
  cases h with
  | mk a' cap' vs b off kv h1 h2 ha hc hr =>
    cases hv
    exact ⟨rfl, h1, h2, fun i hi => ⟨b, off, kv i, (ha (by omega)).1, (ha (by omega)).2.1, hc i hi, hr i hi⟩⟩
/-- From k on. -/
theorem VsAt.drop {P : Nat → Prop} {W : World} {a : Option Addr} {n cap : Nat} {vs : List V} (h : VsAt P W (.slice a n cap) vs) (k : Nat) (hk : k ≤ vs.length) (a' : Option Addr) (ha' : k < vs.length → ∃ b off, a = some ⟨b, off, none⟩ ∧ a' = some ⟨b, off + k * 6, none⟩) : VsAt P W (.slice a' (n - k) (cap - k)) (vs.drop k) := by
  generalize hv : Value.slice a n cap = v at h
  cases h with
  | mk a0 cap0 vs b off kv h1 h2 ha hc hr =>
    cases hv
    have hl : (vs.drop k).length = vs.length - k := List.length_drop
    have hget : ∀ i (h : i < (vs.drop k).length), (vs.drop k)[i]'h = vs[k + i]'(by omega) := fun i h => List.getElem_drop ..
    have key := VsAt.mk (P := P) (W := W) a' (cap - k) (vs.drop k) b (off + k * 6) (fun i => kv (k + i)) (by omega) (by omega)
      (fun h0 => by
        obtain ⟨b', off', e1, e2⟩ := ha' (by omega)
        obtain ⟨q1, q2, q3⟩ := ha (by omega)
        rw [e1] at q1
        cases q1
        exact ⟨e2, q2, q3⟩)
      (fun i h j y hy => by
        rw [hget i h] at hy
        have := hc (k + i) (by omega) j y hy
        rw [show off + k * 6 + i * 6 + j = off + (k + i) * 6 + j by omega]
        exact this)
      (fun i h => by
        rw [hget i h]
        exact hr (k + i) (by omega))
    rw [hl] at key
    exact key
theorem VsAt.take {P : Nat → Prop} {W : World} {a : Option Addr} {n cap : Nat} {vs : List V} (h : VsAt P W (.slice a n cap) vs) (k : Nat) (hk : k ≤ vs.length) : VsAt P W (.slice a k cap) (vs.take k) := by
  generalize hv : Value.slice a n cap = v at h
  cases h with
  | mk a0 cap0 vs b off kv h1 h2 ha hc hr =>
    cases hv
    have hl : (vs.take k).length = k := by rw [List.length_take]; omega
    have hget : ∀ i (h : i < (vs.take k).length), (vs.take k)[i]'h = vs[i]'(by omega) := fun i h => List.getElem_take ..
    have key := VsAt.mk (P := P) (W := W) a cap (vs.take k) b off kv (by omega) (by omega) (fun h0 => ha (by omega))
      (fun i h j y hy => by
        rw [hget i h] at hy
        exact hc i (by omega) j y hy)
      (fun i h => by
        rw [hget i h]
        exact hr i (by omega))
    rw [hl] at key
    exact key
/-- A row of one's own, with what is within each. -/
theorem VsAt.own {T : TypeId} {P : Nat → Prop} {W : World} {B : Nat} {v : Value} {vs : List V} {kv : Nat → Value} {cs : List Value} (h : W.ownsRow B T 6 v vs.length cs) (hP : ∀ g, v.ownBlock = some g → P g)
    (hcs : ∀ i (hi : i < vs.length), ∀ j y, (vCells (vs[i]'hi).tok (kv i))[j]? = some y → cs[i * 6 + j]? = some y) (hr : ∀ i (hi : i < vs.length), VsAt P W (kv i) (vs[i]'hi).kids) : VsAt P W v vs := by
  obtain ⟨hl, h⟩ := h
  rcases h with ⟨rfl, hn⟩ | ⟨g, cap, cur, rfl, _, hg, hnc, hcm, hsz, hx⟩
  · have hvs : vs = [] := List.length_eq_zero_iff.1 hn
    subst hvs
    exact VsAt.nil P W
  · refine .mk _ cap vs g 0 kv hnc hcm (fun _ => ⟨rfl, (Array.getElem?_eq_some_iff.1 hg).1, hP g rfl⟩) (fun i hi j y hy => ?_) hr
    have h1 := hcs i hi j y hy
    have hlt : i * 6 + j < vs.length * 6 := by
      have := (List.getElem?_eq_some_iff.1 h1).1
      omega
    rw [← hx, List.getElem?_take_of_lt hlt] at h1
    rw [Nat.zero_add]
    simp only [World.cell?, hg]
    simpa using h1

end Go.Proofs.YtbeolmofnmnknaaGreatDoor.L
namespace Go.Proofs.YtbeolmofnmnknaaGreatDoor.L
open Go.RowKit
set_option maxRecDepth 100000

/-- A simple selector's plain fields. -/
structure S6 where
  k : Int
  nm : ByteArray
  op : Int
  v : ByteArray
  a : Int
  b : Int
/-- A complex selector: its Parts, each simple one with its List, and its Combs. -/
inductive Cx where
  | mk (parts : List (List (S6 × List Cx))) (combs : List Int)
def Cx.parts : Cx → List (List (S6 × List Cx)) | .mk p _ => p
def Cx.combs : Cx → List Int | .mk _ c => c
def s7 (s : S6) (l : Value) : List Value := [.int .i64 s.k, .string s.nm, .int .i64 s.op, .string s.v, .int .i64 s.a, .int .i64 s.b, l]
/-- A slice of n items that begins there. -/
def Sl (W : World) (v : Value) (n b off : Nat) : Prop := ∃ a cap, v = .slice a n cap ∧ n ≤ cap ∧ cap ≤ 9223372036854775807 ∧ (0 < n → a = some ⟨b, off, none⟩ ∧ b < W.heap.size)
theorem Sl.keep {W W' : World} {v : Value} {n b off : Nat} (h : Sl W v n b off) (hb : Below W.heap.size W W') : Sl W' v n b off := by
  obtain ⟨a, cap, h1, h2, h3, h4⟩ := h
  exact ⟨a, cap, h1, h2, h3, fun h0 => ⟨(h4 h0).1, Nat.lt_of_lt_of_le (h4 h0).2 hb.size⟩⟩
theorem Sl.cell {W W' : World} {v : Value} {n b off : Nat} (h : Sl W v n b off) (hb : Below W.heap.size W W') (hn : 0 < n) (o : Nat) : W'.cell? ⟨b, o, none⟩ = W.cell? ⟨b, o, none⟩ := by
  obtain ⟨a, cap, h1, h2, h3, h4⟩ := h
  exact hb.cell (p := ⟨b, o, none⟩) (h4 hn).2
/-- The two slices of one complex selector; R says what its Lists are. -/
structure CxAt (R : Value → List Cx → Prop) (W : World) (pv cv : Value) (c : Cx) (bc oc bp op : Nat) (qv : Nat → Value) (bq oq : Nat → Nat) (lv : Nat → Nat → Value) : Prop where
  cs : Sl W cv c.combs.length bc oc
  cc : ∀ t (h : t < c.combs.length), W.cell? ⟨bc, oc + t, none⟩ = some (.int .i64 (c.combs[t]'h))
  ps : Sl W pv c.parts.length bp op
  pc : ∀ j, j < c.parts.length → W.cell? ⟨bp, op + j, none⟩ = some (qv j)
  qs : ∀ j (h : j < c.parts.length), Sl W (qv j) (c.parts[j]'h).length (bq j) (oq j)
  qc : ∀ j (h : j < c.parts.length) t (h' : t < (c.parts[j]'h).length), ∀ y u, (s7 ((c.parts[j]'h)[t]'h').1 (lv j t))[y]? = some u → W.cell? ⟨bq j, oq j + t * 7 + y, none⟩ = some u
  ls : ∀ j (h : j < c.parts.length) t (h' : t < (c.parts[j]'h).length), R (lv j t) ((c.parts[j]'h)[t]'h').2
/-- A list of selectors. -/
inductive ClAt (W : World) : Value → List Cx → Prop
  | mk (v : Value) (l : List Cx) (b off : Nat) (pv cv : Nat → Value) (bc oc bp op : Nat → Nat) (qv : Nat → Nat → Value) (bq oq : Nat → Nat → Nat) (lv : Nat → Nat → Nat → Value)
      (hs : Sl W v l.length b off)
      (hc : ∀ i, i < l.length → W.cell? ⟨b, off + i * 2, none⟩ = some (pv i) ∧ W.cell? ⟨b, off + i * 2 + 1, none⟩ = some (cv i))
      (h1 : ∀ i (h : i < l.length), Sl W (cv i) (l[i]'h).combs.length (bc i) (oc i))
      (h2 : ∀ i (h : i < l.length) t (h' : t < (l[i]'h).combs.length), W.cell? ⟨bc i, oc i + t, none⟩ = some (.int .i64 ((l[i]'h).combs[t]'h')))
      (h3 : ∀ i (h : i < l.length), Sl W (pv i) (l[i]'h).parts.length (bp i) (op i))
      (h4 : ∀ i (h : i < l.length) j, j < (l[i]'h).parts.length → W.cell? ⟨bp i, op i + j, none⟩ = some (qv i j))
      (h5 : ∀ i (h : i < l.length) j (h' : j < (l[i]'h).parts.length), Sl W (qv i j) ((l[i]'h).parts[j]'h').length (bq i j) (oq i j))
      (h6 : ∀ i (h : i < l.length) j (h' : j < (l[i]'h).parts.length) t (h'' : t < ((l[i]'h).parts[j]'h').length), ∀ y u, (s7 (((l[i]'h).parts[j]'h')[t]'h'').1 (lv i j t))[y]? = some u → W.cell? ⟨bq i j, oq i j + t * 7 + y, none⟩ = some u)
      (hr : ∀ i (h : i < l.length) j (h' : j < (l[i]'h).parts.length) t (h'' : t < ((l[i]'h).parts[j]'h').length), ClAt W (lv i j t) (((l[i]'h).parts[j]'h')[t]'h'').2) : ClAt W v l
theorem ClAt.keep {W W' : World} (hb : Below W.heap.size W W') {v : Value} {l : List Cx} (h : ClAt W v l) : ClAt W' v l := by
  induction h with
  | mk v l b off pv cv bc oc bp op qv bq oq lv hs hc h1 h2 h3 h4 h5 h6 hr ih =>
    refine .mk v l b off pv cv bc oc bp op qv bq oq lv (hs.keep hb) (fun i h => ?_) (fun i h => (h1 i h).keep hb) (fun i h t h' => ?_) (fun i h => (h3 i h).keep hb) (fun i h j h' => ?_) (fun i h j h' => (h5 i h j h').keep hb) (fun i h j h' t h'' y u hu => ?_) ih
    · rw [hs.cell hb (by omega), hs.cell hb (by omega)]
      exact hc i h
    · rw [(h1 i h).cell hb (by omega)]
      exact h2 i h t h'
    · rw [(h3 i h).cell hb (by omega)]
      exact h4 i h j h'
    · rw [(h5 i h j h').cell hb (by omega)]
      exact h6 i h j h' t h'' y u hu
/-- One by one. -/
theorem ClAt.at {W : World} {v : Value} {l : List Cx} (h : ClAt W v l) : ∃ b off, Sl W v l.length b off ∧ ∀ i (hi : i < l.length), ∃ pv cv bc oc bp op qv bq oq lv, W.cell? ⟨b, off + i * 2, none⟩ = some pv ∧ W.cell? ⟨b, off + i * 2 + 1, none⟩ = some cv ∧ CxAt (ClAt W) W pv cv (l[i]'hi) bc oc bp op qv bq oq lv := by
  cases h with
  | mk v l b off pv cv bc oc bp op qv bq oq lv hs hc h1 h2 h3 h4 h5 h6 hr =>
    exact ⟨b, off, hs, fun i hi => ⟨pv i, cv i, bc i, oc i, bp i, op i, qv i, bq i, oq i, lv i, (hc i hi).1, (hc i hi).2, h1 i hi, h2 i hi, h3 i hi, h4 i hi, h5 i hi, h6 i hi, hr i hi⟩⟩
theorem CxAt.keep {W W' : World} (hb : Below W.heap.size W W') {pv cv : Value} {c : Cx} {bc oc bp op : Nat} {qv : Nat → Value} {bq oq : Nat → Nat} {lv : Nat → Nat → Value} (h : CxAt (ClAt W) W pv cv c bc oc bp op qv bq oq lv) : CxAt (ClAt W') W' pv cv c bc oc bp op qv bq oq lv := by
  refine ⟨h.cs.keep hb, fun t ht => ?_, h.ps.keep hb, fun j hj => ?_, fun j hj => (h.qs j hj).keep hb, fun j hj t ht y u hu => ?_, fun j hj t ht => (h.ls j hj t ht).keep hb⟩
  · rw [h.cs.cell hb (by omega)]; exact h.cc t ht
  · rw [h.ps.cell hb (by omega)]; exact h.pc j hj
  · rw [(h.qs j hj).cell hb (by omega)]; exact h.qc j hj t ht y u hu
/-- How much there is, down to a depth. -/
def wtS (f : List Cx → Nat) (x : S6 × List Cx) : Nat := 1 + (x.1.nm.size + x.1.v.size) / 20 + f x.2
def wtP (f : List Cx → Nat) (p : List (S6 × List Cx)) : Nat := 1 + (p.map (wtS f)).sum
def wtC (f : List Cx → Nat) (c : Cx) : Nat := 1 + c.combs.length + (c.parts.map (wtP f)).sum
def wt : Nat → List Cx → Nat
  | 0, _ => 0
  | d + 1, l => (l.map (wtC (wt d))).sum
theorem sum_take {α : Type} (f : α → Nat) {l : List α} {i : Nat} (h : i < l.length) : ((l.take (i + 1)).map f).sum = ((l.take i).map f).sum + f l[i] := by
  rw [List.take_add_one, List.getElem?_eq_getElem h, Option.toList_some, List.map_append, List.sum_append]
  simp
theorem sum_take_le {α : Type} (f : α → Nat) (l : List α) (i : Nat) : ((l.take i).map f).sum ≤ (l.map f).sum := by
  have h := congrArg (fun x => (x.map f).sum) (List.take_append_drop i l)
  simp only [List.map_append, List.sum_append] at h
  omega
end Go.Proofs.YtbeolmofnmnknaaGreatDoor.L
namespace Go.Proofs.YtbeolmofnmnknaaGreatDoor.L
open Go.RowKit
set_option maxRecDepth 100000

/-- A specificity. -/
structure S3 where
  a : Int
  b : Int
  c : Int
def S3.v (s : S3) : Value := .agg #[.int .i64 s.a, .int .i64 s.b, .int .i64 s.c]
def S3.ok (s : S3) : Prop := (0 ≤ s.a ∧ s.a ≤ 65535) ∧ (0 ≤ s.b ∧ s.b ≤ 65535) ∧ (0 ≤ s.c ∧ s.c ≤ 65535)
def z3 : S3 := ⟨0, 0, 0⟩
def addS (x y : S3) : S3 := ⟨min (x.a + y.a) 65535, min (x.b + y.b) 65535, min (x.c + y.c) 65535⟩
def lessS (x y : S3) : Bool := if (x.a != y.a) = true then decide (x.a < y.a) else if (x.b != y.b) = true then decide (x.b < y.b) else decide (x.c < y.c)
def wgB (k : Int) : Bool := k == 5 || k == 6
def sglZ (s : S6) : S3 := if (s.k == 3) = true then ⟨1, 0, 0⟩ else if (s.k == 2 || s.k == 4 || s.k == 8 || s.k == 9 || s.k == 10 || s.k == 11) = true then ⟨0, 1, 0⟩ else if (s.k == 1 && !(s.nm.toList == [42])) = true then ⟨0, 0, 1⟩ else z3
theorem addS_ok {x y : S3} (hx : x.ok) (hy : y.ok) : (addS x y).ok := by
  obtain ⟨a1, a2, a3⟩ := hx
  obtain ⟨b1, b2, b3⟩ := hy
  refine ⟨?_, ?_, ?_⟩ <;> simp only [addS] <;> omega
theorem sglZ_ok (s : S6) : (sglZ s).ok := by
  unfold sglZ
  repeat' split
  all_goals simp [S3.ok, z3]
theorem weighed_any (W : World) (k : Int) : Calls Tryz.prog 19 #[.int .i64 k] W fun e w' => e = .returned (.bool (wgB k)) ∧ w' = W := by
  have HE : Hid (wgB k = (k == 5 || k == 6)) := rfl
  generalize wgB k = r at *
  cases h5 : (k == 5)
  · have HR : Hid (r = (k == 6)) := by rw [Hid, HE.out, h5]; rfl
    clear HE
    go_enter Tryz.func19, Tryz.ntmps19
    go_wp2
    go_ret
    exact ⟨by rw [HR.out]; rfl, rfl⟩
  · have HR : Hid (r = true) := by rw [Hid, HE.out, h5]; rfl
    clear HE
    go_enter Tryz.func19, Tryz.ntmps19
    go_wp2
    go_ret
    exact ⟨by rw [HR.out]; rfl, rfl⟩

set_option maxHeartbeats 400000 in
theorem less_any (W : World) (x y : S3) : Calls Tryz.prog 8 #[x.v, y.v] W fun e w' => e = .returned (.bool (lessS x y)) ∧ Below W.heap.size W w' := by
  obtain ⟨xa, xb, xc⟩ := x
  obtain ⟨ya, yb, yc⟩ := y
  have HE : Hid (lessS ⟨xa, xb, xc⟩ ⟨ya, yb, yc⟩ = if (xa != ya) = true then decide (xa < ya) else if (xb != yb) = true then decide (xb < yb) else decide (xc < yc)) := rfl
  have HB : Hid (Below W.heap.size W ((W.alloc (.cells #[.int .i64 xa, .int .i64 xb, .int .i64 xc] 30)).alloc (.cells #[.int .i64 ya, .int .i64 yb, .int .i64 yc] 30))) := ((Below.refl _ _).alloc (Nat.le_refl _) _).alloc (by simp) _
  unfold S3.v
  dsimp only
  generalize lessS ⟨xa, xb, xc⟩ ⟨ya, yb, yc⟩ = r at *
  cases ha : (xa != ya)
  · cases hb : (xb != yb)
    · have HR : Hid (r = decide (xc < yc)) := by rw [Hid, HE.out, ha, hb]; rfl
      clear HE
      go_enter Tryz.func8, Tryz.ntmps8
      go_wp2
      go_ret
      exact ⟨by rw [HR.out]; rfl, HB.out⟩
    · have HR : Hid (r = decide (xb < yb)) := by rw [Hid, HE.out, ha, hb]; rfl
      clear HE
      go_enter Tryz.func8, Tryz.ntmps8
      go_wp2
      go_ret
      exact ⟨by rw [HR.out]; rfl, HB.out⟩
  · have HR : Hid (r = decide (xa < ya)) := by rw [Hid, HE.out, ha]; rfl
    clear HE
    go_enter Tryz.func8, Tryz.ntmps8
    go_wp2
    go_ret
    exact ⟨by rw [HR.out]; rfl, HB.out⟩
theorem cells3s {W : World} {b : Nat} {x0 x1 x2 : Value} {T : TypeId} (h : W.heap[b]? = some (.cells #[x0, x1, x2] T (0, 0))) : (W.cell? ⟨b, 0, none⟩ = some x0 ∧ W.cell? ⟨b, 1, none⟩ = some x1 ∧ W.cell? ⟨b, 2, none⟩ = some x2) ∧ W.frozen? ⟨b, 0, none⟩ = false ∧ W.frozen? ⟨b, 1, none⟩ = false ∧ W.frozen? ⟨b, 2, none⟩ = false :=
  ⟨⟨cellAt h 0, cellAt h 1, cellAt h 2⟩, by simp [World.frozen?, h], by simp [World.frozen?, h], by simp [World.frozen?, h]⟩
theorem below_set3 {B : Nat} {W w : World} (h : Below B W w) {o : Nat} (ho : B ≤ o) (x y z : Value) : Below B W (((w.setCell ⟨o, 0, none⟩ x).setCell ⟨o, 1, none⟩ y).setCell ⟨o, 2, none⟩ z) := ((h.setCell (p := ⟨o, 0, none⟩) ho x).setCell (p := ⟨o, 1, none⟩) ho y).setCell (p := ⟨o, 2, none⟩) ho z

set_option maxHeartbeats 400000 in
theorem plus_any (W : World) {x y : S3} (hx : x.ok) (hy : y.ok) : Calls Tryz.prog 20 #[x.v, y.v] W fun e w' => e = .returned (addS x y).v ∧ Below W.heap.size W w' := by
  obtain ⟨xa, xb, xc⟩ := x
  obtain ⟨ya, yb, yc⟩ := y
  obtain ⟨⟨p1, p2⟩, ⟨p3, p4⟩, p5, p6⟩ := hx
  obtain ⟨⟨q1, q2⟩, ⟨q3, q4⟩, q5, q6⟩ := hy
  dsimp only at p1 p2 p3 p4 p5 p6 q1 q2 q3 q4 q5 q6
  have HB : Hid (Below W.heap.size W (((W.alloc (.cells #[.int .i64 xa, .int .i64 xb, .int .i64 xc] 30)).alloc (.cells #[.int .i64 ya, .int .i64 yb, .int .i64 yc] 30)).alloc (.cells #[.int .i64 0, .int .i64 0, .int .i64 0] 30))) := (((Below.refl _ _).alloc (Nat.le_refl _) _).alloc (by simp) _).alloc (by simp; omega) _
  unfold S3.v addS
  dsimp only
  have m1 : ∀ z : Int, 65535 < z → min z 65535 = 65535 := fun z h => by omega
  have m2 : ∀ z : Int, ¬ 65535 < z → min z 65535 = z := fun z h => by omega
  by_cases ha : 65535 < xa + ya
  all_goals by_cases hb : 65535 < xb + yb
  all_goals by_cases hc : 65535 < xc + yc
  all_goals
    first
      | rw [m1 _ ha]
      | rw [m2 _ ha]
    first
      | rw [m1 _ hb]
      | rw [m2 _ hb]
    first
      | rw [m1 _ hc]
      | rw [m2 _ hc]
    clear m1 m2
    go_enter Tryz.func20, Tryz.ntmps20
    go_wp2
    exact bodyPost_ret (by simp [results, Tryz.results20, go_sem]) rfl ⟨rfl, (((Below.refl _ _).alloc (Nat.le_refl _) _).alloc (by simp) _).alloc (by simp; omega) _⟩

set_option maxHeartbeats 400000 in
theorem single_any (W : World) (s : S6) (la : Option Addr) (ln lc : Nat) : Calls Tryz.prog 21 #[.agg #[.int .i64 s.k, .string s.nm, .int .i64 s.op, .string s.v, .int .i64 s.a, .int .i64 s.b, .slice la ln lc]] W fun e w' => e = .returned (sglZ s).v ∧ Below W.heap.size W w' := by
  obtain ⟨k, nm, op, v, a, b⟩ := s
  have HB : Hid (∀ x y z, Below W.heap.size W ((W.alloc (.cells #[.int .i64 k, .string nm, .int .i64 op, .string v, .int .i64 a, .int .i64 b, .slice la ln lc] 36)).alloc (.cells #[.int .i64 x, .int .i64 y, .int .i64 z] 30))) := fun _ _ _ => ((Below.refl _ _).alloc (Nat.le_refl _) _).alloc (by simp) _
  have HE : Hid (sglZ ⟨k, nm, op, v, a, b⟩ = if (k == 3) = true then ⟨1, 0, 0⟩ else if (k == 2 || k == 4 || k == 8 || k == 9 || k == 10 || k == 11) = true then ⟨0, 1, 0⟩ else if (k == 1 && !(nm.toList == [42])) = true then ⟨0, 0, 1⟩ else z3) := rfl
  dsimp only
  generalize sglZ ⟨k, nm, op, v, a, b⟩ = R at *
  cases h3 : (k == 3) with
  | true =>
    have HR : Hid (R = ⟨1, 0, 0⟩) := by rw [Hid, HE.out]; simp [h3]
    rw [HR.out]
    unfold S3.v
    dsimp only
    clear HE HR
    go_enter Tryz.func21, Tryz.ntmps21
    go_wp2
    exact bodyPost_ret (by simp [results, Tryz.results21, go_sem]) rfl ⟨rfl, HB.out _ _ _⟩
  | false =>
  cases h2 : (k == 2) with
  | true =>
    have HR : Hid (R = ⟨0, 1, 0⟩) := by rw [Hid, HE.out]; simp [h3, h2]
    rw [HR.out]
    unfold S3.v
    dsimp only
    clear HE HR
    go_enter Tryz.func21, Tryz.ntmps21
    go_wp2
    exact bodyPost_ret (by simp [results, Tryz.results21, go_sem]) rfl ⟨rfl, HB.out _ _ _⟩
  | false =>
  cases h4 : (k == 4) with
  | true =>
    have HR : Hid (R = ⟨0, 1, 0⟩) := by rw [Hid, HE.out]; simp [h3, h2, h4]
    rw [HR.out]
    unfold S3.v
    dsimp only
    clear HE HR
    go_enter Tryz.func21, Tryz.ntmps21
    go_wp2
    exact bodyPost_ret (by simp [results, Tryz.results21, go_sem]) rfl ⟨rfl, HB.out _ _ _⟩
  | false =>
  cases h8 : (k == 8) with
  | true =>
    have HR : Hid (R = ⟨0, 1, 0⟩) := by rw [Hid, HE.out]; simp [h3, h2, h4, h8]
    rw [HR.out]
    unfold S3.v
    dsimp only
    clear HE HR
    go_enter Tryz.func21, Tryz.ntmps21
    go_wp2
    exact bodyPost_ret (by simp [results, Tryz.results21, go_sem]) rfl ⟨rfl, HB.out _ _ _⟩
  | false =>
  cases h9 : (k == 9) with
  | true =>
    have HR : Hid (R = ⟨0, 1, 0⟩) := by rw [Hid, HE.out]; simp [h3, h2, h4, h8, h9]
    rw [HR.out]
    unfold S3.v
    dsimp only
    clear HE HR
    go_enter Tryz.func21, Tryz.ntmps21
    go_wp2
    exact bodyPost_ret (by simp [results, Tryz.results21, go_sem]) rfl ⟨rfl, HB.out _ _ _⟩
  | false =>
  cases h10 : (k == 10) with
  | true =>
    have HR : Hid (R = ⟨0, 1, 0⟩) := by rw [Hid, HE.out]; simp [h3, h2, h4, h8, h9, h10]
    rw [HR.out]
    unfold S3.v
    dsimp only
    clear HE HR
    go_enter Tryz.func21, Tryz.ntmps21
    go_wp2
    exact bodyPost_ret (by simp [results, Tryz.results21, go_sem]) rfl ⟨rfl, HB.out _ _ _⟩
  | false =>
  cases h11 : (k == 11) with
  | true =>
    have HR : Hid (R = ⟨0, 1, 0⟩) := by rw [Hid, HE.out]; simp [h3, h2, h4, h8, h9, h10, h11]
    rw [HR.out]
    unfold S3.v
    dsimp only
    clear HE HR
    go_enter Tryz.func21, Tryz.ntmps21
    go_wp2
    exact bodyPost_ret (by simp [results, Tryz.results21, go_sem]) rfl ⟨rfl, HB.out _ _ _⟩
  | false =>
  cases h1 : (k == 1) with
  | false =>
    have HR : Hid (R = z3) := by rw [Hid, HE.out]; simp [h3, h2, h4, h8, h9, h10, h11, h1]
    rw [HR.out]
    unfold S3.v z3
    dsimp only
    clear HE HR
    go_enter Tryz.func21, Tryz.ntmps21
    go_wp2
    exact bodyPost_ret (by simp [results, Tryz.results21, go_sem]) rfl ⟨rfl, HB.out _ _ _⟩
  | true =>
  cases hs : (nm.toList == [42]) with
  | true =>
    have HR : Hid (R = z3) := by rw [Hid, HE.out]; simp [h3, h2, h4, h8, h9, h10, h11, h1, hs]
    rw [HR.out]
    unfold S3.v z3
    dsimp only
    clear HE HR
    have hn : (nm.toList != [42]) = false := by rw [bne, hs]; rfl
    go_enter Tryz.func21, Tryz.ntmps21
    go_wp2
    exact bodyPost_ret (by simp [results, Tryz.results21, go_sem]) rfl ⟨rfl, HB.out _ _ _⟩
  | false =>
    have HR : Hid (R = ⟨0, 0, 1⟩) := by rw [Hid, HE.out]; simp [h3, h2, h4, h8, h9, h10, h11, h1, hs]
    rw [HR.out]
    unfold S3.v
    dsimp only
    clear HE HR
    have hn : (nm.toList != [42]) = true := by rw [bne, hs]; rfl
    go_enter Tryz.func21, Tryz.ntmps21
    go_wp2
    exact bodyPost_ret (by simp [results, Tryz.results21, go_sem]) rfl ⟨rfl, HB.out _ _ _⟩
end Go.Proofs.YtbeolmofnmnknaaGreatDoor.L
namespace Go.Proofs.YtbeolmofnmnknaaGreatDoor.L
open Go.RowKit
set_option maxRecDepth 100000

/-- What a simple selector adds; f: what a List is worth. -/
def smF (f : List Cx → S3) (x : S6 × List Cx) : S3 := if wgB x.1.k = true then f x.2 else sglZ x.1
def ptF (f : List Cx → S3) (acc : S3) (p : List (S6 × List Cx)) : S3 := p.foldl (fun m x => addS m (smF f x)) acc
def ofF (f : List Cx → S3) (c : Cx) : S3 := c.parts.foldl (ptF f) z3
def upS (m x : S3) : S3 := if lessS m x = true then x else m
def mostF (f : List Cx → S3) (l : List Cx) : S3 := l.foldl (fun m c => upS m (ofF f c)) z3
def mostD : Nat → List Cx → S3
  | 0, _ => z3
  | d + 1, l => mostF (mostD d) l
mutual
def dpC : Cx → Nat
  | .mk ps _ => dpPs ps
def dpPs : List (List (S6 × List Cx)) → Nat
  | [] => 0
  | p :: r => max (dpP p) (dpPs r)
def dpP : List (S6 × List Cx) → Nat
  | [] => 0
  | x :: r => max (dpX x) (dpP r)
def dpX : S6 × List Cx → Nat
  | (_, l) => dpL l + 1
def dpL : List Cx → Nat
  | [] => 0
  | c :: r => max (dpC c) (dpL r)
end
theorem dpL_mem : ∀ {l : List Cx} {c : Cx}, c ∈ l → dpC c ≤ dpL l
  | a :: r, c, h => by
    rw [dpL]
    rcases List.mem_cons.1 h with rfl | h
    · omega
    · have := dpL_mem h
      omega
theorem dpPs_mem : ∀ {l : List (List (S6 × List Cx))} {c : List (S6 × List Cx)}, c ∈ l → dpP c ≤ dpPs l
  | a :: r, c, h => by
    rw [dpPs]
    rcases List.mem_cons.1 h with rfl | h
    · omega
    · have := dpPs_mem h
      omega
theorem dpP_mem : ∀ {l : List (S6 × List Cx)} {c : S6 × List Cx}, c ∈ l → dpL c.2 < dpP l
  | a :: r, c, h => by
    rw [dpP]
    rcases List.mem_cons.1 h with rfl | h
    · obtain ⟨s, l⟩ := c
      rw [dpX]
      simp only []
      omega
    · have := dpP_mem h
      omega
theorem dpC_parts (c : Cx) : dpC c = dpPs c.parts := by
  cases c with
  | mk p k => rw [dpC]; rfl
theorem foldl_congr' {α β : Type} {f g : β → α → β} : ∀ {l : List α} {b : β}, (∀ b a, a ∈ l → f b a = g b a) → l.foldl f b = l.foldl g b
  | [], _, _ => rfl
  | a :: r, b, h => by
    rw [List.foldl_cons, List.foldl_cons, h b a (by simp), foldl_congr' fun b x hx => h b x (by simp [hx])]
theorem mostF_congr {f g : List Cx → S3} {l : List Cx} (h : ∀ c ∈ l, ∀ p ∈ c.parts, ∀ x ∈ p, f x.2 = g x.2) : mostF f l = mostF g l := by
  unfold mostF
  refine foldl_congr' fun m c hc => ?_
  have e : ofF f c = ofF g c := by
    unfold ofF
    refine foldl_congr' fun m p hp => ?_
    unfold ptF
    refine foldl_congr' fun m x hx => ?_
    unfold smF
    rw [h c hc p hp x hx]
  rw [e]
theorem dp_in {l : List Cx} {c : Cx} (hc : c ∈ l) {p : List (S6 × List Cx)} (hp : p ∈ c.parts) {x : S6 × List Cx} (hx : x ∈ p) : dpL x.2 < dpL l := by
  have h1 := dpL_mem hc
  have h2 := dpC_parts c
  have h3 := dpPs_mem hp
  have h4 := dpP_mem hx
  omega
theorem mostD_same : ∀ (d e : Nat) (l : List Cx), dpL l < d → dpL l < e → mostD d l = mostD e l
  | 0, _, _, h, _ => by omega
  | _ + 1, 0, _, _, h => by omega
  | d + 1, e + 1, l, hd, he => by
    unfold mostD
    exact mostF_congr fun c hc p hp x hx => by
      have := dp_in hc hp hx
      exact mostD_same d e x.2 (by omega) (by omega)
/-- The greatest specificity of a list. -/
def mostZ (l : List Cx) : S3 := mostD (dpL l + 1) l
theorem mostZ_step (l : List Cx) : mostZ l = mostF mostZ l := by
  conv => lhs; unfold mostZ mostD
  exact mostF_congr fun c hc p hp x hx => by
    have := dp_in hc hp hx
    unfold mostZ
    exact mostD_same _ _ x.2 (by omega) (by omega)
theorem z3_ok : z3.ok := by simp [S3.ok, z3]
theorem ptF_ok {f : List Cx → S3} : ∀ {p : List (S6 × List Cx)} {acc : S3}, acc.ok → (∀ x ∈ p, (f x.2).ok) → (ptF f acc p).ok
  | [], _, h, _ => h
  | x :: r, acc, h, hf => by
    unfold ptF
    rw [List.foldl_cons]
    refine ptF_ok (p := r) (addS_ok h ?_) fun y hy => hf y (by simp [hy])
    unfold smF
    split
    · exact hf x (by simp)
    · exact sglZ_ok _
theorem parts_ok {f : List Cx → S3} : ∀ {ps : List (List (S6 × List Cx))} {acc : S3}, acc.ok → (∀ p ∈ ps, ∀ x ∈ p, (f x.2).ok) → (ps.foldl (ptF f) acc).ok
  | [], _, h, _ => h
  | p :: r, acc, h, hf => by
    rw [List.foldl_cons]
    exact parts_ok (ps := r) (ptF_ok h (hf p (by simp))) fun q hq => hf q (by simp [hq])
theorem ofF_ok {f : List Cx → S3} {c : Cx} (h : ∀ p ∈ c.parts, ∀ x ∈ p, (f x.2).ok) : (ofF f c).ok := parts_ok z3_ok h
theorem mostL_ok {f : List Cx → S3} : ∀ {l : List Cx} {m : S3}, m.ok → (∀ c ∈ l, ∀ p ∈ c.parts, ∀ x ∈ p, (f x.2).ok) → (l.foldl (fun m c => upS m (ofF f c)) m).ok
  | [], _, h, _ => h
  | c :: r, m, h, hf => by
    rw [List.foldl_cons]
    refine mostL_ok (l := r) ?_ fun d hd => hf d (by simp [hd])
    unfold upS
    split
    · exact ofF_ok (hf c (by simp))
    · exact h
theorem mostD_ok : ∀ (d : Nat) (l : List Cx), (mostD d l).ok
  | 0, _ => z3_ok
  | d + 1, _ => by unfold mostD; exact mostL_ok z3_ok fun _ _ _ _ x _ => mostD_ok d x.2
theorem mostZ_ok (l : List Cx) : (mostZ l).ok := mostD_ok _ _
/-- The Lists within that are weighed, from left to right. -/
def wgP (p : List (S6 × List Cx)) : List (List Cx) := (p.filter fun x => wgB x.1.k).map Prod.snd
def wgC (c : Cx) : List (List Cx) := c.parts.flatMap wgP
def wgL (l : List Cx) : List (List Cx) := l.flatMap wgC
end Go.Proofs.YtbeolmofnmnknaaGreatDoor.L
