/- Selectors as trees, and the slices that hold them. -/
import Derived.Test.YtdiljkmlneeboaaFlt
namespace Go.Proofs.Ytdiljkmlneeboaa
open Go.RowKit
set_option maxRecDepth 100000

/-- A simple selector's plain fields. -/
structure S6 where
  k : Int
  nm : ByteArray
  op : Int
  v : ByteArray
  a : Int
  b : Int
/-- A complex selector: its Parts, each simple one with its List, and its Combs. -/
inductive Cx where
  | mk (parts : List (List (S6 × List Cx))) (combs : List Int)
def Cx.parts : Cx → List (List (S6 × List Cx)) | .mk p _ => p
def Cx.combs : Cx → List Int | .mk _ c => c
def s7 (s : S6) (l : Value) : List Value := [.int .i64 s.k, .string s.nm, .int .i64 s.op, .string s.v, .int .i64 s.a, .int .i64 s.b, l]
/-- A slice of n items that begins there. -/
def Sl (W : World) (v : Value) (n b off : Nat) : Prop := ∃ a cap, v = .slice a n cap ∧ n ≤ cap ∧ cap ≤ 9223372036854775807 ∧ (0 < n → a = some ⟨b, off, none⟩ ∧ b < W.heap.size)
theorem Sl.keep {W W' : World} {v : Value} {n b off : Nat} (h : Sl W v n b off) (hb : Below W.heap.size W W') : Sl W' v n b off := by
  obtain ⟨a, cap, h1, h2, h3, h4⟩ := h
  exact ⟨a, cap, h1, h2, h3, fun h0 => ⟨(h4 h0).1, Nat.lt_of_lt_of_le (h4 h0).2 hb.size⟩⟩
theorem Sl.cell {W W' : World} {v : Value} {n b off : Nat} (h : Sl W v n b off) (hb : Below W.heap.size W W') (hn : 0 < n) (o : Nat) : W'.cell? ⟨b, o, none⟩ = W.cell? ⟨b, o, none⟩ := by
  obtain ⟨a, cap, h1, h2, h3, h4⟩ := h
  exact hb.cell (p := ⟨b, o, none⟩) (h4 hn).2
/-- The two slices of one complex selector; R says what its Lists are. -/
structure CxAt (R : Value → List Cx → Prop) (W : World) (pv cv : Value) (c : Cx) (bc oc bp op : Nat) (qv : Nat → Value) (bq oq : Nat → Nat) (lv : Nat → Nat → Value) : Prop where
  cs : Sl W cv c.combs.length bc oc
  cc : ∀ t (h : t < c.combs.length), W.cell? ⟨bc, oc + t, none⟩ = some (.int .i64 (c.combs[t]'h))
  ps : Sl W pv c.parts.length bp op
  pc : ∀ j, j < c.parts.length → W.cell? ⟨bp, op + j, none⟩ = some (qv j)
  qs : ∀ j (h : j < c.parts.length), Sl W (qv j) (c.parts[j]'h).length (bq j) (oq j)
  qc : ∀ j (h : j < c.parts.length) t (h' : t < (c.parts[j]'h).length), ∀ y u, (s7 ((c.parts[j]'h)[t]'h').1 (lv j t))[y]? = some u → W.cell? ⟨bq j, oq j + t * 7 + y, none⟩ = some u
  ls : ∀ j (h : j < c.parts.length) t (h' : t < (c.parts[j]'h).length), R (lv j t) ((c.parts[j]'h)[t]'h').2
/-- A list of selectors. -/
inductive ClAt (W : World) : Value → List Cx → Prop
  | mk (v : Value) (l : List Cx) (b off : Nat) (pv cv : Nat → Value) (bc oc bp op : Nat → Nat) (qv : Nat → Nat → Value) (bq oq : Nat → Nat → Nat) (lv : Nat → Nat → Nat → Value)
      (hs : Sl W v l.length b off)
      (hc : ∀ i, i < l.length → W.cell? ⟨b, off + i * 2, none⟩ = some (pv i) ∧ W.cell? ⟨b, off + i * 2 + 1, none⟩ = some (cv i))
      (h1 : ∀ i (h : i < l.length), Sl W (cv i) (l[i]'h).combs.length (bc i) (oc i))
      (h2 : ∀ i (h : i < l.length) t (h' : t < (l[i]'h).combs.length), W.cell? ⟨bc i, oc i + t, none⟩ = some (.int .i64 ((l[i]'h).combs[t]'h')))
      (h3 : ∀ i (h : i < l.length), Sl W (pv i) (l[i]'h).parts.length (bp i) (op i))
      (h4 : ∀ i (h : i < l.length) j, j < (l[i]'h).parts.length → W.cell? ⟨bp i, op i + j, none⟩ = some (qv i j))
      (h5 : ∀ i (h : i < l.length) j (h' : j < (l[i]'h).parts.length), Sl W (qv i j) ((l[i]'h).parts[j]'h').length (bq i j) (oq i j))
      (h6 : ∀ i (h : i < l.length) j (h' : j < (l[i]'h).parts.length) t (h'' : t < ((l[i]'h).parts[j]'h').length), ∀ y u, (s7 (((l[i]'h).parts[j]'h')[t]'h'').1 (lv i j t))[y]? = some u → W.cell? ⟨bq i j, oq i j + t * 7 + y, none⟩ = some u)
      (hr : ∀ i (h : i < l.length) j (h' : j < (l[i]'h).parts.length) t (h'' : t < ((l[i]'h).parts[j]'h').length), ClAt W (lv i j t) (((l[i]'h).parts[j]'h')[t]'h'').2) : ClAt W v l
theorem ClAt.keep {W W' : World} (hb : Below W.heap.size W W') {v : Value} {l : List Cx} (h : ClAt W v l) : ClAt W' v l := by
  induction h with
  | mk v l b off pv cv bc oc bp op qv bq oq lv hs hc h1 h2 h3 h4 h5 h6 hr ih =>
    refine .mk v l b off pv cv bc oc bp op qv bq oq lv (hs.keep hb) (fun i h => ?_) (fun i h => (h1 i h).keep hb) (fun i h t h' => ?_) (fun i h => (h3 i h).keep hb) (fun i h j h' => ?_) (fun i h j h' => (h5 i h j h').keep hb) (fun i h j h' t h'' y u hu => ?_) ih
    · rw [hs.cell hb (by omega), hs.cell hb (by omega)]
      exact hc i h
    · rw [(h1 i h).cell hb (by omega)]
      exact h2 i h t h'
    · rw [(h3 i h).cell hb (by omega)]
      exact h4 i h j h'
    · rw [(h5 i h j h').cell hb (by omega)]
      exact h6 i h j h' t h'' y u hu
/-- One by one. -/
theorem ClAt.at {W : World} {v : Value} {l : List Cx} (h : ClAt W v l) : ∃ b off, Sl W v l.length b off ∧ ∀ i (hi : i < l.length), ∃ pv cv bc oc bp op qv bq oq lv, W.cell? ⟨b, off + i * 2, none⟩ = some pv ∧ W.cell? ⟨b, off + i * 2 + 1, none⟩ = some cv ∧ CxAt (ClAt W) W pv cv (l[i]'hi) bc oc bp op qv bq oq lv := by
  cases h with
  | mk v l b off pv cv bc oc bp op qv bq oq lv hs hc h1 h2 h3 h4 h5 h6 hr =>
    exact ⟨b, off, hs, fun i hi => ⟨pv i, cv i, bc i, oc i, bp i, op i, qv i, bq i, oq i, lv i, (hc i hi).1, (hc i hi).2, h1 i hi, h2 i hi, h3 i hi, h4 i hi, h5 i hi, h6 i hi, hr i hi⟩⟩
theorem CxAt.keep {W W' : World} (hb : Below W.heap.size W W') {pv cv : Value} {c : Cx} {bc oc bp op : Nat} {qv : Nat → Value} {bq oq : Nat → Nat} {lv : Nat → Nat → Value} (h : CxAt (ClAt W) W pv cv c bc oc bp op qv bq oq lv) : CxAt (ClAt W') W' pv cv c bc oc bp op qv bq oq lv := by
  refine ⟨h.cs.keep hb, fun t ht => ?_, h.ps.keep hb, fun j hj => ?_, fun j hj => (h.qs j hj).keep hb, fun j hj t ht y u hu => ?_, fun j hj t ht => (h.ls j hj t ht).keep hb⟩
  · rw [h.cs.cell hb (by omega)]; exact h.cc t ht
  · rw [h.ps.cell hb (by omega)]; exact h.pc j hj
  · rw [(h.qs j hj).cell hb (by omega)]; exact h.qc j hj t ht y u hu
/-- How much there is, down to a depth. -/
def wtS (f : List Cx → Nat) (x : S6 × List Cx) : Nat := 1 + (x.1.nm.size + x.1.v.size) / 20 + f x.2
def wtP (f : List Cx → Nat) (p : List (S6 × List Cx)) : Nat := 1 + (p.map (wtS f)).sum
def wtC (f : List Cx → Nat) (c : Cx) : Nat := 1 + c.combs.length + (c.parts.map (wtP f)).sum
def wt : Nat → List Cx → Nat
  | 0, _ => 0
  | d + 1, l => (l.map (wtC (wt d))).sum
theorem sum_take {α : Type} (f : α → Nat) {l : List α} {i : Nat} (h : i < l.length) : ((l.take (i + 1)).map f).sum = ((l.take i).map f).sum + f l[i] := by
  rw [List.take_add_one, List.getElem?_eq_getElem h, Option.toList_some, List.map_append, List.sum_append]
  simp
theorem sum_take_le {α : Type} (f : α → Nat) (l : List α) (i : Nat) : ((l.take i).map f).sum ≤ (l.map f).sum := by
  have h := congrArg (fun x => (x.map f).sum) (List.take_append_drop i l)
  simp only [List.map_append, List.sum_append] at h
  omega
end Go.Proofs.Ytdiljkmlneeboaa
