/- The pile in memory: its row, and two rows that change places. -/
import Derived.Test.YtmpppijgjbfolaaCEn
import Derived.Test.YtmpppijgjbfolaaCMa
import Derived.Deep.LoopGhost
namespace Go.Proofs.Ytmpppijgjbfolaa.C
open Go.RowKit
set_option maxRecDepth 100000

abbrev R9 := E8 × Int
def c9 (r : R9) : List Value := [.string r.1.n, .string r.1.v, .int .i64 r.1.o, .bool r.1.im, .int .i64 r.1.a, .int .i64 r.1.b, .int .i64 r.1.c, .int .i64 r.1.k, .int .i64 r.2]
theorem flat9_len (L : List R9) : (L.flatMap c9).length = L.length * 9 := by
  induction L with
  | nil => rfl
  | cons s r ih => rw [List.flatMap_cons, List.length_append, ih, List.length_cons]; simp [c9]; omega
theorem flat9_at : ∀ (L : List R9) (i : Nat) (h : i < L.length) (j : Nat), j < 9 → (L.flatMap c9)[i * 9 + j]? = (c9 L[i])[j]?
  | s :: r, 0, _, j, hj => by
    rw [List.flatMap_cons, Nat.zero_mul, Nat.zero_add, List.getElem?_append_left (by simpa [c9] using hj)]
    rfl
  | s :: r, i + 1, h, j, hj => by
    rw [List.flatMap_cons, List.getElem?_append_right (by simp [c9]; omega)]
    have := flat9_at r i (by simpa using h) j hj
    rw [show (i + 1) * 9 + j - (c9 s).length = i * 9 + j by simp [c9]; omega, this]
    rfl
theorem flat9_one (L : List R9) : ∀ u ∈ L.flatMap c9, u.oneCell' = true := by
  intro u hu
  obtain ⟨s, _, h⟩ := List.mem_flatMap.1 hu
  simp only [c9, List.mem_cons, List.not_mem_nil, or_false] at h
  rcases h with rfl | rfl | rfl | rfl | rfl | rfl | rfl | rfl | rfl <;> rfl
theorem set_append_at {α : Type} (a b : List α) (i : Nat) (u : α) : (a ++ b).set (a.length + i) u = a ++ b.set i u := by
  rw [List.set_append, if_neg (by omega), show a.length + i - a.length = i by omega]
/-- Nine stores over an item. -/
def set9 (xs : List Value) (o : Nat) (r : R9) : List Value := ((((((((xs.set o (.string r.1.n)).set (o + 1) (.string r.1.v)).set (o + 2) (.int .i64 r.1.o)).set (o + 3) (.bool r.1.im)).set (o + 4) (.int .i64 r.1.a)).set (o + 5) (.int .i64 r.1.b)).set (o + 6) (.int .i64 r.1.c)).set (o + 7) (.int .i64 r.1.k)).set (o + 8) (.int .i64 r.2)
theorem set9_app (a b : List Value) (o : Nat) (r : R9) : set9 (a ++ b) (a.length + o) r = a ++ set9 b o r := by
  unfold set9
  simp only [Nat.add_assoc, set_append_at]
theorem set9_flat : ∀ (L : List R9) (i : Nat) (_ : i < L.length) (r : R9), set9 (L.flatMap c9) (i * 9) r = (L.set i r).flatMap c9
  | s :: l, 0, _, r => by
    rw [List.flatMap_cons, List.set_cons_zero, List.flatMap_cons]
    simp [set9, c9]
  | s :: l, i + 1, h, r => by
    rw [List.flatMap_cons, List.set_cons_succ, List.flatMap_cons, ← set9_flat l i (by simpa using h) r, ← set9_app]
    rw [show (c9 s).length + i * 9 = (i + 1) * 9 by simp [c9]; omega]
theorem ownsRow_set {w : World} {B size n g : Nat} {e : TypeId} {v : Value} {xs : List Value} (h : w.ownsRow B e size v n xs) (hg : v.ownBlock = some g) (off : Nat) (u : Value) : (w.setCell ⟨g, off, none⟩ u).ownsRow B e size v n (xs.set off u) := by
  obtain ⟨hl, hc⟩ := h
  refine ⟨by rw [List.length_set]; exact hl, ?_⟩
  rcases hc with ⟨rfl, _⟩ | ⟨k, cap, cur, rfl, h1, h2, h3, h4, h5, h6⟩
  · cases hg
  · cases hg
    refine .inr ⟨k, cap, cur.setIfInBounds off u, rfl, h1, heap_setCell_same w k off cur e u h2, h3, h4, by simp [h5], ?_⟩
    rw [Array.toList_setIfInBounds, ← h6, List.take_set]
/-- Nine stores into a block. -/
def put9 (w : World) (g o : Nat) (r : R9) : World := ((((((((w.setCell ⟨g, o, none⟩ (.string r.1.n)).setCell ⟨g, o + 1, none⟩ (.string r.1.v)).setCell ⟨g, o + 2, none⟩ (.int .i64 r.1.o)).setCell ⟨g, o + 3, none⟩ (.bool r.1.im)).setCell ⟨g, o + 4, none⟩ (.int .i64 r.1.a)).setCell ⟨g, o + 5, none⟩ (.int .i64 r.1.b)).setCell ⟨g, o + 6, none⟩ (.int .i64 r.1.c)).setCell ⟨g, o + 7, none⟩ (.int .i64 r.1.k)).setCell ⟨g, o + 8, none⟩ (.int .i64 r.2)
theorem own_put9 {w : World} {B n g : Nat} {e : TypeId} {v : Value} {xs : List Value} (h : w.ownsRow B e 9 v n xs) (hg : v.ownBlock = some g) (o : Nat) (r : R9) : (put9 w g o r).ownsRow B e 9 v n (set9 xs o r) := by
  unfold put9 set9
  exact ownsRow_set (ownsRow_set (ownsRow_set (ownsRow_set (ownsRow_set (ownsRow_set (ownsRow_set (ownsRow_set (ownsRow_set h hg _ _) hg _ _) hg _ _) hg _ _) hg _ _) hg _ _) hg _ _) hg _ _) hg _ _
theorem put9_below {w a : World} {B g : Nat} (h : Below B a w) (hg : B ≤ g) (o : Nat) (r : R9) : Below B a (put9 w g o r) := by
  unfold put9
  exact ((((((((h.setCell (p := ⟨g, _, none⟩) hg _).setCell (p := ⟨g, _, none⟩) hg _).setCell (p := ⟨g, _, none⟩) hg _).setCell (p := ⟨g, _, none⟩) hg _).setCell (p := ⟨g, _, none⟩) hg _).setCell (p := ⟨g, _, none⟩) hg _).setCell (p := ⟨g, _, none⟩) hg _).setCell (p := ⟨g, _, none⟩) hg _).setCell (p := ⟨g, _, none⟩) hg _

/-- The pile's row: n of them in block g, the rest of it spare. -/
def Pl (w : World) (n0 g cap : Nat) (L : List R9) : Prop := w.ownsRow n0 69 9 (.slice (some ⟨g, 0, none⟩) L.length cap) L.length (L.flatMap c9)
theorem Pl.at {w : World} {n0 g cap : Nat} {L : List R9} (h : Pl w n0 g cap L) {i : Nat} (hi : i < L.length) : (w.cell? ⟨g, i * 9, none⟩ = some (.string L[i].1.n) ∧ w.cell? ⟨g, i * 9 + 1, none⟩ = some (.string L[i].1.v) ∧ w.cell? ⟨g, i * 9 + 2, none⟩ = some (.int .i64 L[i].1.o) ∧ w.cell? ⟨g, i * 9 + 3, none⟩ = some (.bool L[i].1.im) ∧ w.cell? ⟨g, i * 9 + 4, none⟩ = some (.int .i64 L[i].1.a) ∧ w.cell? ⟨g, i * 9 + 5, none⟩ = some (.int .i64 L[i].1.b) ∧ w.cell? ⟨g, i * 9 + 6, none⟩ = some (.int .i64 L[i].1.c) ∧ w.cell? ⟨g, i * 9 + 7, none⟩ = some (.int .i64 L[i].1.k) ∧ w.cell? ⟨g, i * 9 + 8, none⟩ = some (.int .i64 L[i].2)) := by
  have hc := fun j (hj : j < 9) (u : Value) (hu : (c9 L[i])[j]? = some u) => h.cells (g := g) rfl (i * 9 + j) u ((flat9_at L i hi j hj).trans hu)
  simp only [Addr.add_mid, Nat.zero_add] at hc
  refine ⟨?_, ?_, ?_, ?_, ?_, ?_, ?_, ?_, ?_⟩
  · have := hc 0 (by omega) _ rfl
    rwa [Nat.add_zero] at this
  · exact hc 1 (by omega) _ rfl
  · exact hc 2 (by omega) _ rfl
  · exact hc 3 (by omega) _ rfl
  · exact hc 4 (by omega) _ rfl
  · exact hc 5 (by omega) _ rfl
  · exact hc 6 (by omega) _ rfl
  · exact hc 7 (by omega) _ rfl
  · exact hc 8 (by omega) _ rfl
theorem Pl.cap_le {w : World} {n0 g cap : Nat} {L : List R9} (h : Pl w n0 g cap L) : L.length ≤ cap ∧ cap ≤ maxLen ∧ n0 ≤ g ∧ g < w.heap.size := by
  rcases h.2 with ⟨e, _⟩ | ⟨k, c, cur, e, h1, h2, h3, h4, _⟩
  · cases e
  · cases e
    exact ⟨h3, h4, h1, (Array.getElem?_eq_some_iff.1 h2).1⟩
theorem Pl.unfrozen {w : World} {n0 g cap : Nat} {L : List R9} (h : Pl w n0 g cap L) (o : Nat) : w.frozen? ⟨g, o, none⟩ = false := by
  rcases h.2 with ⟨e, _⟩ | ⟨k, c, cur, e, h1, h2, h3, h4, _⟩
  · cases e
  · cases e
    simp [World.frozen?, h2]
theorem Pl.put {w : World} {n0 g cap : Nat} {L : List R9} (h : Pl w n0 g cap L) {i : Nat} (hi : i < L.length) (r : R9) : Pl (put9 w g (i * 9) r) n0 g cap (L.set i r) := by
  have := own_put9 h rfl (i * 9) r
  rw [set9_flat L i hi r] at this
  unfold Pl
  rw [List.length_set]
  exact this
theorem Pl.keep {w w' : World} {n0 g cap : Nat} {L : List R9} (h : Pl w n0 g cap L) (hb : w'.heap[g]? = w.heap[g]?) : Pl w' n0 g cap L := ownsRow_keep h fun k _ e => by
  have e : g = k := Option.some.inj e
  subst e
  exact hb
end Go.Proofs.Ytmpppijgjbfolaa.C
