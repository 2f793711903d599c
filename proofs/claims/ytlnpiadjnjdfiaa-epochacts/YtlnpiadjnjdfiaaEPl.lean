/- The pile in memory: its row, and two items that change places. -/
import Derived.Test.YtlnpiadjnjdfiaaEXb
import Derived.Test.YtlnpiadjnjdfiaaEMa
import Derived.Deep.LoopGhost
namespace Go.Proofs.Ytlnpiadjnjdfiaa.E
open Go.RowKit
set_option maxRecDepth 100000

/-- An item: its number and its epoch. -/
abbrev It := Int × Int
def c2 (r : It) : List Value := [.int .i64 r.1, .int .i64 r.2]
def rv (r : It) : Value := .agg #[.int .i64 r.1, .int .i64 r.2]
/-- Which lies nearer to the top? -/
def bt (x y : It) : Bool := decide (x.2 < y.2 ∨ (x.2 = y.2 ∧ x.1 < y.1))
theorem bt_iff (x y : It) : bt x y = true ↔ (x.2 < y.2 ∨ (x.2 = y.2 ∧ x.1 < y.1)) := by unfold bt; rw [decide_eq_true_iff]
theorem bt_no (x y : It) : bt x y = false ↔ ¬ (x.2 < y.2 ∨ (x.2 = y.2 ∧ x.1 < y.1)) := by unfold bt; rw [decide_eq_false_iff_not]
theorem bt_ord : Ord bt := by
  refine ⟨fun x => ?_, fun x y z h1 h2 => ?_, fun x y z h1 h2 => ?_⟩
  · rw [bt_no]; omega
  · rw [bt_iff] at *; omega
  · rw [bt_no] at *; omega
theorem flat2_len (L : List It) : (L.flatMap c2).length = L.length * 2 := by
  induction L with
  | nil => rfl
  | cons s r ih => rw [List.flatMap_cons, List.length_append, ih, List.length_cons]; simp [c2]; omega
theorem flat2_at : ∀ (L : List It) (i : Nat) (h : i < L.length) (j : Nat), j < 2 → (L.flatMap c2)[i * 2 + j]? = (c2 L[i])[j]?
  | s :: r, 0, _, j, hj => by
    rw [List.flatMap_cons, Nat.zero_mul, Nat.zero_add, List.getElem?_append_left (by simpa [c2] using hj)]
    rfl
  | s :: r, i + 1, h, j, hj => by
    rw [List.flatMap_cons, List.getElem?_append_right (by simp [c2]; omega)]
    have := flat2_at r i (by simpa using h) j hj
    rw [show (i + 1) * 2 + j - (c2 s).length = i * 2 + j by simp [c2]; omega, this]
    rfl
theorem flat2_one (L : List It) : ∀ u ∈ L.flatMap c2, u.oneCell' = true := by
  intro u hu
  obtain ⟨s, _, h⟩ := List.mem_flatMap.1 hu
  simp only [c2, List.mem_cons, List.not_mem_nil, or_false] at h
  rcases h with rfl | rfl <;> rfl
theorem set_append_at {α : Type} (a b : List α) (i : Nat) (u : α) : (a ++ b).set (a.length + i) u = a ++ b.set i u := by
  rw [List.set_append, if_neg (by omega), show a.length + i - a.length = i by omega]
/-- Two stores over an item. -/
def set2 (xs : List Value) (o : Nat) (r : It) : List Value := (xs.set o (.int .i64 r.1)).set (o + 1) (.int .i64 r.2)
theorem set2_app (a b : List Value) (o : Nat) (r : It) : set2 (a ++ b) (a.length + o) r = a ++ set2 b o r := by
  unfold set2
  simp only [Nat.add_assoc, set_append_at]
theorem set2_flat : ∀ (L : List It) (i : Nat) (_ : i < L.length) (r : It), set2 (L.flatMap c2) (i * 2) r = (L.set i r).flatMap c2
  | s :: l, 0, _, r => by
    rw [List.flatMap_cons, List.set_cons_zero, List.flatMap_cons]
    simp [set2, c2]
  | s :: l, i + 1, h, r => by
    rw [List.flatMap_cons, List.set_cons_succ, List.flatMap_cons, ← set2_flat l i (by simpa using h) r, ← set2_app]
    rw [show (c2 s).length + i * 2 = (i + 1) * 2 by simp [c2]; omega]
theorem ownsRow_set {w : World} {B size n g : Nat} {e : TypeId} {v : Value} {xs : List Value} (h : w.ownsRow B e size v n xs) (hg : v.ownBlock = some g) (off : Nat) (u : Value) : (w.setCell ⟨g, off, none⟩ u).ownsRow B e size v n (xs.set off u) := by
  obtain ⟨hl, hc⟩ := h
  refine ⟨by rw [List.length_set]; exact hl, ?_⟩
  rcases hc with ⟨rfl, _⟩ | ⟨k, cap, cur, rfl, h1, h2, h3, h4, h5, h6⟩
  · cases hg
  · cases hg
    refine .inr ⟨k, cap, cur.setIfInBounds off u, rfl, h1, heap_setCell_same w k off cur e u h2, h3, h4, by simp [h5], ?_⟩
    rw [Array.toList_setIfInBounds, ← h6, List.take_set]
/-- Two stores into a block. -/
def put2 (w : World) (g o : Nat) (r : It) : World := (w.setCell ⟨g, o, none⟩ (.int .i64 r.1)).setCell ⟨g, o + 1, none⟩ (.int .i64 r.2)
theorem own_put2 {w : World} {B n g : Nat} {e : TypeId} {v : Value} {xs : List Value} (h : w.ownsRow B e 2 v n xs) (hg : v.ownBlock = some g) (o : Nat) (r : It) : (put2 w g o r).ownsRow B e 2 v n (set2 xs o r) := by
  unfold put2 set2
  exact ownsRow_set (ownsRow_set h hg _ _) hg _ _

/-- The pile's row in block g, the rest of it spare. -/
def Pl (w : World) (g cap : Nat) (L : List It) : Prop := w.ownsRow 0 48 2 (.slice (some ⟨g, 0, none⟩) L.length cap) L.length (L.flatMap c2)
theorem Pl.at {w : World} {g cap : Nat} {L : List It} (h : Pl w g cap L) {i : Nat} (hi : i < L.length) : w.cell? ⟨g, i * 2, none⟩ = some (.int .i64 L[i].1) ∧ w.cell? ⟨g, i * 2 + 1, none⟩ = some (.int .i64 L[i].2) := by
  have hc := fun j (hj : j < 2) (u : Value) (hu : (c2 L[i])[j]? = some u) => h.cells (g := g) rfl (i * 2 + j) u ((flat2_at L i hi j hj).trans hu)
  simp only [Addr.add_mid, Nat.zero_add] at hc
  refine ⟨?_, ?_⟩
  · have := hc 0 (by omega) _ rfl
    rwa [Nat.add_zero] at this
  · exact hc 1 (by omega) _ rfl
theorem Pl.cap_le {w : World} {g cap : Nat} {L : List It} (h : Pl w g cap L) : L.length ≤ cap ∧ cap ≤ maxLen ∧ g < w.heap.size := by
  rcases h.2 with ⟨e, _⟩ | ⟨k, c, cur, e, h1, h2, h3, h4, _⟩
  · cases e
  · cases e
    exact ⟨h3, h4, (Array.getElem?_eq_some_iff.1 h2).1⟩
theorem Pl.unfrozen {w : World} {g cap : Nat} {L : List It} (h : Pl w g cap L) (o : Nat) : w.frozen? ⟨g, o, none⟩ = false := by
  rcases h.2 with ⟨e, _⟩ | ⟨k, c, cur, e, h1, h2, h3, h4, _⟩
  · cases e
  · cases e
    simp [World.frozen?, h2]
theorem Pl.put {w : World} {g cap : Nat} {L : List It} (h : Pl w g cap L) {i : Nat} (hi : i < L.length) (r : It) : Pl (put2 w g (i * 2) r) g cap (L.set i r) := by
  have := own_put2 h rfl (i * 2) r
  rw [set2_flat L i hi r] at this
  unfold Pl
  rw [List.length_set]
  exact this
theorem Pl.keep {w w' : World} {g cap : Nat} {L : List It} (h : Pl w g cap L) (hb : w'.heap[g]? = w.heap[g]?) : Pl w' g cap L := ownsRow_keep h fun k _ e => by
  have e : g = k := Option.some.inj e
  subst e
  exact hb

/-- cmp.Compare, plainly. -/
def cmpZ (x y : Int) : Int := if x < y then -1 else if x > y then 1 else 0
theorem nan_any (W : World) (x : Int) : Calls Try.prog 85 #[.int .i64 x] W fun e w' => e = .returned (.bool false) ∧ w' = W := by
  have h : (x != x) = false := by simp
  go_enter Try.func85, Try.ntmps85
  go_wp2
  go_ret
  exact ⟨rfl, rfl⟩
theorem cmp_any (W : World) (x y : Int) : Calls Try.prog 67 #[.int .i64 x, .int .i64 y] W fun e w' => e = .returned (.int .i64 (cmpZ x y)) ∧ w' = W := by
  have hn : ∀ x, Hid (Calls Try.prog 85 #[.int .i64 x] W fun e w' => e = .returned (.bool false) ∧ w' = W) := nan_any W
  by_cases h1 : x < y
  · have HR : Hid (cmpZ x y = -1) := by show _ = _; unfold cmpZ; rw [if_pos h1]
    generalize cmpZ x y = r at *
    go_enter Try.func67, Try.ntmps67
    go_wp2_with (go_at_call 85; refine (hn _).out.mono ?_; rintro e w' ⟨rfl, rfl⟩)
    all_goals go_ret
    all_goals exact ⟨by rw [HR.out]; rfl, rfl⟩
  · by_cases h2 : x > y
    · have HR : Hid (cmpZ x y = 1) := by show _ = _; unfold cmpZ; rw [if_neg h1, if_pos h2]
      generalize cmpZ x y = r at *
      go_enter Try.func67, Try.ntmps67
      go_wp2_with (go_at_call 85; refine (hn _).out.mono ?_; rintro e w' ⟨rfl, rfl⟩)
      all_goals go_ret
      all_goals exact ⟨by rw [HR.out]; rfl, rfl⟩
    · have HR : Hid (cmpZ x y = 0) := by show _ = _; unfold cmpZ; rw [if_neg h1, if_neg h2]
      generalize cmpZ x y = r at *
      go_enter Try.func67, Try.ntmps67
      go_wp2_with (go_at_call 85; refine (hn _).out.mono ?_; rintro e w' ⟨rfl, rfl⟩)
      all_goals go_ret
      all_goals exact ⟨by rw [HR.out]; rfl, rfl⟩
/-- cmp.Or of two. -/
def orZ (x y : Int) : Int := if (x != 0) = true then x else y
theorem or_any {w : World} {g : Nat} {x y : Int} (h0 : w.cell? ⟨g, 0, none⟩ = some (.int .i64 x)) (h1 : w.cell? ⟨g, 1, none⟩ = some (.int .i64 y)) : Calls Try.prog 66 #[.slice (some ⟨g, 0, none⟩) 2 2] w fun e w' => e = .returned (.int .i64 (orZ x y)) ∧ w' = w := by
  have HX := hid_mk h0
  have HY := hid_mk h1
  clear h0 h1
  go_enter Try.func66, Try.ntmps66
  go_wp2
  go_loopw [8] (fun p wr => (p = .int .i64 0 ∨ (x = 0 ∧ p = .int .i64 1) ∨ (x = 0 ∧ y = 0 ∧ p = .int .i64 2)) ∧ wr = w) (fun p _ => 2 - (intOf p).toNat)
  case atStart => exact ⟨.inl rfl, rfl⟩
  case round =>
    obtain ⟨hp, rfl⟩ := hrel
    rcases hp with rfl | ⟨rfl, rfl⟩ | ⟨rfl, rfl, rfl⟩
    · have h0 := HX.out
      by_cases hx : (x != 0) = true
      · have HR : Hid (orZ x y = x) := by show _ = _; unfold orZ; rw [if_pos hx]
        go_wp2
        go_ret
        exact ⟨by rw [HR.out]; rfl, rfl⟩
      · have hx0 : x = 0 := by simpa using hx
        subst hx0
        clear hx
        go_wp2
        refine ⟨by simp, ?_⟩
        simp [intOf]
    · have h0 := HY.out
      by_cases hx : (y != 0) = true
      · have HR : Hid (orZ 0 y = y) := by show _ = _; unfold orZ; simp
        go_wp2
        go_ret
        exact ⟨by rw [HR.out]; rfl, rfl⟩
      · have hx0 : y = 0 := by simpa using hx
        subst hx0
        clear hx
        go_wp2
        refine ⟨by simp, ?_⟩
        simp [intOf]
    · go_wp2
      go_ret
      exact ⟨rfl, rfl⟩
end Go.Proofs.Ytlnpiadjnjdfiaa.E
