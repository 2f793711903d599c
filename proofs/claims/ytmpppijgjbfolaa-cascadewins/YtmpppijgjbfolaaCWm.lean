/- Who wins, plainly. -/
import Derived.Test.YtmpppijgjbfolaaCFd
namespace Go.Proofs.Ytmpppijgjbfolaa.C
open Go.RowKit
set_option maxRecDepth 100000

theorem lessE_iff (x y : E8) : lessE x y = true ↔ rankZ x.o x.im < rankZ y.o y.im ∨ rankZ x.o x.im = rankZ y.o y.im ∧ (x.a < y.a ∨ x.a = y.a ∧ (x.b < y.b ∨ x.b = y.b ∧ (x.c < y.c ∨ x.c = y.c ∧ x.k < y.k))) := by
  unfold lessE specNe specLt
  generalize rankZ x.o x.im = rx
  generalize rankZ y.o y.im = ry
  generalize x.a = xa
  generalize y.a = ya
  generalize x.b = xb
  generalize y.b = yb
  generalize x.c = xc
  generalize y.c = yc
  by_cases h1 : rx = ry
  · subst h1
    by_cases h2 : xa = ya
    · subst h2
      by_cases h3 : xb = yb
      · subst h3
        by_cases h4 : xc = yc
        · subst h4
          simp
        · simp [h4]
      · simp [h3]
    · simp [h2]
  · simp [h1]
theorem bt_iff (x y : R9) : bt x y = true ↔ lessE y.1 x.1 = true ∨ (¬ lessE x.1 y.1 = true ∧ ¬ lessE y.1 x.1 = true ∧ y.2 < x.2) := by
  unfold bt
  cases h1 : lessE x.1 y.1 <;> cases h2 : lessE y.1 x.1 <;> simp
  rw [lessE_iff] at h1 h2
  omega
theorem false_iff {b : Bool} {p : Prop} (h : b = true ↔ p) : b = false ↔ ¬ p := by
  rw [← h]; cases b <;> simp
theorem bt_ord : Ord bt := by
  refine ⟨fun x => ?_, fun x y z h1 h2 => ?_, fun x y z h1 h2 => ?_⟩
  · rw [false_iff (bt_iff x x), lessE_iff]
    omega
  · rw [bt_iff, lessE_iff, lessE_iff] at *
    omega
  · rw [false_iff (bt_iff _ _), lessE_iff, lessE_iff] at *
    omega
/-- Two rows of which neither beats the other stand at one place. -/
theorem bt_same {x y : R9} (h1 : bt x y = false) (h2 : bt y x = false) : x.2 = y.2 := by
  rw [false_iff (bt_iff _ _), lessE_iff, lessE_iff] at *
  omega
theorem tagF_mem : ∀ (l : List E8) (i : Nat) (x : R9), x ∈ tagF l i → (i : Int) ≤ x.2 ∧ x.2 < i + l.length
  | [], i, x, h => by simp [tagF] at h
  | y :: r, i, x, h => by
    simp only [tagF, List.mem_cons] at h
    rcases h with rfl | h
    · simp; omega
    · have := tagF_mem r (i + 1) x h
      simp only [List.length_cons]
      omega
theorem tagF_one : ∀ (l : List E8) (i : Nat) (x y : R9), x ∈ tagF l i → y ∈ tagF l i → x.2 = y.2 → x = y
  | [], i, x, y, h, _, _ => by simp [tagF] at h
  | z :: r, i, x, y, hx, hy, e => by
    simp only [tagF, List.mem_cons] at hx hy
    rcases hx with rfl | hx <;> rcases hy with rfl | hy
    · rfl
    · have := tagF_mem r (i + 1) y hy
      simp at e; omega
    · have := tagF_mem r (i + 1) x hx
      simp at e; omega
    · exact tagF_one r (i + 1) x y hx hy e
/-- The winner: a later one wins but over one that it is less than. -/
def winF : List E8 → Option E8 → Option E8
  | [], a => a
  | x :: r, none => winF r (some x)
  | x :: r, some a => winF r (some (if lessE x a = true then a else x))
theorem winF_top : ∀ (l : List E8) (i : Nat) (a : R9), a.2 < i → ∃ t, winF l (some a.1) = some t.1 ∧ t ∈ a :: tagF l i ∧ ∀ x ∈ a :: tagF l i, bt x t = false
  | [], i, a, h => ⟨a, rfl, by simp, fun x hx => by
    simp [tagF] at hx
    rw [hx]
    exact bt_ord.irr a⟩
  | y :: r, i, a, h => by
    cases hl : lessE y a.1 with
    | true =>
      obtain ⟨t, h1, h2, h3⟩ := winF_top r (i + 1) a (by omega)
      refine ⟨t, by simp only [winF, hl, if_true]; exact h1, ?_, fun x hx => ?_⟩
      · simp only [tagF, List.mem_cons] at h2 ⊢
        rcases h2 with h2 | h2
        · exact .inl h2
        · exact .inr (.inr h2)
      · simp only [tagF, List.mem_cons] at hx
        rcases hx with e | e | hx
        · rw [e]; exact h3 a (by simp)
        · rw [e]
          have hya : bt (y, (i : Int)) a = false := by
            rw [false_iff (bt_iff _ _)]
            rw [lessE_iff] at hl
            rw [lessE_iff, lessE_iff]
            dsimp only
            omega
          exact bt_ord.neg _ _ _ (h3 a (by simp)) hya
        · exact h3 _ (by simp [hx])
    | false =>
      obtain ⟨t, h1, h2, h3⟩ := winF_top r (i + 1) (y, (i : Int)) (by simp; omega)
      refine ⟨t, by simp only [winF, hl, Bool.false_eq_true, if_false]; exact h1, ?_, fun x hx => ?_⟩
      · simp only [tagF, List.mem_cons] at h2 ⊢
        exact .inr h2
      · simp only [tagF, List.mem_cons] at hx
        rcases hx with e | e | hx
        · rw [e]
          have hay : bt a (y, (i : Int)) = false := by
            rw [false_iff (bt_iff _ _)]
            have hl := (false_iff (lessE_iff _ _)).1 hl
            rw [lessE_iff, lessE_iff]
            dsimp only
            omega
          exact bt_ord.neg _ _ _ (h3 (y, (i : Int)) (by simp)) hay
        · rw [e]; exact h3 (y, (i : Int)) (by simp)
        · exact h3 _ (by simp [hx])
/-- The top of a heap of all is the winner. -/
theorem win_of_top {l : List E8} {K : List R9} (hp : K.Perm (tagF l 0)) (hh : HeapL bt K.length K) (h0 : 0 < K.length) : winF l none = some (K[0]'h0).1 := by
  cases l with
  | nil =>
    have := hp.length_eq
    simp [tagF] at this
    rw [this] at h0
    simp at h0
  | cons y r =>
    obtain ⟨t, h1, h2, h3⟩ := winF_top r 1 (y, 0) (by show (0 : Int) < 1; decide)
    have hw : winF (y :: r) none = some t.1 := h1
    rw [hw]
    have hm : K[0] ∈ tagF (y :: r) 0 := hp.mem_iff.1 (List.getElem_mem h0)
    have e0 : tagF (y :: r) 0 = (y, 0) :: tagF r 1 := rfl
    rw [e0] at hm
    have a1 : bt K[0] t = false := h3 _ hm
    have a2 : bt t K[0] = false := by
      have ht : t ∈ K := hp.mem_iff.2 (by rw [e0]; exact h2)
      obtain ⟨j, hj, rfl⟩ := List.getElem_of_mem ht
      exact hh.top bt_ord (Nat.le_refl _) (List.getElem?_eq_getElem h0) j _ hj (List.getElem?_eq_getElem hj)
    have e : K[0] = t := tagF_one (y :: r) 0 _ _ (by rw [e0]; exact hm) (by rw [e0]; exact h2) (bt_same a1 a2)
    rw [e]
theorem winF_none (l : List E8) : winF l none = none ↔ l = [] := by
  cases l with
  | nil => simp [winF]
  | cons y r =>
    obtain ⟨t, h1, _⟩ := winF_top r 1 (y, 0) (by show (0 : Int) < 1; decide)
    have hw : winF (y :: r) none = some t.1 := h1
    simp [hw]
theorem winF_app : ∀ (a b : List E8) (x : Option E8), winF (a ++ b) x = winF b (winF a x)
  | [], b, x => rfl
  | y :: r, b, none => by simp only [List.cons_append, winF]; exact winF_app r b _
  | y :: r, b, some z => by simp only [List.cons_append, winF]; exact winF_app r b _
end Go.Proofs.Ytmpppijgjbfolaa.C
