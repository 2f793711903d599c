/- Heaps and sorted lists, plainly: what container/heap's steps do to a list, over any order. -/
import Derived.KernelRfl
import Derived.Sort.Lot0
namespace Go.Proofs.Ytlnpiadjnjdfiaa.E
set_option maxRecDepth 100000
variable {α : Type}

/-- Two items change places. -/
def swapL (l : List α) (i j : Nat) (hi : i < l.length) (hj : j < l.length) : List α := (l.set i l[j]).set j l[i]
theorem swapL_len (l : List α) (i j : Nat) (hi hj) : (swapL l i j hi hj).length = l.length := by simp [swapL]
theorem swapL_perm (l : List α) (i j : Nat) (hi : i < l.length) (hj : j < l.length) : (swapL l i j hi hj).Perm l := Go.Sort.perm_set_set l i j hi hj
theorem swapL_get (l : List α) (i j : Nat) (hi : i < l.length) (hj : j < l.length) (k : Nat) : (swapL l i j hi hj)[k]? = if k = j then some l[i] else if k = i then some l[j] else l[k]? := by
  unfold swapL
  rw [List.getElem?_set]
  by_cases h1 : k = j
  · subst h1
    simp [hj]
  · rw [if_neg (fun h => h1 h.symm), if_neg h1, List.getElem?_set]
    by_cases h2 : k = i
    · subst h2; simp [hi]
    · rw [if_neg (fun h => h2 h.symm), if_neg h2]

/-- An order by 'beats': who beats whom. -/
structure Ord (b : α → α → Bool) : Prop where
  irr : ∀ x, b x x = false
  tr : ∀ x y z, b x y = true → b y z = true → b x z = true
  neg : ∀ x y z, b y x = false → b z y = false → b z x = false
theorem Ord.asym {b : α → α → Bool} (o : Ord b) {x y : α} (h : b x y = true) : b y x = false := by
  cases hh : b y x
  · rfl
  · have := o.tr x y x h hh
    rw [o.irr] at this; cases this
/-- The parent's place. -/
def par (c : Nat) : Nat := (c - 1) / 2
/-- A heap of the first n but for what hangs at j: 'up' is at j. -/
def UpAt (b : α → α → Bool) (l : List α) (j : Nat) : Prop := j < l.length ∧
  (∀ (c : Nat) (x y : α), 0 < c → c ≠ j → l[c]? = some x → l[par c]? = some y → b x y = false) ∧
  (∀ (c : Nat) (x y : α), 0 < c → 0 < j → par c = j → l[c]? = some x → l[par j]? = some y → b x y = false)
def HeapL (b : α → α → Bool) (n : Nat) (l : List α) : Prop := ∀ (c : Nat) (x y : α), 0 < c → c < n → l[c]? = some x → l[par c]? = some y → b x y = false
theorem UpAt.done {b : α → α → Bool} {l : List α} {j : Nat} (h : UpAt b l j) (hd : j = 0 ∨ ∃ x y, l[j]? = some x ∧ l[par j]? = some y ∧ b x y = false) : HeapL b l.length l := by
  intro c x y h0 hc hx hy
  by_cases e : c = j
  · subst e
    rcases hd with h | ⟨x', y', h1, h2, h3⟩
    · omega
    · rw [hx] at h1; rw [hy] at h2; cases h1; cases h2; exact h3
  · exact h.2.1 c x y h0 e hx hy
theorem UpAt.step {b : α → α → Bool} (o : Ord b) {l : List α} {j : Nat} (h : UpAt b l j) (hj0 : 0 < j) (hp : par j < l.length) (hb : b (l[j]'h.1) (l[par j]'hp) = true) :
    UpAt b (swapL l (par j) j hp h.1) (par j) := by
  have hpj : par j < j := by unfold par; omega
  have hj := h.1
  refine ⟨by rw [swapL_len]; exact hp, ?_, ?_⟩
  · intro c x y h0 hc hx hy
    rw [swapL_get] at hx hy
    by_cases e1 : c = j
    · subst e1
      rw [if_pos rfl] at hx
      rw [if_neg (by omega), if_pos rfl] at hy
      cases hx; cases hy
      exact o.asym hb
    · rw [if_neg e1, if_neg hc] at hx
      by_cases e2 : par c = j
      · rw [if_pos e2] at hy
        cases hy
        exact h.2.2 c x _ h0 hj0 e2 hx (List.getElem?_eq_getElem hp)
      · rw [if_neg e2] at hy
        by_cases e3 : par c = par j
        · rw [if_pos e3] at hy
          cases hy
          have h1 := h.2.1 c x (l[par j]'hp) h0 e1 hx (by rw [e3]; exact List.getElem?_eq_getElem hp)
          exact o.neg _ _ _ (o.asym hb) h1
        · rw [if_neg e3] at hy
          exact h.2.1 c x y h0 e1 hx hy
  · intro c x y h0 hp0 hc hx hy
    rw [swapL_get] at hx hy
    have hpp : par (par j) < par j := by unfold par at *; omega
    rw [if_neg (by omega), if_neg (by omega)] at hy
    by_cases e1 : c = j
    · subst e1
      rw [if_pos rfl] at hx
      cases hx
      exact h.2.1 (par c) _ y hp0 (by omega) (List.getElem?_eq_getElem hp) hy
    · have hcp : c ≠ par j := by
        intro e; rw [e] at hc; omega
      rw [if_neg e1, if_neg hcp] at hx
      have h1 := h.2.1 c x (l[par j]'hp) h0 e1 hx (by rw [hc]; exact List.getElem?_eq_getElem hp)
      have h2 := h.2.1 (par j) (l[par j]'hp) y hp0 (by omega) (List.getElem?_eq_getElem hp) hy
      exact o.neg _ _ _ h2 h1
/-- 'down' is at i, among the first n. -/
def DownAt (b : α → α → Bool) (l : List α) (i n : Nat) : Prop := n ≤ l.length ∧
  (∀ (c : Nat) (x y : α), 0 < c → c < n → par c ≠ i → l[c]? = some x → l[par c]? = some y → b x y = false) ∧
  (∀ (c : Nat) (x y : α), 0 < c → c < n → 0 < i → par c = i → l[c]? = some x → l[par i]? = some y → b x y = false)
theorem DownAt.leaf {b : α → α → Bool} {l : List α} {i n : Nat} (h : DownAt b l i n) (hl : n ≤ 2 * i + 1) : HeapL b n l := by
  intro c x y h0 hc hx hy
  exact h.2.1 c x y h0 hc (by unfold par; omega) hx hy
/-- The greater of the two below is k: it does not beat i. -/
theorem DownAt.done {b : α → α → Bool} (o : Ord b) {l : List α} {i n k : Nat} (h : DownAt b l i n) (hk : k < l.length) (hi : i < l.length)
    (hm : ∀ c x, 0 < c → c < n → par c = i → l[c]? = some x → b x (l[k]'hk) = false) (hb : b (l[k]'hk) (l[i]'hi) = false) : HeapL b n l := by
  intro c x y h0 hc hx hy
  by_cases e : par c = i
  · rw [e, List.getElem?_eq_getElem hi] at hy
    cases hy
    exact o.neg _ _ _ hb (hm c x h0 hc e hx)
  · exact h.2.1 c x y h0 hc e hx hy
theorem DownAt.step {b : α → α → Bool} (o : Ord b) {l : List α} {i n k : Nat} (h : DownAt b l i n) (hk0 : 0 < k) (hk : k < n) (hkl : k < l.length) (hi : i < l.length) (hpk : par k = i)
    (hm : ∀ c x, 0 < c → c < n → par c = i → l[c]? = some x → b x (l[k]'hkl) = false) (hb : b (l[k]'hkl) (l[i]'hi) = true) : DownAt b (swapL l i k hi hkl) k n := by
  have hik : i < k := by unfold par at hpk; omega
  refine ⟨by rw [swapL_len]; exact h.1, ?_, ?_⟩
  · intro c x y h0 hc hpc hx hy
    rw [swapL_get] at hx hy
    rw [if_neg hpc] at hy
    by_cases e1 : c = k
    · subst e1
      rw [if_pos rfl] at hx
      rw [if_pos hpk] at hy
      cases hx; cases hy
      exact o.asym hb
    · rw [if_neg e1] at hx
      by_cases e2 : c = i
      · subst e2
        rw [if_pos rfl] at hx
        cases hx
        have hpi : par c ≠ c := by unfold par; omega
        rw [if_neg hpi] at hy
        exact h.2.2 k _ y hk0 hk h0 hpk (List.getElem?_eq_getElem hkl) hy
      · rw [if_neg e2] at hx
        by_cases e3 : par c = i
        · rw [if_pos e3] at hy
          cases hy
          exact hm c x h0 hc e3 hx
        · rw [if_neg e3] at hy
          exact h.2.1 c x y h0 hc e3 hx hy
  · intro c x y h0 hc _ hpc hx hy
    rw [swapL_get] at hx hy
    have hck : k < c := by unfold par at hpc; omega
    rw [if_neg (by omega), if_neg (by omega)] at hx
    rw [hpk, if_neg (by omega), if_pos rfl] at hy
    cases hy
    exact h.2.1 c x _ h0 hc (by omega) hx (by rw [hpc]; exact List.getElem?_eq_getElem hkl)
/-- The top beats, or is as good as, all others. -/
theorem HeapL.top {b : α → α → Bool} (o : Ord b) {l : List α} {n : Nat} (h : HeapL b n l) (hn : n ≤ l.length) {t : α} (h0 : l[0]? = some t) : ∀ (c : Nat) (x : α), c < n → l[c]? = some x → b x t = false := by
  intro c
  induction c using Nat.strongRecOn with
  | ind c ih =>
    intro x hc hx
    by_cases e : c = 0
    · subst e; rw [hx] at h0; cases h0; exact o.irr _
    · have hp : par c < c := by unfold par; omega
      have hpl : par c < l.length := by omega
      exact o.neg _ _ _ (ih (par c) hp _ (by omega) (List.getElem?_eq_getElem hpl)) (h c x _ (by omega) hc hx (List.getElem?_eq_getElem hpl))
end Go.Proofs.Ytlnpiadjnjdfiaa.E
