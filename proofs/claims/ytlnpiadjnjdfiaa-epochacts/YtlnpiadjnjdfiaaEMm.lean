/- The least that is held, plainly. -/
import Derived.Test.YtlnpiadjnjdfiaaEAc
namespace Go.Proofs.Ytlnpiadjnjdfiaa.E
open Go.RowKit
set_option maxRecDepth 100000

def LSpec (l : List Int) (p : Int × Bool) : Prop := (p.2 = false ∧ ∀ e ∈ l, e ≤ 0) ∨ (p.2 = true ∧ p.1 ∈ l ∧ 0 < p.1 ∧ ∀ e ∈ l, 0 < e → p.1 ≤ e)
theorem leS_spec {l : List Int} {p : Int × Bool} (h : LSpec l p) (e : Int) : LSpec (l ++ [e]) (leS p e) := by
  unfold leS
  by_cases hc : e > 0 ∧ (p.2 = false ∨ e < p.1)
  · rw [if_pos hc]
    refine .inr ⟨rfl, by simp, hc.1, fun x hx h0 => ?_⟩
    rcases List.mem_append.1 hx with hx | hx
    · rcases h with ⟨_, h2⟩ | ⟨h1, _, _, h4⟩
      · have := h2 x hx; omega
      · have h5 := h4 x hx h0
        rcases hc.2 with h6 | h6
        · rw [h1] at h6; cases h6
        · show e ≤ x
          omega
    · obtain rfl : x = e := by simpa using hx
      exact Int.le_refl _
  · rw [if_neg hc]
    rcases h with ⟨h1, h2⟩ | ⟨h1, h2, h3, h4⟩
    · refine .inl ⟨h1, fun x hx => ?_⟩
      rcases List.mem_append.1 hx with hx | hx
      · exact h2 x hx
      · obtain rfl : x = e := by simpa using hx
        by_cases h0 : x > 0
        · exact absurd ⟨h0, .inl h1⟩ hc
        · omega
    · refine .inr ⟨h1, List.mem_append_left _ h2, h3, fun x hx h0 => ?_⟩
      rcases List.mem_append.1 hx with hx | hx
      · exact h4 x hx h0
      · obtain rfl : x = e := by simpa using hx
        by_cases h5 : x < p.1
        · exact absurd ⟨h0, .inr h5⟩ hc
        · omega
theorem fold_spec : ∀ (l pre : List Int) (p : Int × Bool), LSpec pre p → LSpec (pre ++ l) (l.foldl leS p)
  | [], pre, p, h => by simpa using h
  | e :: r, pre, p, h => by
    have := fold_spec r (pre ++ [e]) (leS p e) (leS_spec h e)
    rw [List.append_assoc] at this
    exact this
theorem least_spec (l : List Int) : LSpec l (leastZ l) := by
  have := fold_spec l [] (0, false) (.inl ⟨rfl, by simp⟩)
  exact this
/-- What the slots hold is no more than the epoch. -/
structure MI (now : Int) (S : List Int) (last : Int) : Prop where
  one : 1 ≤ now
  all : ∀ s ∈ S, 0 ≤ s ∧ s ≤ now
  lo : 0 ≤ last
  hi : last ≤ now
theorem MI.publish {now : Int} {S : List Int} {last : Int} (h : MI now S last) : MI (now + 1) S last := ⟨by have := h.one; omega, fun s hs => by have := h.all s hs; omega, h.lo, by have := h.hi; omega⟩
theorem MI.set {now : Int} {S : List Int} {last : Int} (h : MI now S last) (k : Nat) (x : Int) (h0 : 0 ≤ x) (h1 : x ≤ now) : MI now (S.set k x) last := ⟨h.one, fun s hs => by
  rcases List.mem_or_eq_of_mem_set hs with hs | rfl
  · exact h.all s hs
  · exact ⟨h0, h1⟩, h.lo, h.hi⟩
theorem MI.last {now : Int} {S : List Int} {last : Int} (h : MI now S last) : MI now S now := ⟨h.one, h.all, by have := h.one; omega, Int.le_refl _⟩
theorem mem_take_of {S : List Int} {n k : Nat} {s : Int} (hk : k < n) (hs : S[k]? = some s) : s ∈ S.take n := by
  have h : (S.take n)[k]? = some s := by rw [List.getElem?_take_of_lt hk]; exact hs
  exact List.mem_of_getElem? h
theorem of_mem_take {S : List Int} {n : Nat} {s : Int} (h : s ∈ S.take n) : ∃ k, k < n ∧ S[k]? = some s := by
  obtain ⟨k, hk, e⟩ := List.mem_iff_getElem.1 h
  have hkn : k < n := by rw [List.length_take] at hk; omega
  refine ⟨k, hkn, ?_⟩
  have : (S.take n)[k]? = some s := by rw [List.getElem?_eq_getElem hk, e]
  rwa [List.getElem?_take_of_lt hkn] at this
/-- What is held is no less than the least. -/
theorem min_le {X : EX} {k : Nat} {s : Int} (hk : k < X.n) (hs : X.S[k]? = some s) (h0 : 0 < s) : minZ X ≤ s := by
  have hm := mem_take_of hk hs
  unfold minZ
  rcases least_spec (X.S.take X.n) with ⟨h1, h2⟩ | ⟨h1, h2, h3, h4⟩
  · have := h2 s hm; omega
  · rw [if_pos h1]; exact h4 s hm h0
/-- Is a slot held, among the first k? Is the least? -/
def anyP (S : List Int) (k : Nat) : Bool := (S.take k).any fun s => decide (s > 0)
def anyM (X : EX) (k : Nat) : Bool := (X.S.take k).any fun s => decide (s > 0) && decide (s = minZ X)
theorem anyP_succ {S : List Int} {k : Nat} {s : Int} (hs : S[k]? = some s) : anyP S (k + 1) = (anyP S k || decide (s > 0)) := by
  unfold anyP
  rw [List.take_add_one, hs, List.any_append]
  simp
theorem anyM_succ {X : EX} {k : Nat} {s : Int} (hs : X.S[k]? = some s) : anyM X (k + 1) = (anyM X k || (decide (s > 0) && decide (s = minZ X))) := by
  unfold anyM
  rw [List.take_add_one, hs, List.any_append]
  simp
theorem any_same (X : EX) : anyM X X.n = anyP X.S X.n ∧ (anyP X.S X.n = false → minZ X = X.now) := by
  unfold anyM anyP
  rcases least_spec (X.S.take X.n) with ⟨h1, h2⟩ | ⟨h1, h2, h3, h4⟩
  · have e1 : (X.S.take X.n).any (fun s => decide (s > 0)) = false := by
      rw [List.any_eq_false]
      intro s hs
      have := h2 s hs
      simp; omega
    have e2 : (X.S.take X.n).any (fun s => decide (s > 0) && decide (s = minZ X)) = false := by
      rw [List.any_eq_false]
      intro s hs
      have := h2 s hs
      simp; omega
    refine ⟨by rw [e1, e2], fun _ => ?_⟩
    unfold minZ
    rw [h1]
    rfl
  · have e1 : (X.S.take X.n).any (fun s => decide (s > 0)) = true := by
      rw [List.any_eq_true]
      exact ⟨_, h2, by simpa using h3⟩
    have e2 : (X.S.take X.n).any (fun s => decide (s > 0) && decide (s = minZ X)) = true := by
      rw [List.any_eq_true]
      refine ⟨_, h2, ?_⟩
      unfold minZ
      rw [if_pos h1]
      simpa using h3
    exact ⟨by rw [e1, e2], fun h => by rw [e1] at h; cases h⟩
end Go.Proofs.Ytlnpiadjnjdfiaa.E
