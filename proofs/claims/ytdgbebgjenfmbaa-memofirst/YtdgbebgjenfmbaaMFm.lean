/- A table that is only put to: what is found was put, first. -/
import Derived.Test.YtdgbebgjenfmbaaMAm
namespace Go.Proofs.Ytdgbebgjenfmbaa.M
open Go.RowKit Go.Shelf
set_option maxRecDepth 100000

theorem isE_iff {x : En} {e d : Int} : isE x e d = true ↔ x.e = e ∧ x.d = d := by simp [isE]
/-- Where a search ended. -/
theorem seek_here {L : List (Option En)} {e d : Int} {h : Nat} {y : En} : ∀ (m k : Nat), seek L e d h m k = .here y → (∃ p : Nat, L[p]? = some (some y)) ∧ isE y e d = true
  | 0, _, hh => by cases hh
  | m + 1, k, hh => by
    rw [seek] at hh
    cases hq : (L[(h + k) % L.length]?).join with
    | none => rw [hq] at hh; cases hh
    | some x =>
      rw [hq] at hh
      simp only at hh
      by_cases hx : isE x e d = true
      · rw [if_pos hx] at hh
        injection hh with hh
        subst hh
        refine ⟨⟨(h + k) % L.length, ?_⟩, hx⟩
        cases ho : L[(h + k) % L.length]? with
        | none => rw [ho] at hq; cases hq
        | some o => rw [ho] at hq; exact congrArg some hq
      · rw [if_neg hx] at hh
        exact seek_here m (k + 1) hh
theorem seek_free {L : List (Option En)} {e d : Int} {h : Nat} {j : Nat} (hn : 0 < L.length) : ∀ (m k : Nat), seek L e d h m k = .free j → L[j]? = some none
  | 0, _, hh => by cases hh
  | m + 1, k, hh => by
    rw [seek] at hh
    cases hq : (L[(h + k) % L.length]?).join with
    | none =>
      rw [hq] at hh
      injection hh with hh
      have hlt := Nat.mod_lt (h + k) hn
      rw [hh] at hq hlt
      rw [List.getElem?_eq_getElem hlt] at hq ⊢
      exact congrArg some hq
    | some x =>
      rw [hq] at hh
      simp only at hh
      by_cases hx : isE x e d = true
      · rw [if_pos hx] at hh
        cases hh
      · rw [if_neg hx] at hh
        exact seek_free hn m (k + 1) hh
theorem seek_full {L : List (Option En)} {e d : Int} {h : Nat} : ∀ (m k : Nat), seek L e d h m k = .full → ∀ q, k ≤ q → q < k + m → ∃ x, L[(h + q) % L.length]? = some (some x)
  | 0, _, _ => fun q h1 h2 => by omega
  | m + 1, k, hh => by
    rw [seek] at hh
    cases hq : (L[(h + k) % L.length]?).join with
    | none => rw [hq] at hh; cases hh
    | some x =>
      rw [hq] at hh
      simp only at hh
      by_cases hx : isE x e d = true
      · rw [if_pos hx] at hh
        cases hh
      · rw [if_neg hx] at hh
        intro q h1 h2
        by_cases hqk : q = k
        · subst hqk
          refine ⟨x, ?_⟩
          cases ho : L[(h + q) % L.length]? with
          | none => rw [ho] at hq; cases hq
          | some o => rw [ho] at hq; exact congrArg some hq
        · exact seek_full m (k + 1) hh q (by omega) (by omega)
/-- An entry is put into an empty cell: who was found is found. -/
theorem seek_set {L : List (Option En)} {e d : Int} {h j : Nat} {x y : En} (hj : L[j]? = some none) : ∀ (m k : Nat), seek L e d h m k = .here y → seek (L.set j (some x)) e d h m k = .here y
  | 0, _, hh => by cases hh
  | m + 1, k, hh => by
    rw [seek] at hh ⊢
    rw [List.length_set]
    cases hq : (L[(h + k) % L.length]?).join with
    | none => rw [hq] at hh; cases hh
    | some x0 =>
      have hne : j ≠ (h + k) % L.length := fun e0 => by
        rw [← e0, hj] at hq
        cases hq
      rw [List.getElem?_set_ne hne, hq]
      rw [hq] at hh
      simp only at hh ⊢
      by_cases hx : isE x0 e d = true
      · rw [if_pos hx] at hh ⊢
        exact hh
      · rw [if_neg hx] at hh ⊢
        exact seek_set hj m (k + 1) hh
theorem seek_new {L : List (Option En)} {h j : Nat} {x : En} (hj : L[j]? = some none) : ∀ (m k : Nat), seek L x.e x.d h m k = .free j → seek (L.set j (some x)) x.e x.d h m k = .here x
  | 0, _, hh => by cases hh
  | m + 1, k, hh => by
    have hjl := (List.getElem?_eq_some_iff.1 hj).1
    rw [seek] at hh ⊢
    rw [List.length_set]
    cases hq : (L[(h + k) % L.length]?).join with
    | none =>
      rw [hq] at hh
      injection hh with hh
      rw [hh, List.getElem?_set, if_pos rfl, if_pos hjl]
      simp only [Option.join_some]
      rw [if_pos (isE_iff.2 ⟨rfl, rfl⟩)]
    | some x0 =>
      have hne : j ≠ (h + k) % L.length := fun e0 => by
        rw [← e0, hj] at hq
        cases hq
      rw [List.getElem?_set_ne hne, hq]
      rw [hq] at hh
      simp only at hh ⊢
      by_cases hx : isE x0 x.e x.d = true
      · rw [if_pos hx] at hh
        cases hh
      · rw [if_neg hx] at hh ⊢
        exact seek_new hj m (k + 1) hh
/-- All cells are used just if none is empty. -/
theorem used_all {L : List (Option En)} (h : ∀ o ∈ L, o ≠ none) : usedN L = L.length := by
  unfold usedN
  rw [List.filter_eq_self.2]
  intro o ho
  cases o with
  | none => exact absurd rfl (h none ho)
  | some x => rfl
theorem used_set : ∀ {L : List (Option En)} {j : Nat} {x : En}, L[j]? = some none → usedN (L.set j (some x)) = usedN L + 1
  | [], _, _, h => by simp at h
  | o :: L, 0, x, h => by
    have : o = none := by simpa using h
    subst this
    simp [usedN]
  | o :: L, j + 1, x, h => by
    have ih := used_set (L := L) (j := j) (x := x) (by simpa using h)
    unfold usedN at ih ⊢
    cases o <;> simp [ih]
theorem used_lt {L : List (Option En)} {j : Nat} (h : L[j]? = some none) : usedN L < L.length := by
  have h1 := used_set (x := ⟨0, 0, []⟩) h
  have h2 := used_le (L.set j (some ⟨0, 0, []⟩))
  rw [List.length_set] at h2
  omega
/-- What was put, in order. -/
structure Fst (L : List (Option En)) (xs : List En) : Prop where
  used : usedN L = xs.length
  here : ∀ x ∈ xs, find L x.e x.d = .here x
  mem : ∀ (p : Nat) (y : En), L[p]? = some (some y) → y ∈ xs
theorem Fst.zero (n : Nat) : Fst (List.replicate n none) [] := by
  refine ⟨?_, (fun x hx => absurd hx (List.not_mem_nil)), fun p y hp => ?_⟩
  · unfold usedN
    rw [List.filter_eq_nil_iff.2]
    · rfl
    · intro o ho
      rw [List.eq_of_mem_replicate ho]
      simp
  · rw [List.getElem?_replicate] at hp
    split at hp
    · injection hp with hp
      cases hp
    · cases hp
theorem Fst.found {L : List (Option En)} {xs : List En} (h : Fst L xs) {e d : Int} {y : En} (hf : find L e d = .here y) : y ∈ xs ∧ y.e = e ∧ y.d = d := by
  obtain ⟨⟨p, hp⟩, hx⟩ := seek_here _ _ hf
  exact ⟨h.mem p y hp, isE_iff.1 hx⟩
theorem Fst.free {L : List (Option En)} {xs : List En} (h : Fst L xs) {e d : Int} {j : Nat} (hf : find L e d = .free j) : L[j]? = some none ∧ xs.length < L.length ∧ ∀ x ∈ xs, ¬ (x.e = e ∧ x.d = d) := by
  have hn : 0 < L.length := by
    rcases Nat.eq_zero_or_pos L.length with h0 | h0
    · unfold find at hf
      rw [h0] at hf
      cases hf
    · exact h0
  have hj := seek_free hn _ _ hf
  refine ⟨hj, ?_, fun x hx hxe => ?_⟩
  · rw [← h.used]
    exact used_lt hj
  · have := h.here x hx
    rw [hxe.1, hxe.2, hf] at this
    cases this
theorem Fst.full {L : List (Option En)} {xs : List En} (h : Fst L xs) {e d : Int} (hf : find L e d = .full) : xs.length = L.length ∧ ∀ x ∈ xs, ¬ (x.e = e ∧ x.d = d) := by
  refine ⟨?_, fun x hx hxe => ?_⟩
  · rw [← h.used]
    refine used_all fun o ho => ?_
    obtain ⟨p, hp, rfl⟩ := List.getElem_of_mem ho
    have hh := home_lt (n := L.length) e d (by omega)
    obtain ⟨k, hk, hkp⟩ := mod_sur hh hp
    obtain ⟨x, hx⟩ := seek_full _ _ hf k (Nat.zero_le _) (by omega)
    rw [hkp, List.getElem?_eq_getElem hp] at hx
    injection hx with hx
    rw [hx]
    simp
  · have := h.here x hx
    rw [hxe.1, hxe.2, hf] at this
    cases this
theorem Fst.put {L : List (Option En)} {xs : List En} (h : Fst L xs) {x : En} {j : Nat} (hf : find L x.e x.d = .free j) : Fst (L.set j (some x)) (xs ++ [x]) := by
  obtain ⟨hj, _, _⟩ := h.free hf
  refine ⟨?_, fun y hy => ?_, fun p y hp => ?_⟩
  · rw [used_set hj, h.used, List.length_append]
    rfl
  · unfold find
    rw [List.length_set]
    rcases List.mem_append.1 hy with hy | hy
    · exact seek_set hj _ _ (h.here y hy)
    · rw [List.mem_singleton.1 hy]
      exact seek_new hj _ _ hf
  · rw [List.getElem?_set] at hp
    by_cases he : j = p
    · subst he
      rw [if_pos rfl] at hp
      split at hp
      · injection hp with hp
        injection hp with hp
        rw [hp]
        simp
      · cases hp
    · rw [if_neg he] at hp
      exact List.mem_append_left _ (h.mem p y hp)
end Go.Proofs.Ytdgbebgjenfmbaa.M
