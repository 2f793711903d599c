/- Entries of one home, around: the mathematics. -/
import Derived.Test.YtdgbebgjenfmbaaMLi
namespace Go.Proofs.Ytdgbebgjenfmbaa.M
open Go.RowKit Go.Shelf
set_option maxRecDepth 100000

/-- The k-th entry of home h. -/
def xA (n h k : Nat) : En := ⟨0, ((h + k * n : Nat) : Int), [⟨#[120]⟩]⟩
/-- i entries are put, from home h on. -/
def AR (n h i : Nat) (L : List (Option En)) : Prop := L.length = n ∧ ∀ k, k < n → L[(h + k) % n]? = some (if k < i then some (xA n h k) else none)
theorem mod_inj {n h k i : Nat} (hh : h < n) (hk : k < n) (hi : i < n) (he : (h + k) % n = (h + i) % n) : k = i := by
  have e1 : ∀ q, q < n → (h + q) % n = if h + q < n then h + q else h + q - n := fun q hq => by
    split
    · exact Nat.mod_eq_of_lt (by omega)
    · rw [Nat.mod_eq_sub_mod (by omega)]
      exact Nat.mod_eq_of_lt (by omega)
  rw [e1 k hk, e1 i hi] at he
  split at he <;> split at he <;> omega
theorem mod_sur {n h j : Nat} (hh : h < n) (hj : j < n) : ∃ k, k < n ∧ (h + k) % n = j := by
  by_cases hl : h ≤ j
  · exact ⟨j - h, by omega, by rw [show h + (j - h) = j by omega]; exact Nat.mod_eq_of_lt hj⟩
  · refine ⟨j + n - h, by omega, ?_⟩
    rw [show h + (j + n - h) = j + n by omega, Nat.add_mod_right]
    exact Nat.mod_eq_of_lt hj
theorem AR.zero (n h : Nat) (hn : 0 < n) : AR n h 0 (List.replicate n none) := ⟨List.length_replicate, fun k hk => by
  rw [List.getElem?_replicate, if_pos (Nat.mod_lt _ hn), if_neg (by omega)]⟩
theorem home_ar {n h : Nat} (i : Nat) (hh : h < n) (hn : n ≤ 30) (hi : i ≤ n) : homeN n 0 ((h + i * n : Nat) : Int) = h := by
  unfold homeN
  rw [if_neg (by omega)]
  have hb : i * n ≤ 900 := Nat.le_trans (Nat.mul_le_mul hi hn) (by omega)
  have e1 : ((0 * 31 + ((h + i * n : Nat) : Int)) % 18446744073709551616).toNat = h + i * n := by
    generalize i * n = q at *
    omega
  rw [e1, Nat.add_mul_mod_self_right]
  exact Nat.mod_eq_of_lt hh
theorem isE_ar {n h k i : Nat} (hn : 0 < n) (hk : k < i) : isE (xA n h k) 0 ((h + i * n : Nat) : Int) = false := by
  unfold isE xA
  have : ¬ (((h + k * n : Nat) : Int) = ((h + i * n : Nat) : Int)) := fun e => by
    have h1 : k * n < i * n := Nat.mul_lt_mul_of_pos_right hk hn
    omega
  simp only [this, decide_false, Bool.and_false]
theorem past_ar {n h i : Nat} {L : List (Option En)} (h1 : AR n h i L) (hh : h < n) (m : Nat) (hm : m ≤ i) (hin : i ≤ n) (q : Nat) (hq : i ≤ q) : Past L 0 ((h + q * n : Nat) : Int) h m := fun k hk => by
  obtain ⟨hl, hc⟩ := h1
  rw [hl]
  refine ⟨xA n h k, ?_, isE_ar (by omega) (by omega)⟩
  rw [hc k (by omega), if_pos (by omega)]
theorem find_ar {n h i : Nat} {L : List (Option En)} (h1 : AR n h i L) (hh : h < n) (hn : n ≤ 30) (hi : i < n) : find L 0 ((h + i * n : Nat) : Int) = .free ((h + i) % n) := by
  have hl := h1.1
  have hm := home_ar i hh hn (by omega)
  have := find_free (L := L) (e := 0) (d := ((h + i * n : Nat) : Int)) (i := i) (by omega) (by rw [hl, hm]; exact past_ar h1 hh i (Nat.le_refl _) (by omega) i (Nat.le_refl _)) (by rw [hl, hm]; have := h1.2 i hi; rw [if_neg (by omega)] at this; exact this)
  rw [hl, hm] at this
  exact this
theorem find_ar_full {n h : Nat} {L : List (Option En)} (h1 : AR n h n L) (hh : h < n) (hn : n ≤ 30) : find L 0 ((h + n * n : Nat) : Int) = .full := by
  have hl := h1.1
  have hm := home_ar n hh hn (by omega)
  refine find_full ?_
  rw [hl, hm]
  exact past_ar h1 hh n (Nat.le_refl _) (Nat.le_refl _) n (Nat.le_refl _)
theorem AR.step {n h i : Nat} {L : List (Option En)} (h1 : AR n h i L) (hh : h < n) (hi : i < n) : AR n h (i + 1) (L.set ((h + i) % n) (some (xA n h i))) := by
  obtain ⟨hl, hc⟩ := h1
  refine ⟨by rw [List.length_set]; exact hl, fun k hk => ?_⟩
  rw [List.getElem?_set]
  by_cases he : (h + i) % n = (h + k) % n
  · have hki := mod_inj hh hi hk he
    subst hki
    rw [if_pos rfl, if_pos (by rw [hl]; exact Nat.mod_lt _ (by omega)), if_pos (by omega)]
  · rw [if_neg he, hc k hk]
    have hne : k ≠ i := fun e => he (by rw [e])
    by_cases hki : k < i
    · rw [if_pos hki, if_pos (by omega)]
    · rw [if_neg hki, if_neg (by omega)]
theorem AR.got {n h i : Nat} {L : List (Option En)} (h1 : AR n h (i + 1) L) (hi : i < n) : getC L (((h + i) % n : Nat) : Int) = some (xA n h i) := by
  unfold getC
  rw [if_pos (by omega), Int.toNat_natCast, h1.2 i hi, if_pos (by omega)]
  rfl
theorem AR.all {n h : Nat} {L : List (Option En)} (h1 : AR n h n L) (hh : h < n) : usedN L = n ∧ ∃ y, L[h]? = some (some y) := by
  obtain ⟨hl, hc⟩ := h1
  refine ⟨?_, xA n h 0, ?_⟩
  · unfold usedN
    rw [List.filter_eq_self.2]
    · exact hl
    · intro o ho
      obtain ⟨j, hj, rfl⟩ := List.getElem_of_mem ho
      obtain ⟨k, hk, hkj⟩ := mod_sur hh (by rw [← hl]; exact hj)
      have := hc k hk
      rw [if_pos hk, hkj, List.getElem?_eq_getElem hj] at this
      rw [Option.some.inj this]
      rfl
  · have := hc 0 (by omega)
    rw [if_pos (by omega), Nat.add_zero, Nat.mod_eq_of_lt hh] at this
    exact this
theorem AR.short {n h i : Nat} {L : List (Option En)} (h1 : AR n h i L) (hh : h < n) : Short L := fun j x hj => by
  obtain ⟨hl, hc⟩ := h1
  have hjl := (List.getElem?_eq_some_iff.1 hj).1
  obtain ⟨k, hk, hkj⟩ := mod_sur hh (by rw [← hl]; exact hjl)
  have := hc k hk
  rw [hkj, hj] at this
  by_cases hki : k < i
  · rw [if_pos hki] at this
    injection this with this
    injection this with this
    rw [this]
    show (1 : Nat) ≤ 8796093021952
    omega
  · rw [if_neg hki] at this
    cases this
end Go.Proofs.Ytdgbebgjenfmbaa.M
