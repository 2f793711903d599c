/- DomDeep: the mathematics of a chain of elements. -/
import Derived.Test.YtecbgleidohjpaaLivN
namespace Go.Proofs.Ytecbgleidohjpaa.N
open Go.RowKit
set_option maxRecDepth 100000

def sD : ByteArray := ⟨#[100]⟩
theorem name_d : nameZ sD = true := by decide +kernel
/-- A chain of i elements. -/
def chM (i : Nat) : M := fun n => if 1 ≤ n ∧ n ≤ i then some ⟨n, if n = 1 then sA else sB, n - 1, if n < i then [n + 1] else [], []⟩ else none
theorem chM_one : chM 1 = mset (fun _ => none) 1 ⟨1, sA, 0, [], []⟩ := by
  funext n
  unfold chM mset
  by_cases h : n = 1
  · subst h
    rw [if_pos (by omega), if_pos rfl]
    rfl
  · rw [if_neg (by omega), if_neg h]
theorem chM_in {i : Nat} {n : Int} (h : 1 ≤ n ∧ n ≤ i) : chM i n = some ⟨n, if n = 1 then sA else sB, n - 1, if n < i then [n + 1] else [], []⟩ := by
  unfold chM
  rw [if_pos h]
theorem chM_out {i : Nat} {n : Int} (h : ¬ (1 ≤ n ∧ n ≤ i)) : chM i n = none := by
  unfold chM
  rw [if_neg h]
theorem chM_succ {i : Nat} (hi : 1 ≤ i) : insM (chM i) ((i : Int) + 1) i 0 sB = chM (i + 1) := by
  funext n
  unfold insM
  rw [chM_in (n := (i : Int)) (by omega)]
  dsimp only
  by_cases h1 : n = i
  · subst h1
    rw [mset_same, chM_in (by omega)]
    have h5 : (i : Int) < ((i + 1 : Nat) : Int) := by omega
    rw [if_pos h5]
    simp [ins]
  · rw [mset_ne h1]
    by_cases h2 : n = (i : Int) + 1
    · subst h2
      rw [mset_same, chM_in (by omega), if_neg (by omega), if_neg (by omega)]
      simp
    · rw [mset_ne h2]
      by_cases h3 : 1 ≤ n ∧ n ≤ i
      · rw [chM_in h3, chM_in (by omega)]
        have : n < (i : Int) := by omega
        have h4 : n < ((i + 1 : Nat) : Int) := by omega
        rw [if_pos this, if_pos h4]
      · rw [chM_out h3, chM_out (by omega)]
theorem ch_dep {uok : List (ByteArray × ByteArray) → Prop} {i : Nat} {nx : Int} {d : Int → Nat} (I : Inv uok (chM i) nx d) : ∀ n : Nat, 1 ≤ n → n ≤ i → d n = n
  | 0, h, _ => by omega
  | 1, _, _ => I.dep1
  | n + 2, _, h => by
    have := I.dep (chM_in (n := ((n + 2 : Nat) : Int)) (by omega)) (by omega)
    rw [this]
    dsimp only
    rw [show ((n + 2 : Nat) : Int) - 1 = ((n + 1 : Nat) : Int) by omega, ch_dep I (n + 1) (by omega) (by omega)]
theorem ch_ups {w : World} {dp : Value} {i : Nat} {nx : Int} (h : Tree w dp (chM i) nx) {n : Nat} (h1 : 1 ≤ n) (h2 : n ≤ i) : (ups (chM i) n).length = n := by
  obtain ⟨_, d, I⟩ := h
  rw [ups_len I (chM_in (by omega)), ch_dep I n h1 h2]
theorem ch_ins {w : World} {dp : Value} {i : Nat} {nx : Int} (h : Tree w dp (chM i) nx) (h1 : 1 ≤ i) (h2 : i < 512) : insErr (chM i) i ((0 : Nat) : Int) sB = 0 :=
  insErr_ok (chM_in (by omega)) (Nat.zero_le _) name_b (by rw [ch_ups h h1 (Nat.le_refl _)]; exact h2)
theorem ch_full {w : World} {dp : Value} {nx : Int} (h : Tree w dp (chM 512) nx) : insErr (chM 512) ((512 : Nat) : Int) ((0 : Nat) : Int) sB = 5 := by
  unfold insErr
  rw [chM_in (by omega)]
  dsimp only
  rw [if_neg (by simp), if_neg (by rw [name_b]; simp), if_pos (by rw [ch_ups h (by omega) (Nat.le_refl _)]; exact Nat.le_refl _)]
/-- Behind the chain: a kid of the root, and a kid of that. -/
def ch1 (k : Nat) : M := insM (chM k) ((k : Int) + 1) 1 0 sC
def ch2 (k : Nat) : M := insM (ch1 k) ((k : Int) + 1 + 1) ((k : Int) + 1) 0 sD
theorem ch_ins1 {w : World} {dp : Value} {k : Nat} {nx : Int} (h : Tree w dp (chM k) nx) (h1 : 2 ≤ k) : insErr (chM k) 1 ((0 : Nat) : Int) sC = 0 :=
  insErr_ok (chM_in (i := k) (n := 1) (by omega)) (Nat.zero_le _) name_c (by
    have := ch_ups h (n := 1) (by omega) (by omega)
    rw [show ((1 : Nat) : Int) = 1 from rfl] at this
    omega)
theorem ch1_eq {k : Nat} (hk : 2 ≤ k) (n : Int) : ch1 k n = if n = (k : Int) + 1 then some ⟨(k : Int) + 1, sC, 1, [], []⟩ else if n = 1 then some ⟨1, sA, 0, [(k : Int) + 1, 2], []⟩ else chM k n := by
  unfold ch1 insM
  rw [chM_in (i := k) (n := 1) (by omega)]
  dsimp only
  by_cases h1 : n = 1
  · subst h1
    have h5 : (1 : Int) < k := by omega
    have h6 : ¬ (1 : Int) = (k : Int) + 1 := by omega
    rw [mset_same, if_neg h6, if_pos rfl, if_pos h5]
    simp [ins]
  · rw [mset_ne h1]
    by_cases h2 : n = (k : Int) + 1
    · rw [h2, mset_same, if_pos rfl]
    · rw [mset_ne h2, if_neg h2, if_neg h1]
theorem ch2_eq {k : Nat} (hk : 2 ≤ k) (n : Int) : ch2 k n = if n = (k : Int) + 1 + 1 then some ⟨(k : Int) + 1 + 1, sD, (k : Int) + 1, [], []⟩ else if n = (k : Int) + 1 then some ⟨(k : Int) + 1, sC, 1, [(k : Int) + 1 + 1], []⟩ else if n = 1 then some ⟨1, sA, 0, [(k : Int) + 1, 2], []⟩ else chM k n := by
  unfold ch2 insM
  rw [ch1_eq hk, if_pos rfl]
  dsimp only
  by_cases h1 : n = (k : Int) + 1
  · rw [h1, mset_same, if_neg (by omega), if_pos rfl]
    rfl
  · rw [mset_ne h1]
    by_cases h2 : n = (k : Int) + 1 + 1
    · rw [h2, mset_same, if_pos rfl]
    · rw [mset_ne h2, if_neg h2, if_neg h1, ch1_eq hk, if_neg h1]
theorem ch_ins2 {w : World} {dp : Value} {k : Nat} {nx : Int} (h : Tree w dp (ch1 k) nx) (hk : 2 ≤ k) : insErr (ch1 k) ((k : Int) + 1) ((0 : Nat) : Int) sD = 0 := by
  obtain ⟨_, d, I⟩ := h
  have hb : ch1 k ((k : Int) + 1) = some ⟨(k : Int) + 1, sC, 1, [], []⟩ := by rw [ch1_eq hk, if_pos rfl]
  refine insErr_ok hb (Nat.zero_le _) name_d ?_
  rw [ups_len I hb]
  have := I.dep hb (by omega)
  dsimp only at this
  rw [I.dep1] at this
  omega
theorem ch2_dep {uok : List (ByteArray × ByteArray) → Prop} {k : Nat} {nx : Int} {d : Int → Nat} (hk : 2 ≤ k) (I : Inv uok (ch2 k) nx d) : ∀ n : Nat, 1 ≤ n → n ≤ k → d n = n
  | 0, h, _ => by omega
  | 1, _, _ => I.dep1
  | n + 2, _, h => by
    have e : ch2 k ((n + 2 : Nat) : Int) = chM k ((n + 2 : Nat) : Int) := by rw [ch2_eq hk, if_neg (by omega), if_neg (by omega), if_neg (by omega)]
    rw [chM_in (by omega)] at e
    have := I.dep e (by omega)
    rw [this]
    dsimp only
    rw [show ((n + 2 : Nat) : Int) - 1 = ((n + 1 : Nat) : Int) by omega, ch2_dep hk I (n + 1) (by omega) (by omega)]
theorem ch2_lev {k : Nat} (hk : 2 ≤ k) : lev (ch2 k) ((k : Int) + 1) 1 = [(k : Int) + 1 + 1] ∧ lev (ch2 k) ((k : Int) + 1) 2 = [] := by
  have h1 : kidsOf (ch2 k) ((k : Int) + 1) = [(k : Int) + 1 + 1] := by
    unfold kidsOf
    rw [ch2_eq hk, if_neg (by omega), if_pos rfl]
  have h2 : kidsOf (ch2 k) ((k : Int) + 1 + 1) = [] := by
    unfold kidsOf
    rw [ch2_eq hk, if_pos rfl]
  constructor
  · simp [lev, h1]
  · simp [lev, h1, h2]
theorem ch2_full {k : Nat} (hk : 2 ≤ k) : Full (ch2 k) ((k : Int) + 1) 2 := by
  obtain ⟨h1, h2⟩ := ch2_lev hk
  refine ⟨by omega, h2, fun j hj => ?_⟩
  have : j = 0 ∨ j = 1 := by omega
  rcases this with rfl | rfl
  · simp [lev]
  · rw [h1]; simp
theorem ch2_mov {w : World} {dp : Value} {k : Nat} {nx : Int} (h : Tree w dp (ch2 k) nx) (hk : 2 ≤ k) : movErr (ch2 k) ((k : Int) + 1) k ((0 : Nat) : Int) 2 = if k + 2 ≤ 512 then 0 else 5 := by
  obtain ⟨_, d, I⟩ := h
  have hb : ch2 k ((k : Int) + 1) = some ⟨(k : Int) + 1, sC, 1, [(k : Int) + 1 + 1], []⟩ := by rw [ch2_eq hk, if_neg (by omega), if_pos rfl]
  have ht : ch2 k (k : Int) = some ⟨k, sB, (k : Int) - 1, [], []⟩ := by
    rw [ch2_eq hk, if_neg (by omega), if_neg (by omega), if_neg (by omega), chM_in (by omega), if_neg (by omega), if_neg (by omega)]
  have hno : (k : Int) + 1 ∉ ups (ch2 k) k := fun hm => by
    have := ((ch2_full hk).iff I hb ht).2 hm
    obtain ⟨j, hj, hl⟩ := levs_mem.1 this
    have : j = 0 ∨ j = 1 := by omega
    rcases this with rfl | rfl
    · simp [lev] at hl
      omega
    · rw [(ch2_lev hk).1] at hl
      simp at hl
      omega
  unfold movErr
  rw [hb, ht]
  dsimp only
  rw [if_neg hno, if_neg (by simp [rmv]), ups_len I ht, ch2_dep hk I k (by omega) (Nat.le_refl _)]
  split <;> split <;> omega

end Go.Proofs.Ytecbgleidohjpaa.N
