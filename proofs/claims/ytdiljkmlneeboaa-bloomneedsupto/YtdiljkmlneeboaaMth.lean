/- Keys may be added in any order, and again. -/
import Derived.Test.YtdiljkmlneeboaaLiv
namespace Go.Proofs.Ytdiljkmlneeboaa
open Go.RowKit
set_option maxRecDepth 100000

theorem or_swap (x y z : Nat) : (x ||| y) ||| z = (x ||| z) ||| y := by rw [Nat.or_assoc, Nat.or_comm y z, ← Nat.or_assoc]
theorem or_same (x y : Nat) : (x ||| y) ||| y = x ||| y := by rw [Nat.or_assoc, Nat.or_self]
theorem bit_comm (f : Flt) (n m : Nat) : (f.bit n).bit m = (f.bit m).bit n := by
  unfold Flt.bit
  by_cases n0 : n / 64 = 0
  · by_cases m0 : m / 64 = 0
    · simp only [if_pos n0, if_pos m0, or_swap]
    · by_cases m1 : m / 64 = 1
      · simp only [if_pos n0, if_neg m0, if_pos m1]
      · by_cases m2 : m / 64 = 2
        · simp only [if_pos n0, if_neg m0, if_neg m1, if_pos m2]
        · simp only [if_pos n0, if_neg m0, if_neg m1, if_neg m2]
  · by_cases n1 : n / 64 = 1
    · by_cases m0 : m / 64 = 0
      · simp only [if_neg n0, if_pos n1, if_pos m0]
      · by_cases m1 : m / 64 = 1
        · simp only [if_neg n0, if_pos n1, if_neg m0, if_pos m1, or_swap]
        · by_cases m2 : m / 64 = 2
          · simp only [if_neg n0, if_pos n1, if_neg m0, if_neg m1, if_pos m2]
          · simp only [if_neg n0, if_pos n1, if_neg m0, if_neg m1, if_neg m2]
    · by_cases n2 : n / 64 = 2
      · by_cases m0 : m / 64 = 0
        · simp only [if_neg n0, if_neg n1, if_pos n2, if_pos m0]
        · by_cases m1 : m / 64 = 1
          · simp only [if_neg n0, if_neg n1, if_pos n2, if_neg m0, if_pos m1]
          · by_cases m2 : m / 64 = 2
            · simp only [if_neg n0, if_neg n1, if_pos n2, if_neg m0, if_neg m1, if_pos m2, or_swap]
            · simp only [if_neg n0, if_neg n1, if_pos n2, if_neg m0, if_neg m1, if_neg m2]
      · by_cases m0 : m / 64 = 0
        · simp only [if_neg n0, if_neg n1, if_neg n2, if_pos m0]
        · by_cases m1 : m / 64 = 1
          · simp only [if_neg n0, if_neg n1, if_neg n2, if_neg m0, if_pos m1]
          · by_cases m2 : m / 64 = 2
            · simp only [if_neg n0, if_neg n1, if_neg n2, if_neg m0, if_neg m1, if_pos m2]
            · simp only [if_neg n0, if_neg n1, if_neg n2, if_neg m0, if_neg m1, if_neg m2, or_swap]
theorem bit_same (f : Flt) (n : Nat) : (f.bit n).bit n = f.bit n := by
  unfold Flt.bit
  by_cases n0 : n / 64 = 0
  · simp only [if_pos n0, or_same]
  · by_cases n1 : n / 64 = 1
    · simp only [if_neg n0, if_pos n1, or_same]
    · by_cases n2 : n / 64 = 2
      · simp only [if_neg n0, if_neg n1, if_pos n2, or_same]
      · simp only [if_neg n0, if_neg n1, if_neg n2, or_same]
theorem add_comm (f : Flt) (j k : Nat) : (f.add j).add k = (f.add k).add j := by
  unfold Flt.add
  rw [bit_comm (f.bit (j % 256)) (j / 256 % 256) (k % 256), bit_comm f (j % 256) (k % 256), bit_comm ((f.bit (k % 256)).bit (j % 256)) (j / 256 % 256) (k / 256 % 256), bit_comm (f.bit (k % 256)) (j % 256) (k / 256 % 256)]
theorem add_same (f : Flt) (k : Nat) : (f.add k).add k = f.add k := by
  unfold Flt.add
  rw [bit_comm (f.bit (k % 256)) (k / 256 % 256) (k % 256), bit_same, bit_same]
def addAll (f : Flt) (l : List Nat) : Flt := l.foldl Flt.add f
theorem addAll_add (k : Nat) : ∀ (l : List Nat) (f : Flt), (addAll f l).add k = addAll (f.add k) l
  | [], _ => rfl
  | x :: l, f => by
    show (addAll (f.add x) l).add k = addAll ((f.add k).add x) l
    rw [addAll_add k l, add_comm]
theorem addAll_mem {k : Nat} : ∀ {l : List Nat} (f : Flt), k ∈ l → (addAll f l).add k = addAll f l
  | [], _, h => (List.not_mem_nil h).elim
  | x :: l, f, h => by
    show (addAll (f.add x) l).add k = addAll (f.add x) l
    rcases List.mem_cons.1 h with rfl | h
    · rw [addAll_add, add_same]
    · exact addAll_mem _ h
theorem addAll_app (f : Flt) (l : List Nat) (k : Nat) : addAll f (l ++ [k]) = (addAll f l).add k := by
  unfold addAll
  rw [List.foldl_append]
  rfl
theorem addAll_rev : ∀ (l : List Nat) (f : Flt), addAll f l.reverse = addAll f l
  | [], _ => rfl
  | x :: l, f => by
    rw [List.reverse_cons, addAll_app, addAll_rev l f, addAll_add]
    rfl
theorem ok_addAll : ∀ (l : List Nat) {f : Flt}, f.ok → (addAll f l).ok
  | [], _, h => h
  | x :: l, _, h => ok_addAll l (ok_add h x)
end Go.Proofs.Ytdiljkmlneeboaa
