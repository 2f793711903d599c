/- The tokens of values, and that they are read as those values again. -/
import Derived.Test.YtihdiaklhkecmaaValuesV
namespace Go.Proofs.Ytihdiaklhkecmaa
open Go.RowKit

/-- The token that closes what a kind opens. -/
def endT (k : Int) : T5 := ⟨k, ⟨#[]⟩, ⟨#[]⟩, false, false⟩
mutual
/-- The tokens of a value, of values. -/
def flatV : V → List T5
  | .mk t ks => t :: (if closeZ t.k = 0 then [] else flatL ks ++ [endT (closeZ t.k)])
def flatL : List V → List T5
  | [] => []
  | v :: r => flatV v ++ flatL r
end
theorem flatL_append (a b : List V) : flatL (a ++ b) = flatL a ++ flatL b := by
  induction a with
  | nil => rfl
  | cons x r ih => rw [List.cons_append, flatL, flatL, ih, List.append_assoc]
theorem flatL_take (vs : List V) (k : Nat) (h : k < vs.length) : flatL (vs.take (k + 1)) = flatL (vs.take k) ++ flatV (vs[k]'h) := by
  rw [List.take_succ_eq_append_getElem h, flatL_append]
  simp [flatL]
theorem flatL_take_len (vs : List V) (k : Nat) : (flatL (vs.take k)).length ≤ (flatL vs).length := by
  have h : flatL vs = flatL (vs.take k) ++ flatL (vs.drop k) := by rw [← flatL_append, List.take_append_drop]
  rw [h, List.length_append]
  omega
/-- Values as they are read, up to what closes them, so deep. -/
inductive Ok : Int → Int → List V → Prop
  | nil (c n : Int) : Ok c n []
  | flat {c n : Int} {t : T5} {r : List V} (h1 : ¬(c ≠ 0 ∧ t.k = c)) (h2 : closeZ t.k = 0) (hr : Ok c n r) : Ok c n (.mk t [] :: r)
  | block {c n : Int} {t : T5} {ks r : List V} (h1 : ¬(c ≠ 0 ∧ t.k = c)) (h2 : closeZ t.k ≠ 0) (h3 : n + 1 ≤ 64) (hk : Ok (closeZ t.k) (n + 1) ks) (hr : Ok c n r) : Ok c n (.mk t ks :: r)
theorem some_ok : ∀ (f : Nat) (l : List T5) (c n : Int), Ok c n (someZ f l c n).1
  | 0, _, c, n => .nil c n
  | _ + 1, [], c, n => .nil c n
  | f + 1, t :: r, c, n => by
    rw [someZ]
    split
    · exact .nil c n
    · split
      · exact .flat (by assumption) (by assumption) (some_ok f r c n)
      · split
        · exact some_ok f _ c n
        · exact .block (by assumption) (by assumption) (by omega) (some_ok f r _ _) (some_ok f _ c n)
theorem some_fuel : ∀ (f g : Nat) (l : List T5) (c n : Int), l.length ≤ f → l.length ≤ g → someZ f l c n = someZ g l c n
  | f, g, [], c, n, _, _ => by rw [someZ_nil, someZ_nil]
  | 0, _, t :: r, _, _, h, _ => by simp at h
  | _ + 1, 0, t :: r, _, _, _, h => by simp at h
  | f + 1, g + 1, t :: r, c, n, hf, hg => by
    rw [List.length_cons] at hf hg
    have h1 := some_fuel f g r c n (by omega) (by omega)
    have h2 := some_fuel f g r (closeZ t.k) (n + 1) (by omega) (by omega)
    have hl := some_len f r (closeZ t.k) (n + 1)
    have h3 := some_fuel f g (someZ f r (closeZ t.k) (n + 1)).2 c n (by omega) (by omega)
    rw [someZ, someZ, h1, h3, h2]
theorem some_back {c n : Int} {vs : List V} (h : Ok c n vs) : ∀ (f : Nat) (R : List T5), (flatL vs ++ R).length ≤ f → someZ f (flatL vs ++ R) c n = (vs ++ (someZ f R c n).1, (someZ f R c n).2) := by
  induction h with
  | nil c n => intro f R _; simp [flatL]
  | @flat c n t r h1 h2 hr ih =>
    intro f R hf
    have e : flatL (V.mk t [] :: r) ++ R = t :: (flatL r ++ R) := by simp [flatL, flatV, h2]
    rw [e] at hf ⊢
    obtain ⟨f, rfl⟩ : ∃ g, f = g + 1 := ⟨f - 1, by rw [List.length_cons] at hf; omega⟩
    rw [List.length_cons] at hf
    have hR : R.length ≤ f := by rw [List.length_append] at hf; omega
    rw [someZ, if_neg h1, if_pos h2, ih f R (by omega), some_fuel f (f + 1) R c n hR (by omega)]
    rfl
  | @block c n t ks r h1 h2 h3 hk hr ihk ihr =>
    intro f R hf
    have e : flatL (V.mk t ks :: r) ++ R = t :: (flatL ks ++ (endT (closeZ t.k) :: (flatL r ++ R))) := by simp [flatL, flatV, h2]
    rw [e] at hf ⊢
    obtain ⟨f, rfl⟩ : ∃ g, f = g + 1 := ⟨f - 1, by rw [List.length_cons] at hf; omega⟩
    rw [List.length_cons] at hf
    have hl := hf
    rw [List.length_append, List.length_cons] at hl
    have hR : R.length ≤ f := by rw [List.length_append] at hl; omega
    have hc : someZ f (endT (closeZ t.k) :: (flatL r ++ R)) (closeZ t.k) (n + 1) = ([], flatL r ++ R) := by
      obtain ⟨g, rfl⟩ : ∃ g, f = g + 1 := ⟨f - 1, by omega⟩
      rw [someZ, if_pos ⟨h2, rfl⟩]
    rw [someZ, if_neg h1, if_neg h2, if_neg (by omega), ihk f _ (by omega), hc, ihr f R (by omega), some_fuel f (f + 1) R c n hR (by omega)]
    simp
theorem back_vals (ts : List T5) : valsZ (flatL (valsZ ts)) = valsZ ts := by
  have h := some_back (some_ok ts.length ts 0 0) (flatL (valsZ ts)).length [] (by rw [List.append_nil]; exact Nat.le_refl _)
  rw [List.append_nil, someZ_nil] at h
  show (someZ (flatL (valsZ ts)).length (flatL (valsZ ts)) 0 0).1 = valsZ ts
  rw [show flatL (valsZ ts) = flatL (someZ ts.length ts 0 0).1 from rfl] at h ⊢
  rw [h]
  simp [valsZ]
theorem some_twice : ∀ (f : Nat) (l : List T5) (c n : Int), (flatL (someZ f l c n).1).length + 2 * (someZ f l c n).2.length ≤ 2 * l.length
  | 0, l, _, _ => by simp [someZ, flatL]
  | _ + 1, [], _, _ => by simp [someZ, flatL]
  | f + 1, t :: r, c, n => by
    have h1 := some_twice f r c n
    have h2 := some_twice f r (closeZ t.k) (n + 1)
    have h3 := some_twice f (someZ f r (closeZ t.k) (n + 1)).2 c n
    rw [someZ, List.length_cons]
    split
    · simp [flatL]; omega
    · split
      · rename_i _ e
        simp only [flatL, flatV, if_pos e, List.length_append, List.length_cons, List.length_nil]
        omega
      · split
        · omega
        · rename_i _ e _
          simp only [flatL, flatV, if_neg e, List.length_append, List.length_cons, List.length_nil]
          omega
theorem flat_twice (ts : List T5) : (flatL (valsZ ts)).length ≤ 2 * ts.length := by
  have := some_twice ts.length ts 0 0
  show (flatL (someZ ts.length ts 0 0).1).length ≤ _
  omega
mutual
/-- Nested deeper than some? -/
def deepV : V → Int → Bool
  | .mk _ ks, m => decide (0 < ks.length) && (decide (m < 1) || deepL ks (m - 1))
def deepL : List V → Int → Bool
  | [], _ => false
  | v :: r, m => deepV v m || deepL r m
end
theorem ok_deep {c n : Int} {vs : List V} (h : Ok c n vs) : deepL vs (64 - n) = false := by
  induction h with
  | nil c n => rfl
  | flat h1 h2 hr ih => simp [deepL, deepV, ih]
  | @block c n t ks r h1 h2 h3 hk hr ihk ihr =>
    have e : 64 - n - 1 = 64 - (n + 1) := by omega
    have e2 : decide (64 - n < 1) = false := decide_eq_false (by omega)
    rw [deepL, deepV, ihr, e, ihk, e2]
    simp
theorem vals_deep (ts : List T5) : deepL (valsZ ts) 64 = false := ok_deep (some_ok ts.length ts 0 0)

end Go.Proofs.Ytihdiaklhkecmaa
