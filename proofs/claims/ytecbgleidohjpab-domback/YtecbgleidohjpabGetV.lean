/- What is there for each number, behind a put and a drop; how many nodes there are follows from it. -/
import Derived.Test.YtecbgleidohjpabTrAt
namespace Go.Proofs.Ytecbgleidohjpab
open Go.RowKit

def T.got : T → Option Value
  | .val _ v => some v
  | _ => none
def getV (t : T) (n : Int) : Option Value := (gotT t n).got
def inR (n : Int) : Prop := 0 ≤ n ∧ n < 1048576
instance (n : Int) : Decidable (inR n) := inferInstanceAs (Decidable (_ ∧ _))
def rootN (t : T) : Prop := ∃ b k, t = .node b k
theorem got_isVal (t : T) : t.got.isSome = t.isVal := by cases t <;> rfl
theorem getV_out {t : T} {n : Int} (h : ¬ inR n) : getV t n = none := by
  unfold getV
  rw [got_out h]
  rfl
theorem getV_in {t : T} {n : Nat} (h : n < 1048576) : getV t n = (findT 5 t n).got := by
  unfold getV
  rw [got_in h]
theorem inR_nat {n : Int} (h : inR n) : ∃ m : Nat, n = m ∧ m < 1048576 := ⟨n.toNat, by have := h.1; omega, by have := h.2; omega⟩
theorem put_getV {lo bv n : Nat} {v : Value} {t t' : T} (hn : n < 1048576) (h : PutT lo 4 t n (.val bv v) t') (m : Int) : getV t' m = if m = n then some v else getV t m := by
  by_cases hm : inR m
  · obtain ⟨k, rfl, hk⟩ := inR_nat hm
    rw [getV_in hk, getV_in hk, put_find h, show (16 : Nat) ^ (4 + 1) = 1048576 from rfl, Nat.mod_eq_of_lt hk, Nat.mod_eq_of_lt hn]
    by_cases e : k = n
    · rw [if_pos e, if_pos (by rw [e])]
      rfl
    · rw [if_neg e, if_neg (by omega)]
  · rw [getV_out hm, getV_out hm, if_neg]
    intro e
    apply hm
    rw [e]
    exact ⟨by omega, by omega⟩
theorem drop_getV {lo n : Nat} {t t' : T} (hn : n < 1048576) (h : DropT lo 4 t n t') (m : Int) : getV t' m = if m = n then none else getV t m := by
  by_cases hm : inR m
  · obtain ⟨k, rfl, hk⟩ := inR_nat hm
    rw [getV_in hk, getV_in hk, drop_find h, show (16 : Nat) ^ (4 + 1) = 1048576 from rfl, Nat.mod_eq_of_lt hk, Nat.mod_eq_of_lt hn]
    by_cases e : k = n
    · rw [if_pos e, if_pos (by rw [e])]
      rfl
    · rw [if_neg e, if_neg (by omega)]
  · rw [getV_out hm, getV_out hm]
    split <;> rfl
theorem new_getV (b : Nat) (m : Int) : getV (newT b) m = none := by
  unfold getV gotT
  split
  · rw [new_find]; rfl
  · rfl
theorem nil_getV (m : Int) : getV .nil m = none := by
  unfold getV gotT
  split
  · rw [find_nil]; rfl
  · rfl
/-- Tries for the same numbers have as many nodes and values. -/
theorem same_get {t u : T} (nt : rootN t) (nu : rootN u) (wt : wfT 5 t) (wu : wfT 5 u) (pt : prR t) (pu : prR u) (h : ∀ m, (getV t m).isSome = (getV u m).isSome) : cntT t = cntT u ∧ szT t = szT u := by
  obtain ⟨b, k, rfl⟩ := nt
  obtain ⟨b', k', rfl⟩ := nu
  refine same_root wt wu pt pu fun m hm => ?_
  have := h m
  rwa [getV_in hm, getV_in hm, got_isVal, got_isVal] at this
/-- Where nothing is left there is one node. -/
theorem none_get {t : T} (nt : rootN t) (wt : wfT 5 t) (pt : prR t) (h : ∀ m, getV t m = none) : cntT t = 1 ∧ szT t = 0 := by
  have := same_get (u := newT 0) nt ⟨0, _, rfl⟩ wt (new_wf 0) pt (new_pr 0) (fun m => by rw [h m, new_getV])
  exact ⟨this.1.trans (new_cnt 0), this.2.trans (new_sz 0)⟩
theorem getV_val {t : T} {n : Nat} (hn : n < 1048576) (h : getV t n ≠ none) : (findT 5 t n).isVal = true := by
  rw [getV_in hn] at h
  rw [← got_isVal]
  cases e : (findT 5 t n).got with
  | none => exact absurd e h
  | some v => rfl
theorem getV_none {t : T} (wt : wfT 5 t) {n : Int} (h : getV t n = none) : gotT t n = .nil := by
  rcases got_cases wt n with e | ⟨b, v, e⟩
  · exact e
  · unfold getV at h
    rw [e] at h
    cases h
theorem getV_some {t : T} (wt : wfT 5 t) {n : Int} {v : Value} (h : getV t n = some v) : ∃ b, gotT t n = .val b v := by
  rcases got_cases wt n with e | ⟨b, u, e⟩
  · unfold getV at h
    rw [e] at h
    cases h
  · unfold getV at h
    rw [e] at h
    cases h
    exact ⟨b, e⟩

end Go.Proofs.Ytecbgleidohjpab
