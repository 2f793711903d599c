/- What is there for each number, behind a put and a drop; how many nodes there are follows from it. trie's Get, Put and Drop by what is there for each number. -/
import Derived.Test.YtdiljkmlneeboaaGreatMath2
import Derived.Test.YtdiljkmlneeboaaGreatTDropN
namespace Go.Proofs.YtdiljkmlneeboaaGreat
open Go.RowKit

def T.got : T → Option Value
  | .val _ v => some v
  | _ => none
def getV (t : T) (n : Int) : Option Value := (gotT t n).got
def inR (n : Int) : Prop := 0 ≤ n ∧ n < 1048576
instance (n : Int) : Decidable (inR n) := inferInstanceAs (Decidable (_ ∧ _))
def rootN (t : T) : Prop := ∃ b k, t = .node b k
theorem got_isVal (t : T) : t.got.isSome = t.isVal := by cases t <;> rfl
theorem getV_out {t : T} {n : Int} (h : ¬ inR n) : getV t n = none := by
  unfold getV
  rw [got_out h]
  rfl
theorem getV_in {t : T} {n : Nat} (h : n < 1048576) : getV t n = (findT 5 t n).got := by
  unfold getV
  rw [got_in h]
theorem inR_nat {n : Int} (h : inR n) : ∃ m : Nat, n = m ∧ m < 1048576 := ⟨n.toNat, by have := h.1; omega, by have := h.2; omega⟩
theorem put_getV {lo bv n : Nat} {v : Value} {t t' : T} (hn : n < 1048576) (h : PutT lo 4 t n (.val bv v) t') (m : Int) : getV t' m = if m = n then some v else getV t m := by
  by_cases hm : inR m
  · obtain ⟨k, rfl, hk⟩ := inR_nat hm
    rw [getV_in hk, getV_in hk, put_find h, show (16 : Nat) ^ (4 + 1) = 1048576 from rfl, Nat.mod_eq_of_lt hk, Nat.mod_eq_of_lt hn]
    by_cases e : k = n
    · rw [if_pos e, if_pos (by rw [e])]
      rfl
    · rw [if_neg e, if_neg (by omega)]
  · rw [getV_out hm, getV_out hm, if_neg]
    intro e
    apply hm
    rw [e]
    exact ⟨by omega, by omega⟩
theorem drop_getV {lo n : Nat} {t t' : T} (hn : n < 1048576) (h : DropT lo 4 t n t') (m : Int) : getV t' m = if m = n then none else getV t m := by
  by_cases hm : inR m
  · obtain ⟨k, rfl, hk⟩ := inR_nat hm
    rw [getV_in hk, getV_in hk, drop_find h, show (16 : Nat) ^ (4 + 1) = 1048576 from rfl, Nat.mod_eq_of_lt hk, Nat.mod_eq_of_lt hn]
    by_cases e : k = n
    · rw [if_pos e, if_pos (by rw [e])]
      rfl
    · rw [if_neg e, if_neg (by omega)]
  · rw [getV_out hm, getV_out hm]
    split <;> rfl
theorem new_getV (b : Nat) (m : Int) : getV (newT b) m = none := by
  unfold getV gotT
  split
  · rw [new_find]; rfl
  · rfl
theorem nil_getV (m : Int) : getV .nil m = none := by
  unfold getV gotT
  split
  · rw [find_nil]; rfl
  · rfl
/-- Tries for the same numbers have as many nodes and values. -/
theorem same_get {t u : T} (nt : rootN t) (nu : rootN u) (wt : wfT 5 t) (wu : wfT 5 u) (pt : prR t) (pu : prR u) (h : ∀ m, (getV t m).isSome = (getV u m).isSome) : cntT t = cntT u ∧ szT t = szT u := by
  obtain ⟨b, k, rfl⟩ := nt
  obtain ⟨b', k', rfl⟩ := nu
  refine same_root wt wu pt pu fun m hm => ?_
  have := h m
  rwa [getV_in hm, getV_in hm, got_isVal, got_isVal] at this
/-- Where nothing is left there is one node. -/
theorem none_get {t : T} (nt : rootN t) (wt : wfT 5 t) (pt : prR t) (h : ∀ m, getV t m = none) : cntT t = 1 ∧ szT t = 0 := by
  have := same_get (u := newT 0) nt ⟨0, _, rfl⟩ wt (new_wf 0) pt (new_pr 0) (fun m => by rw [h m, new_getV])
  exact ⟨this.1.trans (new_cnt 0), this.2.trans (new_sz 0)⟩
theorem getV_val {t : T} {n : Nat} (hn : n < 1048576) (h : getV t n ≠ none) : (findT 5 t n).isVal = true := by
  rw [getV_in hn] at h
  rw [← got_isVal]
  cases e : (findT 5 t n).got with
  | none => exact absurd e h
  | some v => rfl
theorem getV_none {t : T} (wt : wfT 5 t) {n : Int} (h : getV t n = none) : gotT t n = .nil := by
  rcases got_cases wt n with e | ⟨b, v, e⟩
  · exact e
  · unfold getV at h
    rw [e] at h
    cases h
theorem getV_some {t : T} (wt : wfT 5 t) {n : Int} {v : Value} (h : getV t n = some v) : ∃ b, gotT t n = .val b v := by
  rcases got_cases wt n with e | ⟨b, u, e⟩
  · unfold getV at h
    rw [e] at h
    cases h
  · unfold getV at h
    rw [e] at h
    cases h
    exact ⟨b, e⟩

end Go.Proofs.YtdiljkmlneeboaaGreat
namespace Go.Proofs.YtdiljkmlneeboaaGreat.N
open Go.RowKit
set_option maxRecDepth 100000

abbrev At (w : World) (tp : Value) (t : T) : Prop := TrAt (151, 76) 153 w tp t
theorem get_c {w : World} {tp : Value} {t : T} (h : At w tp t) (n : Int) : Calls Tryz.prog 83 #[tp, .int .i64 n] w fun e w' => e = .returned (.tuple #[(getV t n).getD (.agg #[.int .i64 0, .string ⟨#[]⟩, .int .i64 0, .slice none 0 0, .slice none 0 0]), .bool (getV t n).isSome]) ∧ Below w.heap.size w w' := by
  cases e : getV t n with
  | none => exact get_none h n (getV_none h.wf e)
  | some v =>
    obtain ⟨b, hb⟩ := getV_some h.wf e
    exact get_some h n hb
theorem put_c {w : World} {tp : Value} {t : T} (h : At w tp t) (n : Int) (s : N5) : Calls Tryz.prog 84 #[tp, .int .i64 n, .agg #[.int .i64 s.id, .string s.tag, .int .i64 s.par, .slice s.ka s.kn s.kc, .slice s.aa s.an s.ac]] w fun e w' => ∃ tp' t', e = .returned tp' ∧ At w' tp' t' ∧ (rootN t → rootN t') ∧
    (∀ m, getV t' m = if m = n ∧ inR n then some (.agg #[.int .i64 s.id, .string s.tag, .int .i64 s.par, .slice s.ka s.kn s.kc, .slice s.aa s.an s.ac]) else getV t m) ∧ (inR n → rootN t' ∧ freshT t' t = 5 ∧ w.heap.size ≤ w'.heap.size) ∧ (¬ inR n → tp' = tp ∧ t' = t) ∧ Below w.heap.size w w' := by
  by_cases hn : inR n
  · obtain ⟨k, rfl, hk⟩ := inR_nat hn
    refine (put_in h k hk s).mono ?_
    rintro e w' ⟨b, bv, t', rfl, hb, hT, hP, hB⟩
    obtain ⟨b', k', _, e'⟩ := hP.node
    refine ⟨_, t', rfl, hT, fun _ => ⟨b', k', e'⟩, fun m => ?_, fun _ => ⟨⟨b', k', e'⟩, fresh_put h.held.low hP, hB.size⟩, fun hc => absurd hn hc, hB⟩
    rw [put_getV hk hP]
    by_cases e : m = k
    · rw [if_pos e, if_pos ⟨e, hn⟩]
    · rw [if_neg e, if_neg (fun h => e h.1)]
  · refine (put_out w tp n hn s).mono ?_
    rintro e w' ⟨rfl, hB⟩
    exact ⟨tp, t, rfl, TrAt.keep h hB, id, fun m => by rw [if_neg (fun h => hn h.2)], fun hc => absurd hc hn, fun _ => ⟨rfl, rfl⟩, hB⟩
theorem drop_c {w : World} {tp : Value} {t : T} (h : At w tp t) (n : Int) : Calls Tryz.prog 57 #[tp, .int .i64 n] w fun e w' => ∃ tp' t', e = .returned tp' ∧ At w' tp' t' ∧ (rootN t → rootN t') ∧
    (∀ m, getV t' m = if m = n then none else getV t m) ∧ freshT t' t ≤ 5 ∧ (getV t n = none → tp' = tp ∧ t' = t) ∧ (getV t n ≠ none → szT t' + 1 = szT t) ∧ Below w.heap.size w w' := by
  by_cases hg : getV t n = none
  · refine (drop_none h n (getV_none h.wf hg)).mono ?_
    rintro e w' ⟨rfl, hB⟩
    exact ⟨tp, t, rfl, TrAt.keep h hB, id, fun m => by
      by_cases e : m = n
      · rw [if_pos e, e, hg]
      · rw [if_neg e], by rw [fresh_self]; omega, fun _ => ⟨rfl, rfl⟩, fun hc => absurd hg hc, hB⟩
  · have hn : inR n := Classical.byContradiction fun hc => hg (getV_out hc)
    obtain ⟨k, rfl, hk⟩ := inR_nat hn
    have hv := getV_val hk hg
    refine (drop_in h k hk hv).mono ?_
    rintro e w' ⟨b, t', rfl, hb, hD, hT, hB⟩
    have hs := drop_sz h.wf hv hD
    rcases hT with ⟨rfl, b0, hb0, hT⟩ | ⟨hne, hT⟩
    · refine ⟨_, newT b0, rfl, hT, fun _ => ⟨_, _, rfl⟩, fun m => ?_, ?_, fun hc => absurd hc hg, fun _ => hs, hB⟩
      · rw [new_getV, ← drop_getV hk hD m, nil_getV]
      · have := new_fresh b0 t
        omega
    · refine ⟨_, t', rfl, hT, fun _ => ?_, drop_getV hk hD, fresh_drop h.held.low hD, fun hc => absurd hc hg, fun _ => hs, hB⟩
      rcases hD.kind with e | e
      · exact absurd e hne
      · exact e

end Go.Proofs.YtdiljkmlneeboaaGreat.N
