/- trie's Get, Put and Drop by what is there for each number. -/
import Derived.Test.YtecbgleidohjpabTDropN
import Derived.Test.YtecbgleidohjpabGetV
namespace Go.Proofs.Ytecbgleidohjpab.N
open Go.RowKit
set_option maxRecDepth 100000

abbrev At (w : World) (tp : Value) (t : T) : Prop := TrAt (83, 41) 85 w tp t
theorem get_c {w : World} {tp : Value} {t : T} (h : At w tp t) (n : Int) : Calls Try.prog 35 #[tp, .int .i64 n] w fun e w' => e = .returned (.tuple #[(getV t n).getD (.agg #[.int .i64 0, .string ⟨#[]⟩, .int .i64 0, .slice none 0 0, .slice none 0 0]), .bool (getV t n).isSome]) ∧ Below w.heap.size w w' := by
  cases e : getV t n with
  | none => exact get_none h n (getV_none h.wf e)
  | some v =>
    obtain ⟨b, hb⟩ := getV_some h.wf e
    exact get_some h n hb
theorem put_c {w : World} {tp : Value} {t : T} (h : At w tp t) (n : Int) (s : N5) : Calls Try.prog 36 #[tp, .int .i64 n, .agg #[.int .i64 s.id, .string s.tag, .int .i64 s.par, .slice s.ka s.kn s.kc, .slice s.aa s.an s.ac]] w fun e w' => ∃ tp' t', e = .returned tp' ∧ At w' tp' t' ∧ (rootN t → rootN t') ∧
    (∀ m, getV t' m = if m = n ∧ inR n then some (.agg #[.int .i64 s.id, .string s.tag, .int .i64 s.par, .slice s.ka s.kn s.kc, .slice s.aa s.an s.ac]) else getV t m) ∧ (inR n → rootN t' ∧ freshT t' t = 5 ∧ w.heap.size ≤ w'.heap.size) ∧ (¬ inR n → tp' = tp ∧ t' = t) ∧ Below w.heap.size w w' := by
  by_cases hn : inR n
  · obtain ⟨k, rfl, hk⟩ := inR_nat hn
    refine (put_in h k hk s).mono ?_
    rintro e w' ⟨b, bv, t', rfl, hb, hT, hP, hB⟩
    obtain ⟨b', k', _, e'⟩ := hP.node
    refine ⟨_, t', rfl, hT, fun _ => ⟨b', k', e'⟩, fun m => ?_, fun _ => ⟨⟨b', k', e'⟩, fresh_put h.held.low hP, hB.size⟩, fun hc => absurd hn hc, hB⟩
    rw [put_getV hk hP]
    by_cases e : m = k
    · rw [if_pos e, if_pos ⟨e, hn⟩]
    · rw [if_neg e, if_neg (fun h => e h.1)]
  · refine (put_out w tp n hn s).mono ?_
    rintro e w' ⟨rfl, hB⟩
    exact ⟨tp, t, rfl, TrAt.keep h hB, id, fun m => by rw [if_neg (fun h => hn h.2)], fun hc => absurd hc hn, fun _ => ⟨rfl, rfl⟩, hB⟩
theorem drop_c {w : World} {tp : Value} {t : T} (h : At w tp t) (n : Int) : Calls Try.prog 27 #[tp, .int .i64 n] w fun e w' => ∃ tp' t', e = .returned tp' ∧ At w' tp' t' ∧ (rootN t → rootN t') ∧
    (∀ m, getV t' m = if m = n then none else getV t m) ∧ freshT t' t ≤ 5 ∧ (getV t n = none → tp' = tp ∧ t' = t) ∧ (getV t n ≠ none → szT t' + 1 = szT t) ∧ Below w.heap.size w w' := by
  by_cases hg : getV t n = none
  · refine (drop_none h n (getV_none h.wf hg)).mono ?_
    rintro e w' ⟨rfl, hB⟩
    exact ⟨tp, t, rfl, TrAt.keep h hB, id, fun m => by
      by_cases e : m = n
      · rw [if_pos e, e, hg]
      · rw [if_neg e], by rw [fresh_self]; omega, fun _ => ⟨rfl, rfl⟩, fun hc => absurd hg hc, hB⟩
  · have hn : inR n := Classical.byContradiction fun hc => hg (getV_out hc)
    obtain ⟨k, rfl, hk⟩ := inR_nat hn
    have hv := getV_val hk hg
    refine (drop_in h k hk hv).mono ?_
    rintro e w' ⟨b, t', rfl, hb, hD, hT, hB⟩
    have hs := drop_sz h.wf hv hD
    rcases hT with ⟨rfl, b0, hb0, hT⟩ | ⟨hne, hT⟩
    · refine ⟨_, newT b0, rfl, hT, fun _ => ⟨_, _, rfl⟩, fun m => ?_, ?_, fun hc => absurd hc hg, fun _ => hs, hB⟩
      · rw [new_getV, ← drop_getV hk hD m, nil_getV]
      · have := new_fresh b0 t
        omega
    · refine ⟨_, t', rfl, hT, fun _ => ?_, drop_getV hk hD, fresh_drop h.held.low hD, fun hc => absurd hc hg, fun _ => hs, hB⟩
      rcases hD.kind with e | e
      · exact absurd e hne
      · exact e

end Go.Proofs.Ytecbgleidohjpab.N
