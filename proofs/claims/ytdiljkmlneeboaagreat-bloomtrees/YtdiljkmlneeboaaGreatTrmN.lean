/- Tries and Docs by the elements that are in them. -/
import Derived.Test.YtdiljkmlneeboaaGreatDoesN
namespace Go.Proofs.YtdiljkmlneeboaaGreat.N
open Go.RowKit
set_option maxRecDepth 100000

def zeroS : N5 := ⟨0, ⟨#[]⟩, 0, none, 0, 0, none, 0, 0⟩
def zeroEl : El := ⟨0, ⟨#[]⟩, 0, [], []⟩
theorem zero_el (w : World) : ElAt w zeroS zeroEl := ⟨rfl, rfl, rfl, RowAt.nil w 1, RowAt.nil w 2⟩
/-- The trie has these elements. -/
def Has (w : World) (t : T) (m : M) : Prop := ∀ n, (m n = none ∧ getV t n = none) ∨ ∃ e s, m n = some e ∧ getV t n = some (N5.val s) ∧ ElAt w s e
theorem Has.keep {w w' : World} {t : T} {m : M} (h : Has w t m) (hb : Below w.heap.size w w') : Has w' t m := fun n =>
  (h n).imp id fun ⟨e, s, h1, h2, h3⟩ => ⟨e, s, h1, h2, h3.keep hb⟩
/-- The pointer is to a trie of these elements. -/
def TrM (w : World) (tp : Value) (m : M) : Prop := ∃ t, At w tp t ∧ rootN t ∧ Has w t m ∧ Cnt m (szT t)
theorem TrM.keep {w w' : World} {tp : Value} {m : M} (h : TrM w tp m) (hb : Below w.heap.size w w') : TrM w' tp m := by
  obtain ⟨t, h1, h2, h3, h4⟩ := h
  exact ⟨t, TrAt.keep h1 hb, h2, h3.keep hb, h4⟩
theorem TrM.ptr {w : World} {tp : Value} {m : M} (h : TrM w tp m) : ∃ b, tp = .pointer (some ⟨b, 0, none⟩) := by
  obtain ⟨t, h1, ⟨b, k, rfl⟩, _⟩ := h
  rcases h1.lies with ⟨_, h⟩ | ⟨b, e, _⟩
  · cases h
  · exact ⟨b, e⟩
theorem trm_get {w : World} {tp : Value} {m : M} (h : TrM w tp m) (n : Int) : Calls Tryz.prog 83 #[tp, .int .i64 n] w fun x w' => ∃ s : N5, x = .returned (.tuple #[.agg #[.int .i64 s.id, .string s.tag, .int .i64 s.par, .slice s.ka s.kn s.kc, .slice s.aa s.an s.ac], .bool (m n).isSome]) ∧ ElAt w s ((m n).getD zeroEl) ∧ Below w.heap.size w w' := by
  obtain ⟨t, h1, h2, h3, h4⟩ := h
  refine (get_c h1 n).mono ?_
  rintro x w' ⟨rfl, hB⟩
  rcases h3 n with ⟨e1, e2⟩ | ⟨e, s, e1, e2, hE⟩
  · rw [e1, e2]
    exact ⟨zeroS, rfl, zero_el w, hB⟩
  · rw [e1, e2]
    exact ⟨s, rfl, hE, hB⟩
theorem getV_one {t : T} {n : Nat} (hn : n < 1048576) : (findT 5 t n).one = if getV t (n : Int) = none then 0 else 1 := by
  rw [getV_in hn]
  cases findT 5 t n <;> rfl
theorem trm_put {w : World} {tp : Value} {m : M} (h : TrM w tp m) {n : Int} (hn : 0 ≤ n ∧ n < 1048576) {s : N5} {e : El} (he : ElAt w s e) : Calls Tryz.prog 84 #[tp, .int .i64 n, .agg #[.int .i64 s.id, .string s.tag, .int .i64 s.par, .slice s.ka s.kn s.kc, .slice s.aa s.an s.ac]] w fun x w' => ∃ b, x = .returned (.pointer (some ⟨b, 0, none⟩)) ∧ TrM w' (.pointer (some ⟨b, 0, none⟩)) (mset m n e) ∧ Below w.heap.size w w' := by
  obtain ⟨t, h1, h2, h3, h4⟩ := h
  obtain ⟨k, rfl, hk⟩ := inR_nat hn
  refine (put_in h1 k hk s).mono ?_
  rintro x w' ⟨b, bv, t', rfl, hb, hT, hP, hB⟩
  obtain ⟨b', k', _, e'⟩ := hP.node
  refine ⟨b, rfl, ⟨t', hT, ⟨b', k', e'⟩, fun j => ?_, ?_⟩, hB⟩
  · rw [put_getV hk hP]
    by_cases hj : j = k
    · subst hj
      rw [if_pos rfl]
      exact .inr ⟨e, s, mset_same _ _ _, rfl, he.keep hB⟩
    · rw [if_neg hj, mset_ne hj]
      exact (h3.keep hB) j
  · have hs := put_sz (x := .val bv (.agg #[.int .i64 s.id, .string s.tag, .int .i64 s.par, .slice s.ka s.kn s.kc, .slice s.aa s.an s.ac])) (fun _ _ h => by cases h) h1.wf hP
    have hc := h4.set (k : Int) e
    rw [getV_one hk] at hs
    have ho : (T.val bv (.agg #[.int .i64 s.id, .string s.tag, .int .i64 s.par, .slice s.ka s.kn s.kc, .slice s.aa s.an s.ac])).one = 1 := rfl
    rw [ho] at hs
    rcases h3 k with ⟨e1, e2⟩ | ⟨_, _, e1, e2, _⟩
    · rw [if_pos e1] at hc
      rw [if_pos e2] at hs
      rw [show szT t' = szT t + 1 by omega]
      exact hc
    · rw [if_neg (by rw [e1]; simp)] at hc
      rw [if_neg (by rw [e2]; simp)] at hs
      rw [show szT t' = szT t by omega]
      exact hc
theorem trm_drop {w : World} {tp : Value} {m : M} (h : TrM w tp m) (n : Int) : Calls Tryz.prog 57 #[tp, .int .i64 n] w fun x w' => ∃ b, x = .returned (.pointer (some ⟨b, 0, none⟩)) ∧ TrM w' (.pointer (some ⟨b, 0, none⟩)) (mdrop m n) ∧ Below w.heap.size w w' := by
  obtain ⟨t, h1, h2, h3, h4⟩ := h
  refine (drop_c h1 n).mono ?_
  rintro x w' ⟨tp', t', rfl, hT, hr, hg, _, hne, hso, hB⟩
  have hH : Has w' t' (mdrop m n) := fun j => by
    rw [hg j]
    unfold mdrop
    by_cases hj : j = n
    · rw [if_pos hj, if_pos hj]
      exact .inl ⟨rfl, rfl⟩
    · rw [if_neg hj, if_neg hj]
      exact (h3.keep hB) j
  have hC : Cnt (mdrop m n) (szT t') := by
    have hc := h4.drop n
    rcases h3 n with ⟨e1, e2⟩ | ⟨_, _, e1, e2, _⟩
    · rw [if_pos e1] at hc
      rw [(hne e2).2]
      exact hc
    · rw [if_neg (by rw [e1]; simp)] at hc
      have := hso (by rw [e2]; simp)
      rw [show szT t' = szT t - 1 by omega]
      exact hc
  have hM : TrM w' tp' (mdrop m n) := ⟨t', hT, hr h2, hH, hC⟩
  obtain ⟨b, rfl⟩ := hM.ptr
  exact ⟨b, rfl, hM, hB⟩
theorem trm_new (w : World) : Calls Tryz.prog 50 #[] w fun x w' => ∃ b, x = .returned (.pointer (some ⟨b, 0, none⟩)) ∧ TrM w' (.pointer (some ⟨b, 0, none⟩)) (fun _ => none) ∧ Below w.heap.size w w' := by
  refine (new_any w).mono ?_
  rintro x w' ⟨b, b0, rfl, _, _, hT, hB⟩
  exact ⟨b, rfl, ⟨_, hT, ⟨_, _, rfl⟩, fun n => .inl ⟨rfl, new_getV b0 n⟩, by rw [new_sz]; exact Cnt.zero⟩, hB⟩
/-- The pointer holds a Doc of these elements, with its next number. -/
def Dom (w : World) (dp : Value) (m : M) (nx : Int) : Prop :=
  ∃ b tp, dp = .pointer (some ⟨b, 0, none⟩) ∧ w.heap[b]? = some (.cells #[tp, .int .i64 nx] 88 (0, 0)) ∧ TrM w tp m
theorem Dom.keep {w w' : World} {dp : Value} {m : M} {nx : Int} (h : Dom w dp m nx) (hb : Below w.heap.size w w') : Dom w' dp m nx := by
  obtain ⟨b, a, e, h1, h2⟩ := h
  exact ⟨b, a, e, (hb.block _ (Array.getElem?_eq_some_iff.1 h1).1).trans h1, h2.keep hb⟩
theorem Dom.doc {w : World} {dp : Value} {m : M} {nx : Int} (h : Dom w dp m nx) : ∃ t, DocAt w dp t nx ∧ Has w t m ∧ Cnt m (szT t) := by
  obtain ⟨b, tp, e, h1, hT⟩ := h
  obtain ⟨b', rfl⟩ := hT.ptr
  obtain ⟨t, h2, _, h3, h4⟩ := hT
  exact ⟨t, ⟨b, _, e, h1, h2⟩, h3, h4⟩
theorem dom_find {w : World} {dp : Value} {m : M} {nx : Int} (h : Dom w dp m nx) {n : Int} {e : El} (hn : m n = some e) : Calls Tryz.prog 54 #[dp, .int .i64 n] w fun x w' => ∃ s : N5, x = .returned (.tuple #[.agg #[.int .i64 s.id, .string s.tag, .int .i64 s.par, .slice s.ka s.kn s.kc, .slice s.aa s.an s.ac], .int .i64 0]) ∧ ElAt w s e ∧ Below w.heap.size w w' := by
  obtain ⟨t, h1, h2, _⟩ := h.doc
  rcases h2 n with ⟨e1, _⟩ | ⟨e', s, e1, e2, hE⟩
  · rw [hn] at e1; cases e1
  · rw [hn] at e1
    cases e1
    refine (find_some h1 n s e2).mono ?_
    rintro x w' ⟨rfl, hB⟩
    exact ⟨s, rfl, hE, hB⟩
theorem dom_find_none {w : World} {dp : Value} {m : M} {nx : Int} (h : Dom w dp m nx) {n : Int} (hn : m n = none) : Calls Tryz.prog 54 #[dp, .int .i64 n] w fun x w' => x = .returned (.tuple #[.agg #[.int .i64 0, .string ⟨#[]⟩, .int .i64 0, .slice none 0 0, .slice none 0 0], .int .i64 1]) ∧ Below w.heap.size w w' := by
  obtain ⟨t, h1, h2, _⟩ := h.doc
  rcases h2 n with ⟨_, e2⟩ | ⟨e', s, e1, _⟩
  · exact find_none h1 n e2
  · rw [hn] at e1; cases e1

end Go.Proofs.YtdiljkmlneeboaaGreat.N
