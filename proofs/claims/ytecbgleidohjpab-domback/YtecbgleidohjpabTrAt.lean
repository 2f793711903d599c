/- A trie in memory. -/
import Derived.Test.YtecbgleidohjpabMath2
namespace Go.Proofs.Ytecbgleidohjpab
open Go.RowKit

/-- The pointer tp is to a trie whose nodes are t; its counts are t's. -/
structure TrAt (ty : Nat × Nat) (tt : Nat) (w : World) (tp : Value) (t : T) : Prop where
  held : Held ty w t
  wf : wfT 5 t
  pr : prR t
  lies : (tp = .pointer none ∧ t = .nil) ∨ ∃ b, tp = .pointer (some ⟨b, 0, none⟩) ∧ w.heap[b]? = some (.cells #[t.bp, .int .i64 (szT t), .int .i64 (cntT t)] tt (0, 0))
theorem TrAt.keep {ty : Nat × Nat} {tt : Nat} {w w' : World} {tp : Value} {t : T} (h : TrAt ty tt w tp t) (hb : Below w.heap.size w w') : TrAt ty tt w' tp t :=
  ⟨h.held.keep hb, h.wf, h.pr, h.lies.imp id fun ⟨b, e, hh⟩ => ⟨b, e, (hb.block _ (Array.getElem?_eq_some_iff.1 hh).1).trans hh⟩⟩
theorem TrAt.ptr {ty : Nat × Nat} {tt : Nat} {w : World} {tp : Value} {t : T} (h : TrAt ty tt w tp t) : ∃ a, tp = .pointer a := by
  rcases h.lies with ⟨e, _⟩ | ⟨b, e, _⟩
  · exact ⟨_, e⟩
  · exact ⟨_, e⟩
/-- What is there for a number. -/
def gotT (t : T) (n : Int) : T := if 0 ≤ n ∧ n < 1048576 then findT 5 t n.toNat else .nil
theorem Held.find {ty : Nat × Nat} {w : World} : ∀ {L n : Nat} {t : T}, Held ty w t → Held ty w (findT L t n)
  | 0, _, _, h => h
  | L + 1, n, t, h => Held.find (L := L) (n := n) (t := t.kid (prt n L)) (h.kid _ (prt_lt _ _))
theorem Held.got {ty : Nat × Nat} {w : World} {t : T} (h : Held ty w t) (n : Int) : Held ty w (gotT t n) := by
  unfold gotT
  split
  · exact h.find
  · trivial
theorem wf_find : ∀ {L n : Nat} {t : T}, wfT L t → wfT 0 (findT L t n)
  | 0, _, _, h => h
  | L + 1, n, t, h => wf_find (L := L) (n := n) (t := t.kid (prt n L)) (h.kid _ (prt_lt _ _))
theorem wf_got {t : T} (h : wfT 5 t) (n : Int) : wfT 0 (gotT t n) := by
  unfold gotT
  split
  · exact wf_find h
  · exact wfT.nil 0
/-- It is nothing, or a value. -/
theorem got_cases {t : T} (h : wfT 5 t) (n : Int) : gotT t n = .nil ∨ ∃ b v, gotT t n = .val b v := by
  have := wf_got h n
  cases e : gotT t n with
  | nil => exact .inl rfl
  | val b v => exact .inr ⟨b, v, rfl⟩
  | node b k => rw [e] at this; exact absurd rfl (this b k)
theorem got_in {t : T} {n : Nat} (h : n < 1048576) : gotT t (n : Int) = findT 5 t n := by
  unfold gotT
  rw [if_pos (by omega)]
  rfl
theorem got_out {t : T} {n : Int} (h : ¬ (0 ≤ n ∧ n < 1048576)) : gotT t n = .nil := by
  unfold gotT
  rw [if_neg h]

theorem way_le : ∀ (L : Nat) (t : T) (n : Nat), wayT L t n ≤ L
  | 0, _, _ => Nat.le_refl _
  | L + 1, .node _ _, n => Nat.succ_le_succ (way_le L _ n)
  | _ + 1, .nil, _ => Nat.zero_le _
  | _ + 1, .val _ _, _ => Nat.zero_le _
theorem TrAt.bounds {ty : Nat × Nat} {tt : Nat} {w : World} {tp : Value} {t : T} (h : TrAt ty tt w tp t) : szT t ≤ 1048576 ∧ cntT t ≤ 2097152 := by
  have h1 := sz_le 5 t h.wf
  have h2 := cnt_le 5 t h.wf
  have e : 16 ^ 5 = 1048576 := rfl
  omega
end Go.Proofs.Ytecbgleidohjpab
