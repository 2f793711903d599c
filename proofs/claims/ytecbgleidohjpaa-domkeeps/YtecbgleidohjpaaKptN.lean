/- Trees that stand while rows of pointers grow. -/
import Derived.Test.YtecbgleidohjpaaPrwN
import Derived.Test.YtecbgleidohjpaaPakN
import Derived.Test.YtecbgleidohjpaaRfD
namespace Go.Proofs.Ytecbgleidohjpaa.N
open Go.RowKit
set_option maxRecDepth 100000

theorem RowAt.kpt {w w' : World} {sz n c : Nat} {a : Option Addr} {xs : List Value} (h : RowAt w sz a n c xs) (k : KpT w w') (hx : ∀ u ∈ xs, NP u) : RowAt w' sz a n c xs := by
  obtain ⟨h1, h2, h3, h4, h5⟩ := h
  refine ⟨h1, h2, h3, h4, ?_⟩
  rcases h5 with h | ⟨b, off, e, hl, hc⟩
  · exact .inl h
  · exact .inr ⟨b, off, e, Nat.lt_of_lt_of_le hl k.size, fun j u hu => k.cell _ _ (hc j u hu) (hx u (List.mem_of_getElem? hu))⟩
theorem np_ints (l : List Int) : ∀ u ∈ intsV l, NP u := fun u hu p e => by
  obtain ⟨x, _, rfl⟩ := List.mem_map.1 hu
  cases e
theorem np_attrs (l : List (ByteArray × ByteArray)) : ∀ u ∈ attrsV l, NP u := fun u hu p e => by
  unfold attrsV at hu
  obtain ⟨x, _, hx⟩ := List.mem_flatMap.1 hu
  simp only [List.mem_cons, List.not_mem_nil, or_false] at hx
  rcases hx with rfl | rfl <;> cases e
theorem np_c5 (ss : List N5) : ∀ u ∈ ss.flatMap c5, NP u := fun u hu p e => by
  obtain ⟨x, _, hx⟩ := List.mem_flatMap.1 hu
  simp only [c5, List.mem_cons, List.not_mem_nil, or_false] at hx
  rcases hx with rfl | rfl | rfl | rfl | rfl <;> cases e
theorem ElAt.kpt {w w' : World} {s : N5} {e : El} (h : ElAt w s e) (k : KpT w w') : ElAt w' s e :=
  ⟨h.1, h.2.1, h.2.2.1, h.2.2.2.1.kpt k (np_ints _), h.2.2.2.2.kpt k (np_attrs _)⟩
theorem held_kpt {ty : Nat × Nat} {w w' : World} (k : KpT w w') (h1 : ty.1 ≠ 25) (h2 : ty.1 ≠ 29) (h3 : ty.2 ≠ 25) (h4 : ty.2 ≠ 29) : ∀ {t : T}, Held ty w t → Held ty w' t
  | .nil, _ => trivial
  | .val _ _, ⟨s, e, h⟩ => ⟨s, e, k.blk _ _ _ _ h h3 h4⟩
  | .node _ _, ⟨h, r⟩ => ⟨k.blk _ _ _ _ h h1 h2, fun p hp => held_kpt k h1 h2 h3 h4 (r p hp)⟩
theorem At.kpt {w w' : World} {tp : Value} {t : T} (h : At w tp t) (k : KpT w w') : At w' tp t :=
  ⟨held_kpt k (by decide) (by decide) (by decide) (by decide) h.held, h.wf, h.pr, h.lies.imp id fun ⟨b, e, hh⟩ => ⟨b, e, k.blk _ _ _ _ hh (by decide) (by decide)⟩⟩
theorem Tree.kpt {w w' : World} {dp : Value} {m : M} {nx : Int} (h : Tree w dp m nx) (k : KpT w w') : Tree w' dp m nx := by
  obtain ⟨⟨b, tp, e, h1, t, h2, h3, h4, h5⟩, hI⟩ := h
  exact ⟨⟨b, tp, e, k.blk _ _ _ _ h1 (by decide) (by decide), t, At.kpt h2 k, h3, fun n => (h4 n).imp id fun ⟨e, s, g1, g2, g3⟩ => ⟨e, s, g1, g2, g3.kpt k⟩, h5⟩, hI⟩
theorem RTree.kpt {w w' : World} {rp : Value} {L : List El} {m : M} {nx : Int} (h : RTree w rp L m nx) (k : KpT w w') : RTree w' rp L m nx := by
  obtain ⟨⟨b, a, n, c, e, h1, ss, h2, h3, h4⟩, hI⟩ := h
  exact ⟨⟨b, a, n, c, e, k.blk _ _ _ _ h1 (by decide) (by decide), ss, h2.kpt k (np_c5 _), h3, fun i hi hi' => (h4 i hi hi').kpt k⟩, hI⟩
end Go.Proofs.Ytecbgleidohjpaa.N
