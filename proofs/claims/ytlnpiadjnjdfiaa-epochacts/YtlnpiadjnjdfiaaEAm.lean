/- EpochActs: the two side by side. -/
import Derived.Test.YtlnpiadjnjdfiaaEWd
import Derived.Test.YtlnpiadjnjdfiaaERf
import Derived.Test.YtlnpiadjnjdfiaaEAc
namespace Go.Proofs.Ytlnpiadjnjdfiaa.E
open Go.RowKit
set_option maxRecDepth 100000

/-- The program's epochs, and the document's, apart in memory. -/
structure Ac (W w : World) (X : EX) (v : Value) (K : List It) (rb : Nat) (rnow : Int) (us : Value) (rS : List Int) (ul : Value) (L : List It) : Prop where
  lv : LvE W w X v K
  rs : RS w rb rnow us rS ul L
  rlo : W.heap.size ≤ rb
  nb : rb ≠ X.b
  vb : v.ownBlock ≠ some rb
  ubs : us.ownBlock ≠ some X.b
  ulb : ul.ownBlock ≠ some X.b
  dsv : ∀ g, v.ownBlock = some g → us.ownBlock ≠ some g ∧ ul.ownBlock ≠ some g
theorem Ac.ex {W w w' : World} {X X' : EX} {v v' us ul : Value} {K K' L : List It} {rb : Nat} {rnow : Int} {rS : List Int} (h : Ac W w X v K rb rnow us rS ul L) (he : EO w' X' v' K') (hb : X'.b = X.b) (hk : Kv X.b v w v' w') : Ac W w' X' v' K' rb rnow us rS ul L := by
  have hrb := h.rs.lt
  have hus : ∀ g, us.ownBlock = some g → g < w.heap.size ∧ g ≠ X.b ∧ v.ownBlock ≠ some g := fun g e => ⟨own_lt h.rs.rs e, fun e' => h.ubs (by rw [e, e']), fun e' => (h.dsv g e').1 e⟩
  have hul : ∀ g, ul.ownBlock = some g → g < w.heap.size ∧ g ≠ X.b ∧ v.ownBlock ≠ some g := fun g e => ⟨own_lt h.rs.rl e, fun e' => h.ulb (by rw [e, e']), fun e' => (h.dsv g e').2 e⟩
  refine ⟨h.lv.step he hb hk, ⟨(hk.block rb hrb h.nb h.vb).trans h.rs.box, ownsRow_keep h.rs.rs (fun g _ e => hk.block g (hus g e).1 (hus g e).2.1 (hus g e).2.2), ownsRow_keep h.rs.rl (fun g _ e => hk.block g (hul g e).1 (hul g e).2.1 (hul g e).2.2), h.rs.ds, h.rs.dl⟩, h.rlo, by rw [hb]; exact h.nb, fun e => ?_, by rw [hb]; exact h.ubs, by rw [hb]; exact h.ulb, fun g e => ?_⟩
  · rcases hk.own rb e with e' | e'
    · exact h.vb e'
    · omega
  · rcases hk.own g e with e' | e'
    · exact h.dsv g e'
    · exact ⟨fun e2 => by have := (hus g e2).1; omega, fun e2 => by have := (hul g e2).1; omega⟩
theorem Ac.er {W w w' : World} {X : EX} {v us ul us' ul' : Value} {K L L' : List It} {rb : Nat} {rnow rnow' : Int} {rS rS' : List Int} (h : Ac W w X v K rb rnow us rS ul L) (hr : RS w' rb rnow' us' rS' ul' L') (hk : Kx rb rb w w') (hus : us' = us ∨ ∀ g, us'.ownBlock = some g → w.heap.size ≤ g) (hul : ul' = ul ∨ ∀ g, ul'.ownBlock = some g → w.heap.size ≤ g) : Ac W w' X v K rb rnow' us' rS' ul' L' := by
  have hbl := h.lv.eo.es.bx.lt
  have hvl : ∀ g, v.ownBlock = some g → g < w.heap.size ∧ g ≠ rb := fun g e => ⟨h.lv.eo.es.lt e, fun e' => h.vb (by rw [e, e'])⟩
  have hes := h.lv.eo.es
  have hbb : w'.heap[X.b]? = w.heap[X.b]? := hk.block _ hbl (fun e => h.nb e.symm) (fun e => h.nb e.symm)
  refine ⟨⟨⟨⟨hes.bx.keep hbb, ownsRow_keep hes.row (fun g _ e => hk.block g (hvl g e).1 (hvl g e).2 (hvl g e).2), hes.ne⟩, h.lv.eo.m, h.lv.eo.n1, h.lv.eo.n8, h.lv.eo.hp⟩, h.lv.below.trans (hk.below h.rlo h.rlo h.lv.below.size), h.lv.lo, h.lv.own⟩, hr, h.rlo, h.nb, h.vb, ?_, ?_, fun g e => ⟨?_, ?_⟩⟩
  · rcases hus with rfl | hus
    · exact h.ubs
    · intro e
      have := hus _ e
      omega
  · rcases hul with rfl | hul
    · exact h.ulb
    · intro e
      have := hul _ e
      omega
  · rcases hus with rfl | hus
    · exact (h.dsv g e).1
    · intro e2
      have := hus _ e2
      have := (hvl g e).1
      omega
  · rcases hul with rfl | hul
    · exact (h.dsv g e).2
    · intro e2
      have := hul _ e2
      have := (hvl g e).1
      omega
theorem Ac.keep {W w w' : World} {X : EX} {v us ul : Value} {K L : List It} {rb : Nat} {rnow : Int} {rS : List Int} (h : Ac W w X v K rb rnow us rS ul L) (hb : Below w.heap.size w w') : Ac W w' X v K rb rnow us rS ul L :=
  ⟨h.lv.keep hb, h.rs.keep hb, h.rlo, h.nb, h.vb, h.ubs, h.ulb, h.dsv⟩
theorem take_at {S : List Int} {n i : Nat} (h : i < n) : (S.take n)[i]? = S[i]? := List.getElem?_take_of_lt h
theorem take_len {S : List Int} {n : Nat} (h : S.length = 8) (hn : n ≤ 8) : (S.take n).length = n := by rw [List.length_take]; omega
theorem free_take {S : List Int} {n k : Nat} (h : FreeAt n S k) : FreeAt n (S.take n) k :=
  ⟨h.1, (take_at h.1).trans h.2.1, fun i e hi he => h.2.2 i e hi ((take_at (by have := h.1; omega)).symm.trans he)⟩
theorem nofree_take {S : List Int} {n : Nat} (h : NoFree n S) : NoFree n (S.take n) := fun i e hi he => h i e hi ((take_at hi).symm.trans he)
theorem take_set {S : List Int} {n k : Nat} (x : Int) : (S.set k x).take n = (S.take n).set k x := by
  rw [List.take_set]
theorem pin_take {S : List Int} {n : Nat} (hS : S.length = 8) (hn : n ≤ 8) (i : Int) : pinZ (S.take n).length (S.take n) i = pinZ n S i := by
  rw [take_len hS hn]
  unfold pinZ
  split
  · rename_i h
    have h : 0 ≤ i ∧ i < (n : Int) := of_decide_eq_true h
    rw [List.getD_eq_getElem?_getD, List.getD_eq_getElem?_getD, take_at (by omega)]
  · rfl
theorem rpin_first {w : World} {b : Nat} {now : Int} {us ul : Value} {S : List Int} {L : List It} (h : RS w b now us S ul L) (h8 : S.length ≤ 8) {k : Nat} (hf : FreeAt S.length S k) : Calls Try.prog 14 #[.pointer (some ⟨b, 0, none⟩)] w fun e w' => e = .returned (.tuple #[.int .i64 (k : Int), .int .i64 0]) ∧ ∃ u, RS w' b now u (S.set k now) ul L ∧ Kx b b w w' ∧ ∀ g, u.ownBlock = some g → w.heap.size ≤ g := by
  refine (rpin_any h h8).mono ?_
  rintro e w' (⟨j, u, hj, he, hr, hk, hu⟩ | ⟨hn, _⟩)
  · obtain rfl : j = k := by
      rcases Nat.lt_trichotomy j k with h1 | h1 | h1
      · exact absurd rfl (hf.2.2 j 0 h1 hj.2.1)
      · exact h1
      · exact absurd rfl (hj.2.2 k 0 h1 hf.2.1)
    exact ⟨he, u, hr, hk, hu⟩
  · exact absurd rfl (hn k 0 hf.1 hf.2.1)
theorem rpin_full {w : World} {b : Nat} {now : Int} {us ul : Value} {S : List Int} {L : List It} (h : RS w b now us S ul L) (h8 : S.length ≤ 8) (hf : NoFree S.length S) : Calls Try.prog 14 #[.pointer (some ⟨b, 0, none⟩)] w fun e w' => e = .returned (.tuple #[.int .i64 0, .int .i64 6]) ∧ w' = w := by
  refine (rpin_any h h8).mono ?_
  rintro e w' (⟨j, u, hj, _⟩ | ⟨_, he, _, hw⟩)
  · exact absurd rfl (hf j 0 hj.1 hj.2.1)
  · exact ⟨he, hw⟩
/-- What is given up is just what the document gives up, in its order. -/
theorem ids_eq {p : Int × Bool} {K R L : List It} (hp : (R ++ K).Perm L) (hL : Srt L) (ho : ∀ r ∈ R, okR p r) (hn : ∀ k ∈ K, ¬ okR p k) (hs : Srt R) : R = L.filter (okB p) ∧ K.Perm (L.filter fun r => !okB p r) := by
  have h1 : (R ++ K).filter (okB p) = R := by
    rw [List.filter_append, List.filter_eq_self.2 (fun r hr => (okB_iff p r).2 (ho r hr)), List.filter_eq_nil_iff.2 (fun k hk e => hn k hk ((okB_iff p k).1 e)), List.append_nil]
  have h2 : (R ++ K).filter (fun r => !okB p r) = K := by
    rw [List.filter_append, List.filter_eq_nil_iff.2 (fun r hr e => by rw [(okB_iff p r).2 (ho r hr)] at e; cases e), List.nil_append, List.filter_eq_self.2 (fun k hk => by
      have : okB p k = false := by
        rw [Bool.eq_false_iff]
        exact fun e => hn k hk ((okB_iff p k).1 e)
      rw [this]; rfl)]
  have p1 := hp.filter (okB p)
  have p2 := hp.filter (fun r => !okB p r)
  rw [h1] at p1
  rw [h2] at p2
  exact ⟨srt_uniq p1 hs (List.Pairwise.filter _ hL), p2⟩
end Go.Proofs.Ytlnpiadjnjdfiaa.E
