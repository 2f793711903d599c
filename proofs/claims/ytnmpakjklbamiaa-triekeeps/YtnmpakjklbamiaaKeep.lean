/- What lies in blocks of other types stays when rows of tries and of lists grow. -/
import Derived.Test.YtnmpakjklbamiaaActs
import Derived.Test.YtnmpakjklbamiaaArgs
namespace Go.Proofs.Ytnmpakjklbamiaa
open Go.RowKit S
set_option maxRecDepth 100000

/-- All blocks of cells but those of pointers to tries and of lists lie as they lay. -/
structure KT (w w' : World) : Prop where
  size : w.heap.size ≤ w'.heap.size
  cells : ∀ (k : Nat) (C : Array Value) (t : Nat) (fr : Nat × Nat), w.heap[k]? = some (Obj.cells C t fr) → t ≠ 25 → t ≠ 27 → w'.heap[k]? = some (Obj.cells C t fr)
theorem KT.refl (w : World) : KT w w := ⟨Nat.le_refl _, fun _ _ _ _ h _ _ => h⟩
theorem KT.trans {a b c : World} (h : KT a b) (k : KT b c) : KT a c := ⟨Nat.le_trans h.size k.size, fun i C t fr h0 h1 h2 => k.cells i C t fr (h.cells i C t fr h0 h1 h2) h1 h2⟩
theorem KT.of_below {a b : World} (h : Below a.heap.size a b) : KT a b := ⟨h.size, fun k _ _ _ h0 _ _ => (h.block k (Array.getElem?_eq_some_iff.1 h0).1).trans h0⟩
theorem row_block {w : World} {B e n : Nat} {v : Value} {xs : List Value} (h : w.ownsRow B e 1 v n xs) {g : Nat} (hg : v.ownBlock = some g) : ∃ C, w.heap[g]? = some (.cells C e (0, 0)) := by
  obtain ⟨_, h⟩ := h
  rcases h with ⟨rfl, _⟩ | ⟨g', cap, cur, rfl, _, hh, _⟩
  · simp [Value.ownBlock] at hg
  · simp [Value.ownBlock] at hg
    subst hg
    exact ⟨cur, hh⟩
theorem KT.append {w w' : World} {B e n : Nat} {v : Value} {xs : List Value} (h : w.ownsRow B e 1 v n xs) (he : e = 25 ∨ e = 27) (hg : w.grownBy w' v.ownBlock) : KT w w' := by
  refine ⟨hg.size, fun k C t fr h0 h1 h2 => (hg.block k (Array.getElem?_eq_some_iff.1 h0).1 (fun e' => ?_)).trans h0⟩
  obtain ⟨C', hc⟩ := row_block h e'.symm
  rw [h0] at hc
  injection hc with hc
  injection hc with _ hc _
  rcases he with rfl | rfl
  · exact h1 hc
  · exact h2 hc
/-- A row of the other type stays. -/
theorem row_stays {w w' : World} {B B' e e' n n' : Nat} {v v' : Value} {xs xs' : List Value} (h : w.ownsRow B e 1 v n xs) (h' : w.ownsRow B' e' 1 v' n' xs') (hne : e ≠ e') (hg : w.grownBy w' v.ownBlock) : w'.ownsRow B' e' 1 v' n' xs' :=
  ownsRow_keep h' fun g hlt hv => hg.block g hlt (fun e1 => by
    obtain ⟨C, hc⟩ := row_block h e1.symm
    obtain ⟨C', hc'⟩ := row_block h' hv
    rw [hc] at hc'
    injection hc' with hc'
    injection hc' with _ hc' _
    exact hne hc')
theorem Held.kt {w w' : World} (hk : KT w w') : ∀ {t : T}, Held (66, 9) w t → Held (66, 9) w' t
  | .nil, _ => trivial
  | .val _ _, h => hk.cells _ _ _ _ h (by decide) (by decide)
  | .node _ _, h => ⟨hk.cells _ _ _ _ h.1 (by decide) (by decide), fun p hp => Held.kt hk (h.2 p hp)⟩
theorem at_kt {w w' : World} {tp : Value} {t : T} (h : S.At w tp t) (hk : KT w w') : S.At w' tp t :=
  ⟨Held.kt hk h.held, h.wf, h.pr, h.lies.imp id fun ⟨b, e, hh⟩ => ⟨b, e, hk.cells _ _ _ _ hh (by decide) (by decide)⟩⟩
/-- The pairs lie in a block of pairs. -/
def PsTy (w : World) (v : Value) : Prop := ∀ b off n c, v = .slice (some ⟨b, off, none⟩) n c → 0 < n → ∃ C fr, w.heap[b]? = some (.cells C 71 fr)
theorem PsTy.own {w : World} {B n : Nat} {v : Value} {xs : List Value} (h : w.ownsRow B 71 2 v n xs) : PsTy w v := by
  intro b off n' c hv h0
  obtain ⟨_, h⟩ := h
  rcases h with ⟨rfl, _⟩ | ⟨g, cap, cur, rfl, _, hh, _⟩
  · cases hv
  · cases hv
    exact ⟨cur, _, hh⟩
theorem PsTy.nil (w : World) : PsTy w (.slice none 0 0) := fun _ _ _ _ h _ => by cases h
theorem PsTy.kt {w w' : World} {v : Value} (h : PsTy w v) (hk : KT w w') : PsTy w' v := fun b off n c hv h0 => by
  obtain ⟨C, fr, hc⟩ := h b off n c hv h0
  exact ⟨C, fr, hk.cells _ _ _ _ hc (by decide) (by decide)⟩
theorem PsAt.kt {w w' : World} {v : Value} {l : List Pr} (h : PsAt w v l) (ht : PsTy w v) (hk : KT w w') : PsAt w' v l := by
  obtain ⟨a, cap, e, h1, h2, h3⟩ := h
  refine ⟨a, cap, e, h1, h2, fun h0 => ?_⟩
  obtain ⟨b, off, rfl, hlt, hc⟩ := h3 h0
  obtain ⟨C, fr, hC⟩ := ht b off _ _ e h0
  have hs : w'.heap[b]? = w.heap[b]? := (hk.cells _ _ _ _ hC (by decide) (by decide)).trans hC.symm
  have hcell : ∀ o, w'.cell? ⟨b, o, none⟩ = w.cell? ⟨b, o, none⟩ := fun o => by simp only [World.cell?, hs]
  exact ⟨b, off, rfl, Nat.lt_of_lt_of_le hlt hk.size, fun i hi => ⟨(hcell _).trans (hc i hi).1, (hcell _).trans (hc i hi).2⟩⟩
/-- One trie of those that were, with the document's pairs. -/
structure It where
  b : Nat
  t : T
  v : Value
  l : List Pr
def It.p (x : It) : Value := .pointer (some ⟨x.b, 0, none⟩)
structure Good (w : World) (x : It) : Prop where
  lies : S.At w x.p x.t
  lk : Lk x.t x.l
  ps : PsAt w x.v x.l
  ty : PsTy w x.v
theorem Good.kt {w w' : World} {x : It} (h : Good w x) (hk : KT w w') : Good w' x := ⟨at_kt h.lies hk, h.lk, h.ps.kt h.ty hk, h.ty.kt hk⟩

end Go.Proofs.Ytnmpakjklbamiaa
