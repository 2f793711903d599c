/- EpochSafe: what was retired and what is gone, plainly; in memory. -/
import Derived.Test.YtlnpiadjnjdfiaaEMm
namespace Go.Proofs.Ytlnpiadjnjdfiaa.E
open Go.RowKit
set_option maxRecDepth 100000

/-- What waits was retired, and isn't gone; what was retired waits, or is gone. -/
structure Inv (T : List Int) (G : List Bool) (L : List It) : Prop where
  nd : (L.map Prod.fst).Nodup
  wait : ∀ r ∈ L, ∃ k : Nat, r.1 = (k : Int) ∧ T[k]? = some r.2 ∧ G[k]? = some false
  was : ∀ (k : Nat) (e : Int), T[k]? = some e → G[k]? = some true ∨ ((k : Int), e) ∈ L
  new : ∀ k : Nat, T.length ≤ k → k < G.length → G[k]? = some false
theorem Inv.perm {T : List Int} {G : List Bool} {L L' : List It} (h : Inv T G L) (hp : L'.Perm L) : Inv T G L' :=
  ⟨(hp.map Prod.fst).nodup_iff.2 h.nd, fun r hr => h.wait r (hp.subset hr), fun k e hk => (h.was k e hk).imp id (fun hm => hp.symm.subset hm), h.new⟩
theorem Inv.start (n : Nat) : Inv [] (List.replicate n false) [] := ⟨by simp, by simp, by simp, fun k _ hk => by simp at hk; simp [hk]⟩
theorem Inv.retire {T : List Int} {G : List Bool} {L : List It} (h : Inv T G L) (hl : T.length < G.length) (e : Int) : Inv (T ++ [e]) G (L ++ [((T.length : Int), e)]) := by
  refine ⟨?_, fun r hr => ?_, fun k e' hk => ?_, fun k hk hk2 => h.new k (by simp at hk; omega) hk2⟩
  · rw [List.map_append, List.nodup_append]
    refine ⟨h.nd, by simp, fun a ha b hb => ?_⟩
    obtain ⟨r, hr, rfl⟩ := List.mem_map.1 ha
    obtain rfl : b = (T.length : Int) := by simpa using hb
    obtain ⟨k, hk, ht, _⟩ := h.wait r hr
    have := (List.getElem?_eq_some_iff.1 ht).1
    rw [hk]
    omega
  · rcases List.mem_append.1 hr with hr | hr
    · obtain ⟨k, h1, h2, h3⟩ := h.wait r hr
      have := (List.getElem?_eq_some_iff.1 h2).1
      exact ⟨k, h1, by rw [List.getElem?_append_left this]; exact h2, h3⟩
    · obtain rfl : r = ((T.length : Int), e) := by simpa using hr
      exact ⟨T.length, rfl, by simp, h.new _ (Nat.le_refl _) hl⟩
  · by_cases hkl : k < T.length
    · rw [List.getElem?_append_left hkl] at hk
      exact (h.was k e' hk).imp id (fun hm => List.mem_append_left _ hm)
    · have hk2 := (List.getElem?_eq_some_iff.1 hk).1
      rw [List.length_append, List.length_singleton] at hk2
      obtain rfl : k = T.length := by omega
      obtain rfl : e = e' := by simpa using hk
      exact .inr (List.mem_append_right _ (by simp))
theorem Inv.give {T : List Int} {G : List Bool} {L : List It} {r : It} (h : Inv T G (r :: L)) : ∃ k : Nat, r.1 = (k : Int) ∧ T[k]? = some r.2 ∧ G[k]? = some false ∧ Inv T (G.set k true) L := by
  obtain ⟨k, h1, h2, h3⟩ := h.wait r (List.mem_cons_self ..)
  have hnd := h.nd
  rw [List.map_cons, List.nodup_cons] at hnd
  refine ⟨k, h1, h2, h3, hnd.2, fun q hq => ?_, fun j e hj => ?_, fun j hj hj2 => ?_⟩
  · obtain ⟨j, g1, g2, g3⟩ := h.wait q (List.mem_cons_of_mem _ hq)
    refine ⟨j, g1, g2, ?_⟩
    rw [List.getElem?_set_ne]
    · exact g3
    · rintro rfl
      exact hnd.1 (List.mem_map.2 ⟨q, hq, by rw [g1, h1]⟩)
  · by_cases e1 : k = j
    · subst e1
      exact .inl (by rw [List.getElem?_set_self (List.getElem?_eq_some_iff.1 h3).1])
    · rw [List.getElem?_set_ne e1]
      rcases h.was j e hj with hg | hg
      · exact .inl hg
      · rcases List.mem_cons.1 hg with hg | hg
        · exfalso
          apply e1
          have : r.1 = (j : Int) := by rw [← hg]
          omega
        · exact .inr hg
  · rw [List.length_set] at hj2
    have := (List.getElem?_eq_some_iff.1 h2).1
    rw [List.getElem?_set_ne (by omega)]
    exact h.new j hj hj2

/-- Epochs, when each was retired, and what is gone. -/
structure SfM (W w : World) (X : EX) (v : Value) (L : List It) (ut : Value) (T : List Int) (ug : Value) (G : List Bool) : Prop where
  lv : LvE W w X v L
  wh : w.ownsRow W.heap.size 3 1 ut T.length (T.map iv)
  gn : w.ownsRow W.heap.size 4 1 ug G.length (G.map Value.bool)
  d1 : ∀ k, ut.ownBlock = some k → k ≠ X.b ∧ v.ownBlock ≠ some k ∧ ug.ownBlock ≠ some k
  d2 : ∀ k, ug.ownBlock = some k → k ≠ X.b ∧ v.ownBlock ≠ some k
theorem SfM.op {W w w' : World} {X X' : EX} {v v' : Value} {L L' : List It} {ut ug : Value} {T : List Int} {G : List Bool} (h : SfM W w X v L ut T ug G) (he : EO w' X' v' L') (hb : X'.b = X.b) (hk : Kv X.b v w v' w') : SfM W w' X' v' L' ut T ug G := by
  refine ⟨h.lv.step he hb hk, ownsRow_keep h.wh fun g hg e => hk.block g hg (h.d1 g e).1 (h.d1 g e).2.1, ownsRow_keep h.gn fun g hg e => hk.block g hg (h.d2 g e).1 (h.d2 g e).2, fun k e => ?_, fun k e => ?_⟩
  · have hd := h.d1 k e
    refine ⟨by rw [hb]; exact hd.1, fun e2 => ?_, hd.2.2⟩
    rcases hk.own k e2 with e3 | e3
    · exact hd.2.1 e3
    · have := (h.wh.lt k e).2; omega
  · have hd := h.d2 k e
    refine ⟨by rw [hb]; exact hd.1, fun e2 => ?_⟩
    rcases hk.own k e2 with e3 | e3
    · exact hd.2 e3
    · have := (h.gn.lt k e).2; omega
theorem SfM.keep {W w w' : World} {X : EX} {v : Value} {L : List It} {ut ug : Value} {T : List Int} {G : List Bool} (h : SfM W w X v L ut T ug G) (hb : Below w.heap.size w w') : SfM W w' X v L ut T ug G :=
  h.op (h.lv.eo.keep hb) rfl (Kv.of_below hb)
theorem SfM.perm {W w : World} {X : EX} {v : Value} {L : List It} {ut ug : Value} {T : List Int} {G : List Bool} (h : SfM W w X v L ut T ug G) : SfM W w X v L ut T ug G := h
/-- One number more in the row of epochs. -/
theorem SfM.app {W w w' : World} {X : EX} {v : Value} {L : List It} {ut ut' ug : Value} {T : List Int} {G : List Bool} {e : Int} {z : Obj} (h : SfM W w X v L ut T ug G) (hu : w'.ownsRow W.heap.size 3 1 ut' (T.length + 1) (T.map iv ++ [iv e])) (hg : (w.alloc z).grownBy w' ut.ownBlock) (hat : ut'.ownBlock = ut.ownBlock ∨ ut'.ownBlock = some (w.alloc z).heap.size) : SfM W w' X v L ut' (T ++ [e]) ug G := by
  have hb : Below w.heap.size w (w.alloc z) := (Below.refl _ _).alloc (Nat.le_refl _) _
  have hs : w.heap.size ≤ (w.alloc z).heap.size := hb.size
  have h1 := h.keep hb
  have hblk : ∀ k, k < (w.alloc z).heap.size → ut.ownBlock ≠ some k → w'.heap[k]? = (w.alloc z).heap[k]? := fun k hk hne => hg.block k hk (fun e => hne e.symm)
  have hXl := h1.lv.eo.es.bx.lt
  have hes : ES w' X v L := ⟨h1.lv.eo.es.bx.keep (hblk _ hXl (fun e => (h.d1 _ e).1 rfl)), ownsRow_keep h1.lv.eo.es.row (fun g hgl e => hblk g hgl (fun e2 => (h.d1 g e2).2.1 e)), h1.lv.eo.es.ne⟩
  have hbel : Below W.heap.size W w' := ⟨hg.os.trans h1.lv.below.os, hg.tape.trans h1.lv.below.tape, hg.output.trans h1.lv.below.output, Nat.le_trans h1.lv.below.size hg.size, fun k hk => (hblk k (Nat.lt_of_lt_of_le hk h1.lv.below.size) (fun e => by have := (h.wh.lt k e).1; omega)).trans (h1.lv.below.block k hk)⟩
  refine ⟨⟨⟨hes, h1.lv.eo.m, h1.lv.eo.n1, h1.lv.eo.n8, h1.lv.eo.hp⟩, hbel, h1.lv.lo, h1.lv.own⟩, ?_, ownsRow_keep h1.gn (fun g hgl e => hblk g hgl (fun e2 => (h.d1 g e2).2.2 e)), fun k ek => ?_, h.d2⟩
  · rw [List.length_append, List.map_append]
    exact hu
  · rcases hat with ha | ha
    · exact h.d1 k (by rw [← ha]; exact ek)
    · rw [ek] at ha
      have ha : k = (w.alloc z).heap.size := Option.some.inj ha
      refine ⟨by omega, fun e2 => ?_, fun e2 => ?_⟩
      · have := h1.lv.eo.es.lt e2; omega
      · have := (h1.gn.lt k e2).2; omega
/-- One more is gone. -/
theorem SfM.set {W w : World} {X : EX} {v : Value} {L : List It} {ut ug : Value} {T : List Int} {G : List Bool} (h : SfM W w X v L ut T ug G) {g : Nat} (hg : ug.ownBlock = some g) (k : Nat) (x : Bool) : SfM W (w.setCell ⟨g, k, none⟩ (.bool x)) X v L ut T ug (G.set k x) := by
  have hd := h.d2 g hg
  have hgl := h.gn.lt g hg
  have hblk : ∀ j, j ≠ g → (w.setCell ⟨g, k, none⟩ (.bool x)).heap[j]? = w.heap[j]? := fun j hj => Below.heap_setCell w ⟨g, k, none⟩ _ j hj
  refine ⟨⟨⟨⟨h.lv.eo.es.bx.keep (hblk _ (Ne.symm hd.1)), ownsRow_keep h.lv.eo.es.row (fun j _ e => hblk j (fun e2 => hd.2 (by rw [← e2]; exact e))), h.lv.eo.es.ne⟩, h.lv.eo.m, h.lv.eo.n1, h.lv.eo.n8, h.lv.eo.hp⟩, h.lv.below.setCell (p := ⟨g, k, none⟩) hgl.1 _, h.lv.lo, h.lv.own⟩, ownsRow_keep h.wh (fun j _ e => hblk j (fun e2 => (h.d1 j e).2.2 (by rw [e2]; exact hg))), ?_, h.d1, h.d2⟩
  have := ownsRow_set h.gn hg k (.bool x)
  rw [List.length_set, List.map_set]
  exact this
/-- What is there to read. -/
theorem own_cell {w : World} {B n : Nat} {e : TypeId} {u : Value} {xs : List Value} (h : w.ownsRow B e 1 u n xs) {k : Nat} {x : Value} (hx : xs[k]? = some x) : ∃ g c, u = .slice (some ⟨g, 0, none⟩) n c ∧ n ≤ c ∧ c ≤ maxLen ∧ w.cell? ⟨g, k, none⟩ = some x ∧ u.ownBlock = some g ∧ w.frozen? ⟨g, k, none⟩ = false := by
  have hk := (List.getElem?_eq_some_iff.1 hx).1
  rcases h.2 with ⟨rfl, hn⟩ | ⟨g, cap, cur, rfl, h1, h2, h3, h4, h5, h6⟩
  · have := h.1; omega
  · refine ⟨g, cap, rfl, h3, h4, ?_, rfl, by simp [World.frozen?, h2]⟩
    have := h.cells (g := g) rfl k x hx
    simpa [Addr.add_mid] using this
end Go.Proofs.Ytlnpiadjnjdfiaa.E
