/- slices.Collect of the pile. -/
import Derived.Test.YtmpppijgjbfolaaCEa
import Derived.Maps.OwnIn
import Derived.Deep.DeepMust
import Derived.OwnWalkIn
namespace Go.Proofs.Ytmpppijgjbfolaa.C
open Go.RowKit Go.Shelf
set_option maxRecDepth 100000
attribute [local go_sem] Oper.semAt_some

theorem Try.info26s : (Try.prog.info? 26).map (fun i => (i.zero, i.size, i.bytes)) = some (some (.agg #[.string ⟨#[]⟩, .string ⟨#[]⟩, .int .i64 0, .bool false, .int .i64 0, .int .i64 0, .int .i64 0, .int .i64 0]), 8, 80) := by kernel_rfl
/-- What is gathered: a variable in block S, its row in blocks of its own. -/
def CoI (n0 n1 S : Nat) (w : World) (pre : List E8) (A : World) : Prop := ∃ v, A.heap[S]? = some (.cells #[v] 22 (0, 0)) ∧ A.ownsRow n1 26 8 v pre.length (pre.flatMap c8) ∧ S < n1 ∧ n1 ≤ A.heap.size ∧ Below n0 w A
theorem CoI.it {n0 n1 S B g : Nat} {w : World} {pre : List E8} {A A' : World} (h : CoI n0 n1 S w pre A) (k : ItP B g A A') (hB : n0 ≤ B ∧ B < S) (hg : n0 ≤ g ∧ g < S) : CoI n0 n1 S w pre A' := by
  obtain ⟨v, h1, h2, h3, h4, h5⟩ := h
  have hS := (Array.getElem?_eq_some_iff.1 h1).1
  refine ⟨v, (k.1.block S hS (by omega) (by omega)).trans h1, ownsRow_keep h2 fun j hj e => k.1.block j hj ?_ ?_, h3, Nat.le_trans h4 k.1.size, h5.trans (k.1.below hB.1 hg.1 (by omega))⟩
  · have := (h2.lt j e).1; omega
  · have := (h2.lt j e).1; omega
theorem CoI.putO {n0 n1 S l : Nat} {w : World} {pre : List E8} {A : World} {o : Obj} (h : CoI n0 n1 S w pre A) (hl : n0 ≤ l) (ho : A.heap[l]? = some o) (hc : o.isCells = false) (o' : Obj) : CoI n0 n1 S w pre (A.putObj l o') := by
  obtain ⟨v, h1, h2, h3, h4, h5⟩ := h
  have hne : ∀ (g : Nat) (ob : Obj), A.heap[g]? = some ob → ob.isCells = true → (A.putObj l o').heap[g]? = A.heap[g]? := fun g ob hg hi => World.putObj_heap_other (fun e => by
    subst e
    rw [hg] at ho
    injection ho with ho
    subst ho
    rw [hc] at hi
    cases hi)
  refine ⟨v, (hne S _ h1 rfl).trans h1, ownsRow_keep h2 (fun g hg hv => ?_), h3, by simpa [World.putObj] using h4, h5.trans ⟨rfl, rfl, rfl, by simp [World.putObj], fun j hj => World.putObj_heap_other (by omega)⟩⟩
  rcases h2.2 with ⟨rfl, _⟩ | ⟨g', cap, cur, rfl, _, h2, _⟩
  · cases hv
  · have e : g' = g := Option.some.inj hv
    subst e
    exact hne g' _ h2 rfl
theorem col_step {n0 n1 S B g : Nat} {w A w5 : World} {v v' : Value} {pre : List E8} {x : E8} {tmp : Obj} (h1 : A.heap[S]? = some (.cells #[v] 22 (0, 0))) (h2 : A.ownsRow n1 26 8 v pre.length (pre.flatMap c8)) (h3 : S < n1) (h4 : n1 ≤ A.heap.size) (h5 : Below n0 w A) (hB : n0 ≤ B ∧ B < S) (hg : n0 ≤ g ∧ g < S)
    (hown : w5.ownsRow n1 26 8 v' (pre.length + 1) (pre.flatMap c8 ++ c8 x)) (hgr : (A.alloc tmp).grownBy w5 v.ownBlock) :
    KeepsOthers A (w5.setCell ⟨S, 0, none⟩ v') ∧ KpP B g A (w5.setCell ⟨S, 0, none⟩ v') ∧ CoI n0 n1 S w (pre ++ [x]) (w5.setCell ⟨S, 0, none⟩ v') := by
  have hS := (Array.getElem?_eq_some_iff.1 h1).1
  have hlo : ∀ k, v.ownBlock = some k → n1 ≤ k := fun k e => (h2.lt k e).1
  have hsz : A.heap.size ≤ (w5.setCell ⟨S, 0, none⟩ v').heap.size := by
    have := hgr.size
    simp [World.setCell] at this ⊢
    omega
  have hblk : ∀ k, k < A.heap.size → k ≠ S → v.ownBlock ≠ some k → (w5.setCell ⟨S, 0, none⟩ v').heap[k]? = A.heap[k]? := fun k hk hkS hkv => by
    rw [Below.heap_setCell w5 ⟨S, 0, none⟩ v' k hkS, hgr.block k (by simp; omega) (fun e => hkv e.symm), Below.heap_alloc A tmp k hk]
  have hown' : ∀ k, k < n1 → v.ownBlock ≠ some k := fun k hk e => by have := hlo k e; omega
  have h5S : w5.heap[S]? = some (.cells #[v] 22 (0, 0)) := by
    rw [hgr.block S (by simp; omega) (fun e => hown' S h3 e.symm), Below.heap_alloc A tmp S hS]
    exact h1
  refine ⟨⟨hsz, fun k o hk hc => (hblk k (Array.getElem?_eq_some_iff.1 hk).1 (fun e => ?_) (fun e => ?_)).trans hk⟩, ⟨hsz, hblk B (by omega) (by omega) (hown' B (by omega)), hblk g (by omega) (by omega) (hown' g (by omega))⟩, v', heap_setCell_same w5 S 0 _ 22 v' h5S, ?_, h3, Nat.le_trans h4 hsz, ?_⟩
  · rw [e, h1] at hk
    cases hk
    cases hc
  · rcases h2.2 with ⟨rfl, _⟩ | ⟨g', cap, cur, rfl, _, q2, _⟩
    · cases e
    · have e : g' = k := Option.some.inj e
      rw [← e, q2] at hk
      cases hk
      cases hc
  · rw [List.length_append, List.flatMap_append]
    have e1 : [x].flatMap c8 = c8 x := by simp
    rw [e1]
    refine ownsRow_keep hown fun k _ e => Below.heap_setCell w5 ⟨S, 0, none⟩ v' k (fun e2 => ?_)
    have := (hown.lt k e).1
    dsimp only at e2
    omega
  · have hb : Below n0 A (w5.setCell ⟨S, 0, none⟩ v') := by
      refine ⟨hgr.os, hgr.tape, hgr.output, hsz, fun k hk => hblk k (by omega) (by omega) (hown' k (by omega))⟩
    exact h5.trans hb
end Go.Proofs.Ytmpppijgjbfolaa.C
