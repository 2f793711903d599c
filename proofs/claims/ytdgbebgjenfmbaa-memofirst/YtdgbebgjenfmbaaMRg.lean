/- A range over the cells of a ring, whose rounds may write. -/
import Derived.Test.YtdgbebgjenfmbaaMFi
import Derived.RangeFuncNested
import Derived.RangeFuncBound
import Derived.RangeFuncCalls
import Derived.RangeFuncLeaves
import Derived.RangeFuncBox
import Derived.Shelf.Abstract
import Derived.Shelf.RegionOpen
import Derived.OwnWalkIn
import Derived.TacticsInMore
import Derived.LoopNIn
import Derived.LoopIn
namespace Go.Proofs.Ytdgbebgjenfmbaa.M
open Go.RowKit Go.Shelf
set_option maxRecDepth 100000

theorem two_new (w : World) (o1 o2 : Obj) : ((w.alloc o1).alloc o2).heap[w.heap.size]? = some o1 ∧ ((w.alloc o1).alloc o2).heap[w.heap.size + 1]? = some o2 := by
  have h2 := World.alloc_heap_new (w.alloc o1) o2
  rw [World.size_alloc] at h2
  exact ⟨(Below.heap_alloc _ _ _ (by simp)).trans (World.alloc_heap_new w _), h2⟩
/-- What the iterator does between two rounds: nothing. -/
def ItP (A B : World) : Prop := Below A.heap.size A B
/-- What a round keeps for the iterator: its two variables. -/
def KpP (b1 b2 : Nat) (A B : World) : Prop := A.heap.size ≤ B.heap.size ∧ B.heap[b1]? = A.heap[b1]? ∧ B.heap[b2]? = A.heap[b2]?
theorem KpP.trans {b1 b2 : Nat} {A B C : World} (h : KpP b1 b2 A B) (k : KpP b1 b2 B C) : KpP b1 b2 A C := ⟨Nat.le_trans h.1 k.1, k.2.1.trans h.2.1, k.2.2.trans h.2.2⟩
/-- The iterator tells N pointers, one behind the other. -/
def Told (gf : Nat) (lb : Array Value) (Kp : World → World → Prop) (val : Nat → Value) (N : Nat) (W : World) : Prop :=
  ∀ (m l : Nat) (J : Nat → World → Prop) (Jx : World → Prop), (∀ i A B, J i A → ItP A B → J i B) → (∀ A B, Jx A → ItP A B → Jx B) →
    (∀ k i A, J i A → i < N → YieldAt Fence.wide k Try.prog l #[val i] A fun e B => (e = .returned (.bool true) ∧ J (i + 1) B ∧ Kp A B) ∨ (e = .returned (.bool false) ∧ Jx B)) →
    J 0 W → CallsIn Fence.wide m Try.prog gf (#[.func (.yield l) #[] #[]] ++ lb) W fun e B => (∃ v, e = .returned v) ∧ (J N B ∨ Jx B)
/-- The blocks from b on that are no cells. -/
def KeepsUp (b : Nat) (A B : World) : Prop := A.heap.size ≤ B.heap.size ∧ ∀ (k : Nat) (o : Obj), b ≤ k → A.heap[k]? = some o → o.isCells = false → B.heap[k]? = some o
/-- What a round leaves. -/
def RoundM (b : Nat) (Kp : World → World → Prop) (I : Nat → World → Prop) (X : Code → World → Prop) (i : Nat) (A : World) : Exit → Act → World → Prop
  | .normal, _, B => KeepsUp b A B ∧ Kp A B ∧ I i B
  | .ret, _, B => KeepsUp b A B ∧ X .ret B
  | .exit id, _, B => KeepsUp b A B ∧ X (.exit id) B
  | .goto t, _, B => KeepsUp b A B ∧ X (.goto t) B
  | .panic _, _, _ => False
  | .outgrown, _, _ => False
theorem range_ring {n : Nat} {g : Operand} {p : Tmp} {assign body : Code} {Q : Exit → Act → World → Prop} {a : Act} {w : World} {gf : Nat} {lb : Array Value} (hg : a.eval g = .func (.func gf) #[] lb) (eg : ∀ args w, (callFunc gf args).run Try.prog w = .ok (.enter gf args) w)
    {Kp : World → World → Prop} {val : Nat → Value} {N : Nat}
    (hseq : ∀ o, Told gf lb Kp val N ((w.alloc (.deferred (some []))).alloc o))
    (hkt : ∀ A B C : World, Kp A B → Kp B C → Kp A C)
    (hkp : ∀ (A : World) (l : Nat) (o o' : Obj), w.heap.size ≤ l → A.heap[l]? = some o → o.isCells = false → Kp A (A.putObj l o'))
    (I : Nat → World → Prop) (X : Code → World → Prop)
    (hI : ∀ i A B, I i A → ItP A B → I i B) (hX : ∀ c A B, X c A → ItP A B → X c B)
    (hIp : ∀ (i : Nat) (A : World) (l : Nat) (o o' : Obj), I i A → w.heap.size ≤ l → A.heap[l]? = some o → o.isCells = false → I i (A.putObj l o')) (hXp : ∀ (c : Code) (A : World) (l : Nat) (o o' : Obj), X c A → w.heap.size ≤ l → A.heap[l]? = some o → o.isCells = false → X c (A.putObj l o'))
    (h0 : ∀ o, I 0 ((w.alloc (.deferred (some []))).alloc o)) (a1 : Nat → Act)
    (hassign : ∀ (k l : Nat) (i : Nat) (A : World) (K : Act → World → Prop), K (a1 i) A → assign.wpIn (Fence.wide.inRound l) k Try.prog (Exit.then K (fun _ _ _ => False)) { tmps := a.tmps.setIfInBounds p (val i), defers := [] } A)
    (hbody : ∀ (k l : Nat) (i : Nat) (A : World), I i A → i < N → body.wpIn (Fence.wide.inRound l) k Try.prog (RoundM w.heap.size Kp I X (i + 1) A) (a1 i) A)
    (hdone : ∀ (D : Nat) (A : World), D = w.heap.size → I N A → A.heap[D]? = some (.deferred (some [])) → Q .normal { a with defers := { target := .collected D, args := #[] } :: a.defers } A)
    (hstop : ∀ (D : Nat) (c : Code) (A : World), D = w.heap.size → X c A → A.heap[D]? = some (.deferred (some [])) → c.wpIn Fence.wide n Try.prog Q { a with defers := { target := .collected D, args := #[] } :: a.defers } A) :
    (Code.rangeFunc g #[p] assign body).wpIn Fence.wide n Try.prog Q a w := by
  refine wpIn_rangeFunc fun fn hfn => ?_
  obtain ⟨rc, hrc⟩ : ∃ rc : LoopState → Option Code → Loop, rc = fun s c => { state := s, pending := c, fn := fn, tmps := a.tmps, params := #[p], assign := assign, body := body, defers := w.heap.size } := ⟨_, rfl⟩
  obtain ⟨hd, hl⟩ := two_new w (.deferred (some [])) (.loop (rc .ready none))
  have hs := hseq (.loop (rc .ready none))
  have hi := h0 (.loop (rc .ready none))
  obtain ⟨A, hA⟩ : ∃ A, A = (w.alloc (.deferred (some []))).alloc (.loop (rc .ready none)) := ⟨_, rfl⟩
  rw [← hA] at hd hl hs hi
  refine ⟨w.heap.size + 1, [{ target := .collected w.heap.size, args := #[] }], A, { target := .fn (.func gf) lb, args := #[.func (.yield (w.heap.size + 1)) #[] #[]] }, A, gf, #[.func (.yield (w.heap.size + 1)) #[] #[]] ++ lb, A, ?_, ?_, fun _ _ => trivial, ?_, (fun h => by cases h), ?_⟩
  · rw [hA, hrc]
    exact run_enterLoop_outer _ _ _ _ _
  · simp only [resolve, hg]
    simp [go_sem]
  · simp [invoke, go_sem, eg]
  -- the caller's word, with the two records
  have hit : ∀ A B : World, ItP A B → ∀ (k : Nat) (o : Obj), A.heap[k]? = some o → B.heap[k]? = some o := fun A B h k o ho => (Below.block h k (Array.getElem?_eq_some_iff.1 ho).1).trans ho
  let Rec : Option Code → World → Prop := fun c B => B.heap[w.heap.size + 1]? = some (.loop (rc (if c.isNone then .ready else .done) c)) ∧ B.heap[w.heap.size]? = some (.deferred (some []))
  have hrec : ∀ c B C, Rec c B → ItP B C → Rec c C := fun c B C h hbc => ⟨hit B C hbc _ _ h.1, hit B C hbc _ _ h.2⟩
  refine (hs (n - 1) (w.heap.size + 1) (fun i B => I i B ∧ Rec none B) (fun B => ∃ c, X c B ∧ Rec (some c) B) (fun i B C h hbc => ⟨hI i B C h.1 hbc, hrec _ B C h.2 hbc⟩)
    (fun B C h hbc => by obtain ⟨c, h1, h2⟩ := h; exact ⟨c, hX c B C h1 hbc, hrec _ B C h2 hbc⟩) ?_ ⟨hi, hl, hd⟩).mono ?_
  · rintro k i B ⟨hB, hB1, hB2⟩ hlen
    have hB1 : B.heap[w.heap.size + 1]? = some (.loop (rc .ready none)) := hB1
    have hsz := (Array.getElem?_eq_some_iff.1 hB1).1
    have hy := run_yield (P := Try.prog) (args := #[val i]) hB1 (by rw [hrc]; rfl)
    rw [hrc] at hy
    refine ⟨fn, a.tmps.setIfInBounds p (val i), assign, body, hy.trans (by simp), roundIn_of_wpIn hfn ?_⟩
    apply hassign k _ i B
    refine ⟨_, run_beginRound hB1 (by rw [hrc]), ?_⟩
    obtain ⟨C, hC⟩ : ∃ C, C = B.putObj (w.heap.size + 1) (.loop { rc .ready none with state := .busy }) := ⟨_, rfl⟩
    have c1 : C.heap[w.heap.size + 1]? = some (.loop { rc .ready none with state := .busy }) := by rw [hC]; exact World.putObj_heap_same hsz
    have c2 : C.heap[w.heap.size]? = some (.deferred (some [])) := by rw [hC]; exact (World.putObj_heap_other (by omega)).trans hB2
    have c3 : Kp B C := by
      rw [hC]; exact hkp _ _ _ _ (by omega) hB1 rfl
    have c4 : I i C := by rw [hC]; exact hIp _ _ _ _ _ hB (by omega) hB1 rfl
    rw [← hC]
    refine wpIn_mono (hbody k _ i C c4 hlen) fun e a3 D hp => ?_
    have hend : ∀ c, KeepsUp w.heap.size C D → ∃ E, (Instr.endRound (w.heap.size + 1) c).run Try.prog D = .ok (.bool c.isNone) E ∧ E = D.putObj (w.heap.size + 1) (.loop (rc (if c.isNone then .ready else .done) c)) ∧ Rec c E ∧ D.heap[w.heap.size + 1]? = some (.loop { rc .ready none with state := .busy }) := fun c hk => by
      have d1 := hk.2 _ _ (by omega) c1 rfl
      have d2 := hk.2 _ _ (Nat.le_refl _) c2 rfl
      have hr := run_endRound (P := Try.prog) c d1
      refine ⟨_, hr, by rw [hrc], ⟨?_, (World.putObj_heap_other (by omega)).trans d2⟩, d1⟩
      rw [World.putObj_heap_same (Array.getElem?_eq_some_iff.1 d1).1, hrc]
    have leave : ∀ c, KeepsUp w.heap.size C D → X c D → ∃ E, (Instr.endRound (w.heap.size + 1) (some c)).run Try.prog D = .ok (.bool false) E ∧ ∃ c', X c' E ∧ Rec (some c') E := fun c hk hx => by
      obtain ⟨E, h1, h2, h3, h4⟩ := hend (some c) hk
      refine ⟨E, h1, c, ?_, h3⟩
      rw [h2]
      exact hXp _ _ _ _ _ hx (by omega) h4 rfl
    cases e with
    | normal =>
      obtain ⟨hk, hkk, hii⟩ := hp
      obtain ⟨E, h1, h2, h3, h4⟩ := hend none hk
      refine ⟨_, E, h1, .inl ⟨rfl, ⟨?_, h3⟩, ?_⟩⟩
      · rw [h2]
        exact hIp _ _ _ _ _ hii (by omega) h4 rfl
      · refine hkt _ _ _ (hkt _ _ _ c3 hkk) ?_
        rw [h2]
        exact hkp _ _ _ _ (by omega) h4 rfl
    | ret =>
      obtain ⟨E, h1, h2⟩ := leave .ret hp.1 hp.2
      exact ⟨_, E, h1, .inr ⟨rfl, h2⟩⟩
    | exit id =>
      obtain ⟨E, h1, h2⟩ := leave (.exit id) hp.1 hp.2
      exact ⟨_, E, h1, .inr ⟨rfl, h2⟩⟩
    | goto t =>
      obtain ⟨E, h1, h2⟩ := leave (.goto t) hp.1 hp.2
      exact ⟨_, E, h1, .inr ⟨rfl, h2⟩⟩
    | panic c => exact hp.elim
    | outgrown => exact hp.elim
  · rintro e B ⟨⟨v, rfl⟩, (⟨hB, hB1, hB2⟩ | ⟨c, hB, hB1, hB2⟩)⟩
    · have hB1 : B.heap[w.heap.size + 1]? = some (.loop (rc .ready none)) := hB1
      refine ⟨none, _, by have := run_endLoop (P := Try.prog) hB1 (by rw [hrc]; simp); rw [hrc] at this; exact this, hdone _ _ rfl (hIp _ _ _ _ _ hB (by omega) hB1 rfl) ((World.putObj_heap_other (by omega)).trans hB2)⟩
    · have hB1 : B.heap[w.heap.size + 1]? = some (.loop (rc .done (some c))) := hB1
      refine ⟨some c, _, by have := run_endLoop (P := Try.prog) hB1 (by rw [hrc]; simp); rw [hrc] at this; exact this, hstop _ c _ rfl (hXp _ _ _ _ _ hB (by omega) hB1 rfl) ((World.putObj_heap_other (by omega)).trans hB2)⟩
end Go.Proofs.Ytdgbebgjenfmbaa.M
