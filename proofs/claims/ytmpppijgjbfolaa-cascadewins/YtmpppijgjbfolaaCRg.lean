/- A range over an iterator of entries, whose receiver is bound. -/
import Derived.Test.YtmpppijgjbfolaaCLi
import Derived.RangeFuncNested
import Derived.RangeFuncBound
import Derived.RangeFuncCalls
import Derived.RangeFuncLeaves
import Derived.RangeFuncBox
import Derived.Shelf.Abstract
import Derived.Shelf.RegionOpen
import Derived.OwnWalkIn
import Derived.TacticsInMore
import Derived.LoopNIn
import Derived.LoopIn
namespace Go.Proofs.Ytmpppijgjbfolaa.C
open Go.RowKit Go.Shelf
set_option maxRecDepth 100000

/-- The iterator tells entries: It is what it does between two rounds, Kp what a round keeps. -/
def Told (P : Program) (gf : Nat) (fa lb : Array Value) (It Kp : World → World → Prop) (S Sp : List E8 → Prop) (N : Nat) (W : World) : Prop :=
  ∀ (m l : Nat) (J Jx : List E8 → World → Prop), (∀ xs A B, J xs A → It A B → J xs B) → (∀ xs A B, Jx xs A → It A B → Jx xs B) →
    (∀ k pre x A, J pre A → pre.length < N → YieldAt Fence.wide k P l #[x.val] A fun e B => (e = .returned (.bool true) ∧ J (pre ++ [x]) B ∧ Kp A B) ∨ (e = .returned (.bool false) ∧ Jx (pre ++ [x]) B)) →
    J [] W → CallsIn Fence.wide m P gf (fa ++ #[.func (.yield l) #[] #[]] ++ lb) W fun e B => (∃ v, e = .returned v) ∧ ((∃ xs, S xs ∧ J xs B) ∨ ∃ pre, Sp pre ∧ Jx pre B)
/-- What a round leaves. -/
def RoundP (Kp : World → World → Prop) (I : List E8 → World → Prop) (X : Code → List E8 → World → Prop) (xs : List E8) (A : World) : Exit → Act → World → Prop
  | .normal, _, B => KeepsOthers A B ∧ Kp A B ∧ I xs B
  | .ret, _, B => KeepsOthers A B ∧ X .ret xs B
  | .exit id, _, B => KeepsOthers A B ∧ X (.exit id) xs B
  | .goto t, _, B => KeepsOthers A B ∧ X (.goto t) xs B
  | .panic _, _, _ => False
  | .outgrown, _, _ => False
theorem two_new (w : World) (o1 o2 : Obj) : ((w.alloc o1).alloc o2).heap[w.heap.size]? = some o1 ∧ ((w.alloc o1).alloc o2).heap[w.heap.size + 1]? = some o2 := by
  have h2 := World.alloc_heap_new (w.alloc o1) o2
  rw [World.size_alloc] at h2
  exact ⟨(Below.heap_alloc _ _ _ (by simp)).trans (World.alloc_heap_new w _), h2⟩
theorem range_told {P : Program} {n : Nat} {g : Operand} {p : Tmp} {assign body : Code} {Q : Exit → Act → World → Prop} {a : Act} {w : World} {gf : Nat} {fa lb : Array Value} (hg : a.eval g = .func (.func gf) fa lb) (eg : ∀ args w, (callFunc gf args).run P w = .ok (.enter gf args) w)
    {It Kp : World → World → Prop} {S Sp : List E8 → Prop} {N : Nat}
    (hseq : ∀ o, Told P gf fa lb It Kp S Sp N ((w.alloc (.deferred (some []))).alloc o))
    (hkt : ∀ A B C : World, Kp A B → Kp B C → Kp A C)
    (hkp : ∀ (A : World) (l : Nat) (o o' : Obj), w.heap.size ≤ l → A.heap[l]? = some o → o.isCells = false → Kp A (A.putObj l o'))
    (hit : ∀ A B : World, It A B → ∀ (k : Nat) (o : Obj), A.heap[k]? = some o → o.isCells = false → B.heap[k]? = some o)
    (I : List E8 → World → Prop) (X : Code → List E8 → World → Prop)
    (hI : ∀ xs A B, I xs A → It A B → I xs B) (hX : ∀ c xs A B, X c xs A → It A B → X c xs B)
    (hIp : ∀ (xs : List E8) (A : World) (l : Nat) (o o' : Obj), I xs A → w.heap.size ≤ l → A.heap[l]? = some o → o.isCells = false → I xs (A.putObj l o')) (hXp : ∀ (c : Code) (xs : List E8) (A : World) (l : Nat) (o o' : Obj), X c xs A → w.heap.size ≤ l → A.heap[l]? = some o → o.isCells = false → X c xs (A.putObj l o'))
    (hia : ∀ (A : World) (o : Obj), It A (A.alloc o)) (hka : ∀ (A : World) (o : Obj), w.heap.size ≤ A.heap.size → Kp A (A.alloc o)) (h0 : ∀ o, I [] ((w.alloc (.deferred (some []))).alloc o)) (a1 : E8 → Nat → Act)
    (hassign : ∀ (k l : Nat) (x : E8) (A : World) (K : Act → World → Prop), K (a1 x A.heap.size) (A.alloc (.cells #[.string x.n, .string x.v, .int .i64 x.o, .bool x.im, .int .i64 x.a, .int .i64 x.b, .int .i64 x.c, .int .i64 x.k] 26)) → assign.wpIn (Fence.wide.inRound l) k P (Exit.then K (fun _ _ _ => False)) { tmps := a.tmps.setIfInBounds p x.val, defers := [] } A)
    (hbody : ∀ (k l : Nat) (pre : List E8) (x : E8) (q : Nat) (A : World), I pre A → BoxE A q 26 x → pre.length < N → body.wpIn (Fence.wide.inRound l) k P (RoundP Kp I X (pre ++ [x]) A) (a1 x q) A)
    (hdone : ∀ (D : Nat) (xs : List E8) (A : World), D = w.heap.size → S xs → I xs A → A.heap[D]? = some (.deferred (some [])) → Q .normal { a with defers := { target := .collected D, args := #[] } :: a.defers } A)
    (hstop : ∀ (D : Nat) (c : Code) (pre : List E8) (A : World), D = w.heap.size → Sp pre → X c pre A → A.heap[D]? = some (.deferred (some [])) → c.wpIn Fence.wide n P Q { a with defers := { target := .collected D, args := #[] } :: a.defers } A) :
    (Code.rangeFunc g #[p] assign body).wpIn Fence.wide n P Q a w := by
  refine wpIn_rangeFunc fun fn hfn => ?_
  obtain ⟨rc, hrc⟩ : ∃ rc : LoopState → Option Code → Loop, rc = fun s c => { state := s, pending := c, fn := fn, tmps := a.tmps, params := #[p], assign := assign, body := body, defers := w.heap.size } := ⟨_, rfl⟩
  obtain ⟨hd, hl⟩ := two_new w (.deferred (some [])) (.loop (rc .ready none))
  have hs := hseq (.loop (rc .ready none))
  have hi := h0 (.loop (rc .ready none))
  obtain ⟨A, hA⟩ : ∃ A, A = (w.alloc (.deferred (some []))).alloc (.loop (rc .ready none)) := ⟨_, rfl⟩
  rw [← hA] at hd hl hs hi
  refine ⟨w.heap.size + 1, [{ target := .collected w.heap.size, args := #[] }], A, { target := .fn (.func gf) lb, args := fa ++ #[.func (.yield (w.heap.size + 1)) #[] #[]] }, A, gf, fa ++ #[.func (.yield (w.heap.size + 1)) #[] #[]] ++ lb, A, ?_, ?_, fun _ _ => trivial, ?_, (fun h => by cases h), ?_⟩
  · rw [hA, hrc]
    exact run_enterLoop_outer _ _ _ _ _
  · simp only [resolve, hg]
    simp [go_sem]
  · simp [invoke, go_sem, eg]
  -- the caller's word, with the two records
  let Rec : Option Code → World → Prop := fun c B => B.heap[w.heap.size + 1]? = some (.loop (rc (if c.isNone then .ready else .done) c)) ∧ B.heap[w.heap.size]? = some (.deferred (some []))
  have hrec : ∀ c B C, Rec c B → It B C → Rec c C := fun c B C h hbc => ⟨hit B C hbc _ _ h.1 rfl, hit B C hbc _ _ h.2 rfl⟩
  refine (hs (n - 1) (w.heap.size + 1) (fun pre B => I pre B ∧ Rec none B) (fun pre B => ∃ c, X c pre B ∧ Rec (some c) B) (fun xs B C h hbc => ⟨hI xs B C h.1 hbc, hrec _ B C h.2 hbc⟩)
    (fun xs B C h hbc => by obtain ⟨c, h1, h2⟩ := h; exact ⟨c, hX c xs B C h1 hbc, hrec _ B C h2 hbc⟩) ?_ ⟨hi, hl, hd⟩).mono ?_
  · rintro k pre x B ⟨hB, hB1, hB2⟩ hlen
    have hB1 : B.heap[w.heap.size + 1]? = some (.loop (rc .ready none)) := hB1
    have hsz := (Array.getElem?_eq_some_iff.1 hB1).1
    have hy := run_yield (P := P) (args := #[x.val]) hB1 (by rw [hrc]; rfl)
    rw [hrc] at hy
    refine ⟨fn, a.tmps.setIfInBounds p x.val, assign, body, hy.trans (by simp), roundIn_of_wpIn hfn ?_⟩
    apply hassign k _ x B
    obtain ⟨B', hB'⟩ : ∃ B', B' = B.alloc (.cells #[.string x.n, .string x.v, .int .i64 x.o, .bool x.im, .int .i64 x.a, .int .i64 x.b, .int .i64 x.c, .int .i64 x.k] 26) := ⟨_, rfl⟩
    rw [← hB']
    have hit1 : It B B' := by rw [hB']; exact hia _ _
    have hbx : BoxE B' B.heap.size 26 x := by rw [hB']; exact alloc_box B 26 x
    have hB1' := hit _ _ hit1 _ _ hB1 rfl
    have hB2' := hit _ _ hit1 _ _ hB2 rfl
    have hsz' := (Array.getElem?_eq_some_iff.1 hB1').1
    refine ⟨_, run_beginRound hB1' (by rw [hrc]), ?_⟩
    obtain ⟨C, hC⟩ : ∃ C, C = B'.putObj (w.heap.size + 1) (.loop { rc .ready none with state := .busy }) := ⟨_, rfl⟩
    have c1 : C.heap[w.heap.size + 1]? = some (.loop { rc .ready none with state := .busy }) := by rw [hC]; exact World.putObj_heap_same hsz'
    have c2 : C.heap[w.heap.size]? = some (.deferred (some [])) := by rw [hC]; exact (World.putObj_heap_other (by omega)).trans hB2'
    have c3 : Kp B C := by
      refine hkt B B' C (by rw [hB']; exact hka _ _ (by omega)) ?_
      rw [hC]; exact hkp _ _ _ _ (by omega) hB1' rfl
    have c4 : I pre C := by rw [hC]; exact hIp _ _ _ _ _ (hI _ _ _ hB hit1) (by omega) hB1' rfl
    have c5 : BoxE C B.heap.size 26 x := by
      rw [hC]
      exact (World.putObj_heap_other (by omega)).trans hbx
    rw [← hC]
    refine wpIn_mono (hbody k _ pre x B.heap.size C c4 c5 hlen) fun e a3 D hp => ?_
    have hend : ∀ c, KeepsOthers C D → ∃ E, (Instr.endRound (w.heap.size + 1) c).run P D = .ok (.bool c.isNone) E ∧ E = D.putObj (w.heap.size + 1) (.loop (rc (if c.isNone then .ready else .done) c)) ∧ Rec c E ∧ D.heap[w.heap.size + 1]? = some (.loop { rc .ready none with state := .busy }) := fun c hk => by
      have d1 := hk.same _ _ c1 rfl
      have d2 := hk.same _ _ c2 rfl
      have hr := run_endRound (P := P) c d1
      refine ⟨_, hr, by rw [hrc], ⟨?_, (World.putObj_heap_other (by omega)).trans d2⟩, d1⟩
      rw [World.putObj_heap_same (Array.getElem?_eq_some_iff.1 d1).1, hrc]
    have leave : ∀ c, KeepsOthers C D → X c (pre ++ [x]) D → ∃ E, (Instr.endRound (w.heap.size + 1) (some c)).run P D = .ok (.bool false) E ∧ ∃ c', X c' (pre ++ [x]) E ∧ Rec (some c') E := fun c hk hx => by
      obtain ⟨E, h1, h2, h3, h4⟩ := hend (some c) hk
      refine ⟨E, h1, c, ?_, h3⟩
      rw [h2]
      exact hXp _ _ _ _ _ _ hx (by omega) h4 rfl
    cases e with
    | normal =>
      obtain ⟨hk, hkk, hii⟩ := hp
      obtain ⟨E, h1, h2, h3, h4⟩ := hend none hk
      refine ⟨_, E, h1, .inl ⟨rfl, ⟨?_, h3⟩, ?_⟩⟩
      · rw [h2]
        exact hIp _ _ _ _ _ hii (by omega) h4 rfl
      · refine hkt _ _ _ (hkt _ _ _ c3 hkk) ?_
        rw [h2]
        exact hkp _ _ _ _ (by omega) h4 rfl
    | ret =>
      obtain ⟨E, h1, h2⟩ := leave .ret hp.1 hp.2
      exact ⟨_, E, h1, .inr ⟨rfl, h2⟩⟩
    | exit id =>
      obtain ⟨E, h1, h2⟩ := leave (.exit id) hp.1 hp.2
      exact ⟨_, E, h1, .inr ⟨rfl, h2⟩⟩
    | goto t =>
      obtain ⟨E, h1, h2⟩ := leave (.goto t) hp.1 hp.2
      exact ⟨_, E, h1, .inr ⟨rfl, h2⟩⟩
    | panic c => exact hp.elim
    | outgrown => exact hp.elim
  · rintro e B ⟨⟨v, rfl⟩, (⟨xs, hS, hB, hB1, hB2⟩ | ⟨pre, hSp, c, hB, hB1, hB2⟩)⟩
    · have hB1 : B.heap[w.heap.size + 1]? = some (.loop (rc .ready none)) := hB1
      refine ⟨none, _, by have := run_endLoop (P := P) hB1 (by rw [hrc]; simp); rw [hrc] at this; exact this, hdone _ xs _ rfl hS (hIp _ _ _ _ _ hB (by omega) hB1 rfl) ((World.putObj_heap_other (by omega)).trans hB2)⟩
    · have hB1 : B.heap[w.heap.size + 1]? = some (.loop (rc .done (some c))) := hB1
      refine ⟨some c, _, by have := run_endLoop (P := P) hB1 (by rw [hrc]; simp); rw [hrc] at this; exact this, hstop _ c pre _ rfl hSp (hXp _ _ _ _ _ _ hB (by omega) hB1 rfl) ((World.putObj_heap_other (by omega)).trans hB2)⟩

end Go.Proofs.Ytmpppijgjbfolaa.C
