/- What stays of a ring where other blocks are written. -/
import Derived.Test.YtdgbebgjenfmbaaMGe
namespace Go.Proofs.Ytdgbebgjenfmbaa.M
open Go.RowKit Go.Shelf
set_option maxRecDepth 100000

theorem Kb.putO {Q : Nat → Prop} {w A : World} (h : Kb Q w A) {q : Nat} (hq : w.heap.size ≤ q) (o' : Obj) : Kb Q w (A.putObj q o') := ⟨h.os, h.tape, h.output, by simpa [World.putObj] using h.size, fun j hj hp => (World.putObj_heap_other (by omega)).trans (h.block j hj hp)⟩
/-- A block that is no part of a ring: its cells are no texts, no entry, no cell. -/
structure Odd (w : World) (b : Nat) : Prop where
  str : ∀ k s, w.cell? ⟨b, k, none⟩ ≠ some (.string s)
  ent : ∀ cs, w.heap[b]? ≠ some (.cells cs 31 (0, 0))
  cel : ∀ cs, w.heap[b]? ≠ some (.cells cs 83 (0, 0))
theorem Odd.of {w : World} {b : Nat} {o : Obj} (ho : w.heap[b]? = some o) (hc : o.isCells = false) : Odd w b := by
  refine ⟨fun k s h => ?_, fun cs h => ?_, fun cs h => ?_⟩
  · unfold World.cell? at h
    simp only [ho] at h
    cases o <;> first | cases h | cases hc
  · rw [ho] at h
    injection h with h
    rw [h] at hc
    cases hc
  · rw [ho] at h
    injection h with h
    rw [h] at hc
    cases hc
theorem Odd.flag {w : World} {b : Nat} {q : Bool} (h : w.heap[b]? = some (.cells #[.bool q] 4 (0, 0))) : Odd w b := by
  refine ⟨fun k s h1 => ?_, fun cs h1 => ?_, fun cs h1 => ?_⟩
  · unfold World.cell? at h1
    simp only [h] at h1
    cases k with
    | zero => simp at h1
    | succ k => simp at h1
  · rw [h] at h1
    injection h1 with h1
    injection h1 with _ h1 _
    cases h1
  · rw [h] at h1
    injection h1 with h1
    injection h1 with _ h1 _
    cases h1
theorem Odd.count {w : World} {b : Nat} {q : Int} (h : w.heap[b]? = some (.cells #[.int .i64 q] 3 (0, 0))) : Odd w b := by
  refine ⟨fun k s h1 => ?_, fun cs h1 => ?_, fun cs h1 => ?_⟩
  · unfold World.cell? at h1
    simp only [h] at h1
    cases k with
    | zero => simp at h1
    | succ k => simp at h1
  · rw [h] at h1
    injection h1 with h1
    injection h1 with _ h1 _
    cases h1
  · rw [h] at h1
    injection h1 with h1
    injection h1 with _ h1 _
    cases h1
theorem SsAt.other {P : Nat → Prop} {w w' : World} {v : Value} {l : List ByteArray} (h : SsAt P w v l) {b : Nat} (ho : Odd w b) (hs : w.heap.size ≤ w'.heap.size) (hw : ∀ k, k ≠ b → w'.heap[k]? = w.heap[k]?) : SsAt P w' v l := by
  obtain ⟨a, c, g, o0, h1, h2, h3, h4, h5⟩ := h
  refine ⟨a, c, g, o0, h1, h2, h3, fun h0 => ?_, fun k s hk => ?_⟩
  · obtain ⟨x1, x2, x3⟩ := h4 h0
    exact ⟨x1, by omega, x3⟩
  · have := h5 k s hk
    exact (World.cell?_of_block (a := ⟨g, o0 + k, none⟩) (hw g fun e => ho.str _ _ (e ▸ this))).trans this
theorem EnAt.other {P : Nat → Prop} {w w' : World} {g : Nat} {x : En} (h : EnAt P w g x) {b : Nat} (ho : Odd w b) (hs : w.heap.size ≤ w'.heap.size) (hw : ∀ k, k ≠ b → w'.heap[k]? = w.heap[k]?) : EnAt P w' g x := by
  obtain ⟨hp, sv, h1, h2⟩ := h
  exact ⟨hp, sv, (hw g fun e => ho.ent _ (e ▸ h1)).trans h1, h2.other ho hs hw⟩
theorem CeV.other {P : Nat → Prop} {w w' : World} {v : Value} {oo : Option En} (h : CeV P w v oo) {b : Nat} (ho : Odd w b) (hs : w.heap.size ≤ w'.heap.size) (hw : ∀ k, k ≠ b → w'.heap[k]? = w.heap[k]?) : CeV P w' v oo := by
  cases oo with
  | none => exact h
  | some x =>
    obtain ⟨g, h1, h2⟩ := h
    exact ⟨g, h1, h2.other ho hs hw⟩
theorem Ring.other {P : Nat → Prop} {w w' : World} {c : Nat} {L : List (Option En)} (h : Ring P w c L) {b : Nat} (ho : Odd w b) (hs : w.heap.size ≤ w'.heap.size) (hw : ∀ k, k ≠ b → w'.heap[k]? = w.heap[k]?) : Ring P w' c L := by
  refine ⟨h.off, ?_⟩
  obtain ⟨vs, h1, h2, h3⟩ := h.row
  refine ⟨vs, (hw c fun e => ho.cel _ (e ▸ h1)).trans h1, h2, fun j oo hj => ?_⟩
  obtain ⟨v, x1, x2⟩ := h3 j oo hj
  exact ⟨v, x1, x2.other ho hs hw⟩
theorem Ring.putO {P : Nat → Prop} {w : World} {c : Nat} {L : List (Option En)} (h : Ring P w c L) {q : Nat} {o : Obj} (ho : w.heap[q]? = some o) (hc : o.isCells = false) (o' : Obj) : Ring P (w.putObj q o') c L := h.other (Odd.of ho hc) (by simp [World.putObj]) fun k hk => World.putObj_heap_other hk
theorem Ring.setB {P : Nat → Prop} {w : World} {c : Nat} {L : List (Option En)} (h : Ring P w c L) {b : Nat} (ho : Odd w b) (v : Value) : Ring P (w.setCell ⟨b, 0, none⟩ v) c L := h.other ho (by simp [World.setCell]) fun k hk => set_ne hk
end Go.Proofs.Ytdgbebgjenfmbaa.M
