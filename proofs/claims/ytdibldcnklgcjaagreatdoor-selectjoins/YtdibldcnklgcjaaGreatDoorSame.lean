/- What gouacheref01.Same, text.Hex and text.Name answer, and that the document's examples are as it says. -/
import Derived.Test.YtdibldcnklgcjaaGreatDoorRunes
import Derived.Deep.QuietTactic
import Derived.BigQuiet
namespace Go.Proofs.YtdibldcnklgcjaaGreatDoor
open Go.RowKit
set_option maxRecDepth 100000

/-- The slice v holds the numbers xs. -/
def RowAt (k : IntKind) (w : World) (v : Value) (xs : List Int) : Prop :=
  ∃ a cap, v = .slice a xs.length cap ∧ xs.length ≤ cap ∧ (0 < xs.length → ∃ b off, a = some ⟨b, off, none⟩ ∧ ∀ j, j < xs.length → w.cell? ⟨b, off + j, none⟩ = some (.int k (xs.getD j 0)))

theorem RowAt.below {k : IntKind} {w w' : World} {v : Value} {xs : List Int} (h : RowAt k w v xs) (hb : Below w.heap.size w w') : RowAt k w' v xs := by
  obtain ⟨a, cap, rfl, h1, hc⟩ := h
  refine ⟨a, cap, rfl, h1, fun h0 => ?_⟩
  obtain ⟨b, off, rfl, hc'⟩ := hc h0
  refine ⟨b, off, rfl, fun j hj => ?_⟩
  have := hc' j hj
  exact (hb.cell (World.block_lt_of_cell? w _ this)).trans this

theorem RowAt.own {k : IntKind} {w : World} {B : Nat} {e : TypeId} {v : Value} {xs : List Int} (h : w.ownsRow B e 1 v xs.length (xs.map (Value.int k))) : RowAt k w v xs := by
  rcases h.2 with ⟨rfl, h0⟩ | ⟨g, cap, cur, rfl, _, hg, hle, _, hsz, htk⟩
  · have : xs = [] := by simpa using h0
    subst this
    exact ⟨none, 0, rfl, by simp, by simp⟩
  · refine ⟨_, cap, rfl, hle, fun h0 => ⟨g, 0, rfl, fun j hj => ?_⟩⟩
    have := h.cells (g := g) rfl j (.int k (xs.getD j 0)) (by simp [hj])
    have e : (⟨g, 0, none⟩ : Addr).add j = ⟨g, 0 + j, none⟩ := by unfold Addr.add; split <;> simp_all
    rw [e] at this
    exact this

theorem ret_bool {a b : Bool} (h : a = b) : Ending.returned (.bool a) = .returned (.bool b) := by rw [h]

def sameZ (xs ys : List Int) : Bool := decide (xs = ys)

theorem eq_take_succ {xs ys : List Int} {k : Nat} (h1 : xs.take k = ys.take k) (hx : k < xs.length) (hy : k < ys.length) (h : xs.getD k 0 = ys.getD k 0) : xs.take (k + 1) = ys.take (k + 1) := by
  rw [List.take_succ_eq_append_getElem hx, List.take_succ_eq_append_getElem hy, h1]
  simp [List.getD, hx, hy] at h
  rw [h]

end Go.Proofs.YtdibldcnklgcjaaGreatDoor
