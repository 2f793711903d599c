/- A slice of numbers that came in. -/
import Derived.Test.YtnmpakjklbamiaaLives
namespace Go.Proofs.Ytnmpakjklbamiaa
open Go.RowKit

/-- The slice v holds the numbers xs. -/
def RowAt (k : IntKind) (w : World) (v : Value) (xs : List Int) : Prop :=
  ∃ a cap, v = .slice a xs.length cap ∧ xs.length ≤ cap ∧ (0 < xs.length → ∃ b off, a = some ⟨b, off, none⟩ ∧ b < w.heap.size ∧ ∀ j, j < xs.length → w.cell? ⟨b, off + j, none⟩ = some (.int k (xs.getD j 0)))
theorem RowAt.below {k : IntKind} {w w' : World} {v : Value} {xs : List Int} (h : RowAt k w v xs) (hb : Below w.heap.size w w') : RowAt k w' v xs := by
  obtain ⟨a, cap, e, hc, hx⟩ := h
  refine ⟨a, cap, e, hc, fun h0 => ?_⟩
  obtain ⟨b, off, ea, hlt, hcell⟩ := hx h0
  exact ⟨b, off, ea, Nat.lt_of_lt_of_le hlt hb.size, fun j hj => (hb.cell (p := ⟨b, off + j, none⟩) hlt).trans (hcell j hj)⟩
theorem RowAt.arg {k : IntKind} {w : World} {a : Addr} {len cap : Nat} {zs : List Int} (hl : len ≤ cap) (hz : zs.length = cap) (hcell : ∀ i, i < zs.length → w.cell? (a.add i) = some (.int k (zs.getD i 0))) :
    RowAt k w (.slice (some a) len cap) (zs.take len) := by
  have hlen : (zs.take len).length = len := by simp; omega
  refine ⟨some a, cap, by rw [hlen], by omega, fun h0 => ?_⟩
  rw [hlen] at h0 ⊢
  obtain ⟨b, off, spot⟩ := a
  have hc := hcell 0 (by omega)
  have hspot : spot = none := by simpa [Addr.add] using World.cell?_spot hc
  subst hspot
  have e : ∀ j, (⟨b, off, none⟩ : Addr).add j = ⟨b, off + j, none⟩ := fun j => by unfold Addr.add; split <;> simp_all
  refine ⟨b, off, rfl, ?_, fun j hj => ?_⟩
  · rw [e] at hc
    exact World.block_lt_of_cell? w _ hc
  · have := hcell j (by omega)
    rw [e] at this
    rw [this]
    simp [List.getD, hj]
theorem trie_info : ∃ j, Try.prog.info? 85 = some j := by
  have h : (Try.prog.info? 85).map (·.size) = some 3 := by kernel_rfl
  cases hj : Try.prog.info? 85 with
  | none => rw [hj] at h; cases h
  | some j => exact ⟨j, rfl⟩
theorem root_ptr {ty : Nat × Nat} {tt : Nat} {w : World} {tp : Value} {t : T} (h : TrAt ty tt w tp t) (hr : rootN t) : ∃ b, tp = .pointer (some ⟨b, 0, none⟩) := by
  rcases h.lies with ⟨_, e⟩ | ⟨b, e, _⟩
  · obtain ⟨b, k, e'⟩ := hr
    rw [e] at e'
    cases e'
  · exact ⟨b, e⟩

end Go.Proofs.Ytnmpakjklbamiaa
