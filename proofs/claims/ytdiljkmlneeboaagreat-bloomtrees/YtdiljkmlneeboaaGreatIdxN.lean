/- slices.Index and slices.Contains of ints. -/
import Derived.Test.YtdiljkmlneeboaaGreatRowN
import Derived.Shelf.Slices.Turned
import Derived.Ground.NamesProg
namespace Go.Proofs
open Go.Shelf
shelf_lay Lays.n108 Nm 108 at Tryz as Tryz.lays108
shelf_lay Lays.n107 Nm 107 at Tryz as Tryz.lays107
end Go.Proofs
namespace Go.Proofs.YtdiljkmlneeboaaGreat.N
open Go.RowKit
set_option maxRecDepth 100000

def intsV (zs : List Int) : List Value := zs.map (Value.int .i64)
theorem RowAt.int {w : World} {b off n c : Nat} {zs : List Int} (h : RowAt w 1 (some ⟨b, off, none⟩) n c (intsV zs)) : zs.length = n ∧ ∀ j, j < zs.length → w.cell? ⟨b, off + j, none⟩ = some (.int .i64 (zs.getD j 0)) := by
  obtain ⟨h1, _, _, _, h5⟩ := h
  refine ⟨by simpa [intsV] using h1, fun j hj => ?_⟩
  rcases h5 with ⟨h, _⟩ | ⟨b', off', e, _, hc⟩
  · cases h
  · cases e
    exact hc j _ (by simp [intsV, List.getD_eq_getElem?_getD, List.getElem?_eq_getElem hj])
theorem idxI {w : World} {a : Option Addr} {n c : Nat} {zs : List Int} (h : RowAt w 1 a n c (intsV zs)) (hn : n ≤ 300000) (x : Int) :
    Calls Tryz.prog 90 #[.slice a n c, .int .i64 x] w fun e w' => e = .returned (.int .i64 (Lib.idxOf zs x)) ∧ w' = w := by
  rcases h.2.2.2.2 with ⟨rfl, rfl⟩ | ⟨b, off, rfl, _, _⟩
  · have hl := h.1
    have h2 := h.2.1
    obtain rfl : n = 0 := by omega
    obtain rfl : zs = [] := List.length_eq_zero_iff.1 (by simpa [intsV] using hl)
    exact Any.slices_Index_int_empty Tryz.lays108 none 0 x w
  · obtain ⟨h1, hc⟩ := h.int
    have h3 := Any.slices_Index_int Tryz.lays108 b off n c zs x w (by omega) (by omega) hc
    rw [List.take_of_length_le (by omega)] at h3
    exact h3
theorem hasI {w : World} {a : Option Addr} {n c : Nat} {zs : List Int} (h : RowAt w 1 a n c (intsV zs)) (hn : n ≤ 300000) (x : Int) :
    Calls Tryz.prog 94 #[.slice a n c, .int .i64 x] w fun e w' => e = .returned (.bool (zs.contains x)) ∧ w' = w := by
  rcases h.2.2.2.2 with ⟨rfl, rfl⟩ | ⟨b, off, rfl, _, _⟩
  · have hl := h.1
    have h2 := h.2.1
    obtain rfl : n = 0 := by omega
    obtain rfl : zs = [] := List.length_eq_zero_iff.1 (by simpa [intsV] using hl)
    exact Any.slices_Contains_int_empty Tryz.lays107 none 0 x w
  · obtain ⟨h1, hc⟩ := h.int
    have h3 := Any.slices_Contains_int Tryz.lays107 b off n c zs x w (by omega) (by omega) hc
    rw [List.take_of_length_le (by omega)] at h3
    exact h3
end Go.Proofs.YtdiljkmlneeboaaGreat.N
