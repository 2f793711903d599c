/- slices.Sort of keys: the order; the row. -/
import Derived.Test.YtdiljkmlneeboaaNef
namespace Go.Proofs.Ytdiljkmlneeboaa
open Go.RowKit Go.Lib Go.Sort
set_option maxRecDepth 100000

theorem less_any (x y : Int) (w : World) : Calls Try.prog 39 #[.int .u32 x, .int .u32 y] w fun e w' => e = .returned (.bool (decide (x < y))) ∧ w' = w := by
  go_enter Try.func39, Try.ntmps39
  go_wp2
  go_ret
  exact ⟨rfl, rfl⟩
/-- These keys lie in the block, and all other blocks are as they were. -/
structure SW (w : World) (g : Nat) (d : Array Int) (W : World) : Prop where
  row : Holds (Value.int .u32) W g 0 d
  keep : KeepX g w W
theorem SW.cell {w W : World} {g : Nat} {d : Array Int} (h : SW w g d W) {j : Nat} (hj : j < d.size) : W.cell? ⟨g, j, none⟩ = some (.int .u32 d[j]!) := by
  have := (h.row j hj).1
  rwa [Nat.zero_add] at this
theorem SW.free {w W : World} {g : Nat} {d : Array Int} (h : SW w g d W) {j : Nat} (hj : j < d.size) : W.frozen? ⟨g, j, none⟩ = false := by
  have := (h.row j hj).2
  rwa [Nat.zero_add] at this
theorem SW.drewN {w W : World} {g : Nat} {d : Array Int} (h : SW w g d W) (n : Nat) : SW w g d (W.drewN n) := ⟨h.row, ⟨h.keep.os, h.keep.tape, h.keep.output, h.keep.size, h.keep.block⟩⟩
theorem SW.set {w W : World} {g : Nat} {d : Array Int} (h : SW w g d W) {i : Nat} (hi : i < d.size) (x : Int) : SW w g (d.setIfInBounds i x) (W.setCell ⟨g, i, none⟩ (.int .u32 x)) := by
  refine ⟨fun j hj => ?_, h.keep.trans ⟨rfl, rfl, rfl, by simp, fun k _ hk => Below.heap_setCell _ _ _ _ hk⟩⟩
  have hj' : j < d.size := by simpa using hj
  obtain ⟨c, e, fr, hb, hcj⟩ := cells_of_cell? (h.row j hj').1
  rw [Nat.zero_add]
  have hbl : (W.setCell ⟨g, i, none⟩ (.int .u32 x)).heap[g]? = some (.cells (c.setIfInBounds i (.int .u32 x)) e fr) := by
    rw [setCell_eq]
    simp [mapBlock, Array.getElem?_modify, hb, onCells]
  have hfz : (W.setCell ⟨g, i, none⟩ (.int .u32 x)).frozen? ⟨g, j, none⟩ = false := by
    rw [setCell_eq, frozen?_mapBlock]
    exact h.free hj'
  refine ⟨?_, hfz⟩
  rw [Nat.zero_add] at hcj
  have hjc := (Array.getElem?_eq_some_iff.1 hcj).1
  simp only [World.cell?, hbl]
  by_cases hij : i = j
  · subst hij
    rw [getElem!_set_same d i x hi]
    simp [hjc]
  · rw [getElem!_set_other d i j x (fun e => hij e.symm)]
    simp only [Array.getElem?_setIfInBounds_ne hij]
    simpa using hcj
end Go.Proofs.Ytdiljkmlneeboaa
