/- Two slices that hold the same tokens are the same: gouacheref02.Same. -/
import Derived.Test.YtbfgnfcecfjlnaaGreatDoorLives
namespace Go.Proofs.YtbfgnfcecfjlnaaGreatDoor
open Go.RowKit
set_option maxRecDepth 100000

/-- The slice v holds the tokens ts. -/
def TokAt (w : World) (v : Value) (ts : List Tok) : Prop :=
  ∃ a cap, v = .slice a ts.length cap ∧ ts.length ≤ cap ∧ (0 < ts.length → ∃ g off, a = some ⟨g, off, none⟩ ∧ ∀ (j : Nat) v, (ts.flatMap tokCells)[j]? = some v → w.cell? ⟨g, off + j, none⟩ = some v)
theorem TokAt.outs {B : Nat} {w : World} {out : Value} {ts : List Tok} (h : Outs B w out ts) : TokAt w out ts := by
  by_cases h0 : ts = []
  · subst h0
    rcases h.2 with ⟨hv, _⟩ | ⟨g, cap, cur, hv, _, _, hnc, _⟩
    · exact ⟨none, 0, hv, Nat.le_refl _, fun h => absurd h (by simp)⟩
    · exact ⟨_, cap, hv, hnc, fun h => absurd h (by simp)⟩
  · obtain ⟨g, cap, hv, _, hnc, hc⟩ := outs_cells h h0
    exact ⟨_, cap, hv, hnc, fun _ => ⟨g, 0, rfl, fun j v hj => by simpa using hc j v hj⟩⟩
theorem TokAt.below {w w' : World} {v : Value} {ts : List Tok} (h : TokAt w v ts) (hb : Below w.heap.size w w') : TokAt w' v ts := by
  obtain ⟨a, cap, hv, hcap, hc⟩ := h
  refine ⟨a, cap, hv, hcap, fun h0 => ?_⟩
  obtain ⟨g, off, ha, hcell⟩ := hc h0
  exact ⟨g, off, ha, fun j v hj => (hb.cell (World.block_lt_of_cell? w _ (hcell j v hj))).trans (hcell j v hj)⟩
theorem flat_get : ∀ (ts : List Tok) (k i : Nat) (h : k < ts.length), i < 5 → (ts.flatMap tokCells)[k * 5 + i]? = (tokCells ts[k])[i]?
  | [], k, _, h, _ => by simp at h
  | t :: r, 0, i, _, hi => by
    simp only [List.flatMap_cons, Nat.zero_mul, Nat.zero_add]
    rw [List.getElem?_append_left (by simpa [tokCells] using hi)]
    rfl
  | t :: r, k + 1, i, h, hi => by
    have e : (k + 1) * 5 + i = 5 + (k * 5 + i) := by omega
    rw [List.flatMap_cons, e, List.getElem?_append_right (by simp [tokCells])]
    have e2 : 5 + (k * 5 + i) - (tokCells t).length = k * 5 + i := by simp [tokCells]
    rw [e2]
    exact flat_get r k i (by simpa using h) hi

set_option maxHeartbeats 2000000 in
set_option maxRecDepth 100000 in
theorem same_yes (v u : Value) (ts : List Tok) (w : World) (hv : TokAt w v ts) (hu : TokAt w u ts) (hl : ts.length ≤ 1000000000) :
    Calls Tryz.prog 6 #[v, u] w fun e w' => e = .returned (.bool true) ∧ Below w.heap.size w w' := by
  obtain ⟨a, ca, rfl, hca, hac⟩ := hv
  obtain ⟨b, cb, rfl, hcb, hbc⟩ := hu
  go_enter Tryz.func6, Tryz.ntmps6
  go_wp2
  go_loopw [13] (fun i wr => ∃ (k m : Nat), i = .int .i64 k ∧ wr = w.drewN m ∧ k ≤ ts.length) (fun i _ => ts.length + 1 - (intOf i).toNat)
  case atStart => exact ⟨0, 0, rfl, rfl, Nat.zero_le _⟩
  case round =>
    obtain ⟨k, m, rfl, rfl, hk⟩ := hrel
    by_cases hlt : k < ts.length
    · obtain ⟨ga, oa, rfl, qa⟩ := hac (by omega)
      obtain ⟨gb, ob, rfl, qb⟩ := hbc (by omega)
      have hx := fun i (hi : i < 5) => flat_get ts k i hlt hi
      have HA : ∀ i, i < 5 → ∀ x, (tokCells ts[k])[i]? = some x → w.cell? ⟨ga, oa + (k * 5 + i), none⟩ = some x := fun i hi x hxx => qa _ _ ((hx i hi).trans hxx)
      have HB : ∀ i, i < 5 → ∀ x, (tokCells ts[k])[i]? = some x → w.cell? ⟨gb, ob + (k * 5 + i), none⟩ = some x := fun i hi x hxx => qb _ _ ((hx i hi).trans hxx)
      generalize ts[k] = tk at *
      have a0 := HA 0 (by omega) _ rfl
      have a1 := HA 1 (by omega) _ rfl
      have a2 := HA 2 (by omega) _ rfl
      have a3 := HA 3 (by omega) _ rfl
      have a4 := HA 4 (by omega) _ rfl
      have b0 := HB 0 (by omega) _ rfl
      have b1 := HB 1 (by omega) _ rfl
      have b2 := HB 2 (by omega) _ rfl
      have b3 := HB 3 (by omega) _ rfl
      have b4 := HB 4 (by omega) _ rfl
      clear hac hbc qa qb hx HA HB
      generalize tk.kind = t1 at *
      generalize strT tk.text = t2 at *
      generalize strT tk.unit = t3 at *
      generalize tk.whole = t4 at *
      generalize tk.flag = t5 at *
      simp only [Nat.add_zero, ← Nat.add_assoc] at a0 a1 a2 a3 a4 b0 b1 b2 b3 b4
      go_wp2
      go_quiet (fail)
      go_wp2
      go_roundw
      case rel => exact ⟨k + 1, _, by go_num, rfl, by omega⟩
      case measure => simp [intOf]; omega
    · go_wp2
      go_ret
      exact ⟨rfl, (Kept.drewN w.heap.size w m).below (Nat.le_refl _)⟩
end Go.Proofs.YtbfgnfcecfjlnaaGreatDoor
