/- short.Sides, and the document's Sides and which. What a declaration comes to, plainly; and the document's way of it. The program's way of a declaration is the document's. -/
import Derived.Test.YtlhdapckenjigaaGreatDoorZCo
import Derived.Test.YtlhdapckenjigaaGreatDoorPRl
namespace Go.Proofs.YtlhdapckenjigaaGreatDoor.S
open Go.RowKit
open Go.Proofs.YtlhdapckenjigaaGreatDoor.L (T5 V VsAt t5Cells vCells cell_of_heap hid_mk)
set_option maxRecDepth 100000

def sdL : List Int := [0, 0, 0, 0, 0, 1, 0, 1, 0, 1, 2, 1, 0, 1, 2, 3]
def sdC : List Value := sdL.map (Value.int .i64)
/-- The table of sides lies as it was laid. -/
def Sid (w : World) : Prop := w.rangeAt 0 0 sdC
theorem Sid.lt {W : World} (h : Sid W) : 0 < W.heap.size := by
  have h1 := h 0 (.int .i64 0) rfl
  rcases Nat.lt_or_ge 0 W.heap.size with h0 | h0
  · exact h0
  · have : W.heap[0]? = none := Array.getElem?_eq_none h0
    simp [World.cell?, this] at h1
theorem Sid.keep {W W' : World} (h : Sid W) (hb : Below W.heap.size W W') : Sid W' := fun j v hv => by
  have h1 := h j v hv
  exact (cell_of_heap (hb.block 0 h.lt)).trans h1
/-- Which of n parts is that of a side. -/
def sidesZ (n s : Int) : Int := if 1 ≤ n ∧ n ≤ 4 ∧ 0 ≤ s ∧ s ≤ 3 then sdL.getD ((n.toNat - 1) * 4 + s.toNat) 0 else -1
theorem sid_cells {w : World} (h : Sid w) (j : Nat) (hj : j < 16) : w.cell? ⟨0, j, none⟩ = some (.int .i64 (sdL.getD j 0)) := by
  have := h j (.int .i64 (sdL.getD j 0)) (by
    have : j = 0 ∨ j = 1 ∨ j = 2 ∨ j = 3 ∨ j = 4 ∨ j = 5 ∨ j = 6 ∨ j = 7 ∨ j = 8 ∨ j = 9 ∨ j = 10 ∨ j = 11 ∨ j = 12 ∨ j = 13 ∨ j = 14 ∨ j = 15 := by omega
    rcases this with h | h | h | h | h | h | h | h | h | h | h | h | h | h | h | h <;> subst h <;> rfl)
  simpa using this
set_option maxHeartbeats 1000000 in
theorem sides_any (n s : Int) (w : World) (hs : Sid w) : Calls Tryz.prog 17 #[.int .i64 n, .int .i64 s] w fun e w' => e = .returned (.int .i64 (sidesZ n s)) ∧ w' = w := by
  by_cases h1 : n < 1
  · have e : sidesZ n s = -1 := by unfold sidesZ; rw [if_neg (by omega)]
    rw [e]
    have d1 : decide (n < 1) = true := decide_eq_true h1
    go_enter Tryz.func17, Tryz.ntmps17
    go_wp2
    go_ret
    exact ⟨rfl, rfl⟩
  by_cases h2 : 4 < n
  · have e : sidesZ n s = -1 := by unfold sidesZ; rw [if_neg (by omega)]
    rw [e]
    have d1 : decide (n < 1) = false := decide_eq_false h1
    have d2 : decide (4 < n) = true := decide_eq_true h2
    go_enter Tryz.func17, Tryz.ntmps17
    go_wp2
    go_ret
    exact ⟨rfl, rfl⟩
  by_cases h3 : s < 0
  · have e : sidesZ n s = -1 := by unfold sidesZ; rw [if_neg (by omega)]
    rw [e]
    have d1 : decide (n < 1) = false := decide_eq_false h1
    have d2 : decide (4 < n) = false := decide_eq_false h2
    have d3 : decide (s < 0) = true := decide_eq_true h3
    go_enter Tryz.func17, Tryz.ntmps17
    go_wp2
    go_ret
    exact ⟨rfl, rfl⟩
  by_cases h4 : 4 ≤ s
  · have e : sidesZ n s = -1 := by unfold sidesZ; rw [if_neg (by omega)]
    rw [e]
    have d1 : decide (n < 1) = false := decide_eq_false h1
    have d2 : decide (4 < n) = false := decide_eq_false h2
    have d3 : decide (s < 0) = false := decide_eq_false h3
    have d4 : decide (4 ≤ s) = true := decide_eq_true h4
    go_enter Tryz.func17, Tryz.ntmps17
    go_wp2
    go_ret
    exact ⟨rfl, rfl⟩
  have hn : n = 1 ∨ n = 2 ∨ n = 3 ∨ n = 4 := by omega
  have hs4 : s = 0 ∨ s = 1 ∨ s = 2 ∨ s = 3 := by omega
  have c0 := sid_cells hs 0 (by decide)
  have c1 := sid_cells hs 1 (by decide)
  have c2 := sid_cells hs 2 (by decide)
  have c3 := sid_cells hs 3 (by decide)
  have c4 := sid_cells hs 4 (by decide)
  have c5 := sid_cells hs 5 (by decide)
  have c6 := sid_cells hs 6 (by decide)
  have c7 := sid_cells hs 7 (by decide)
  have c8 := sid_cells hs 8 (by decide)
  have c9 := sid_cells hs 9 (by decide)
  have c10 := sid_cells hs 10 (by decide)
  have c11 := sid_cells hs 11 (by decide)
  have c12 := sid_cells hs 12 (by decide)
  have c13 := sid_cells hs 13 (by decide)
  have c14 := sid_cells hs 14 (by decide)
  have c15 := sid_cells hs 15 (by decide)
  clear h1 h2 h3 h4 hs
  rcases hn with rfl | rfl | rfl | rfl <;> rcases hs4 with rfl | rfl | rfl | rfl <;>
  · go_enter Tryz.func17, Tryz.ntmps17
    go_wp2
    go_ret
    exact ⟨rfl, rfl⟩
theorem ix0 (w : World) : (Instr.index 74 (.agg #[.int .i64 0, .int .i64 0, .int .i64 0, .int .i64 0, .int .i64 0, .int .i64 1, .int .i64 0, .int .i64 1, .int .i64 0, .int .i64 1, .int .i64 2, .int .i64 1, .int .i64 0, .int .i64 1, .int .i64 2, .int .i64 3]) (.int .i64 0)).run Tryz.prog w = .ok (.agg #[.int .i64 0, .int .i64 0, .int .i64 0, .int .i64 0]) w := by kernel_rfl
theorem ix1 (w : World) : (Instr.index 74 (.agg #[.int .i64 0, .int .i64 0, .int .i64 0, .int .i64 0, .int .i64 0, .int .i64 1, .int .i64 0, .int .i64 1, .int .i64 0, .int .i64 1, .int .i64 2, .int .i64 1, .int .i64 0, .int .i64 1, .int .i64 2, .int .i64 3]) (.int .i64 1)).run Tryz.prog w = .ok (.agg #[.int .i64 0, .int .i64 1, .int .i64 0, .int .i64 1]) w := by kernel_rfl
theorem ix2 (w : World) : (Instr.index 74 (.agg #[.int .i64 0, .int .i64 0, .int .i64 0, .int .i64 0, .int .i64 0, .int .i64 1, .int .i64 0, .int .i64 1, .int .i64 0, .int .i64 1, .int .i64 2, .int .i64 1, .int .i64 0, .int .i64 1, .int .i64 2, .int .i64 3]) (.int .i64 2)).run Tryz.prog w = .ok (.agg #[.int .i64 0, .int .i64 1, .int .i64 2, .int .i64 1]) w := by kernel_rfl
theorem ix3 (w : World) : (Instr.index 74 (.agg #[.int .i64 0, .int .i64 0, .int .i64 0, .int .i64 0, .int .i64 0, .int .i64 1, .int .i64 0, .int .i64 1, .int .i64 0, .int .i64 1, .int .i64 2, .int .i64 1, .int .i64 0, .int .i64 1, .int .i64 2, .int .i64 3]) (.int .i64 3)).run Tryz.prog w = .ok (.agg #[.int .i64 0, .int .i64 1, .int .i64 2, .int .i64 3]) w := by kernel_rfl
theorem jx00 (w : World) : (Instr.index 73 (.agg #[.int .i64 0, .int .i64 0, .int .i64 0, .int .i64 0]) (.int .i64 0)).run Tryz.prog w = .ok (.int .i64 0) w := by kernel_rfl
theorem jx01 (w : World) : (Instr.index 73 (.agg #[.int .i64 0, .int .i64 0, .int .i64 0, .int .i64 0]) (.int .i64 1)).run Tryz.prog w = .ok (.int .i64 0) w := by kernel_rfl
theorem jx02 (w : World) : (Instr.index 73 (.agg #[.int .i64 0, .int .i64 0, .int .i64 0, .int .i64 0]) (.int .i64 2)).run Tryz.prog w = .ok (.int .i64 0) w := by kernel_rfl
theorem jx03 (w : World) : (Instr.index 73 (.agg #[.int .i64 0, .int .i64 0, .int .i64 0, .int .i64 0]) (.int .i64 3)).run Tryz.prog w = .ok (.int .i64 0) w := by kernel_rfl
theorem jx10 (w : World) : (Instr.index 73 (.agg #[.int .i64 0, .int .i64 1, .int .i64 0, .int .i64 1]) (.int .i64 0)).run Tryz.prog w = .ok (.int .i64 0) w := by kernel_rfl
theorem jx11 (w : World) : (Instr.index 73 (.agg #[.int .i64 0, .int .i64 1, .int .i64 0, .int .i64 1]) (.int .i64 1)).run Tryz.prog w = .ok (.int .i64 1) w := by kernel_rfl
theorem jx12 (w : World) : (Instr.index 73 (.agg #[.int .i64 0, .int .i64 1, .int .i64 0, .int .i64 1]) (.int .i64 2)).run Tryz.prog w = .ok (.int .i64 0) w := by kernel_rfl
theorem jx13 (w : World) : (Instr.index 73 (.agg #[.int .i64 0, .int .i64 1, .int .i64 0, .int .i64 1]) (.int .i64 3)).run Tryz.prog w = .ok (.int .i64 1) w := by kernel_rfl
theorem jx20 (w : World) : (Instr.index 73 (.agg #[.int .i64 0, .int .i64 1, .int .i64 2, .int .i64 1]) (.int .i64 0)).run Tryz.prog w = .ok (.int .i64 0) w := by kernel_rfl
theorem jx21 (w : World) : (Instr.index 73 (.agg #[.int .i64 0, .int .i64 1, .int .i64 2, .int .i64 1]) (.int .i64 1)).run Tryz.prog w = .ok (.int .i64 1) w := by kernel_rfl
theorem jx22 (w : World) : (Instr.index 73 (.agg #[.int .i64 0, .int .i64 1, .int .i64 2, .int .i64 1]) (.int .i64 2)).run Tryz.prog w = .ok (.int .i64 2) w := by kernel_rfl
theorem jx23 (w : World) : (Instr.index 73 (.agg #[.int .i64 0, .int .i64 1, .int .i64 2, .int .i64 1]) (.int .i64 3)).run Tryz.prog w = .ok (.int .i64 1) w := by kernel_rfl
theorem jx30 (w : World) : (Instr.index 73 (.agg #[.int .i64 0, .int .i64 1, .int .i64 2, .int .i64 3]) (.int .i64 0)).run Tryz.prog w = .ok (.int .i64 0) w := by kernel_rfl
theorem jx31 (w : World) : (Instr.index 73 (.agg #[.int .i64 0, .int .i64 1, .int .i64 2, .int .i64 3]) (.int .i64 1)).run Tryz.prog w = .ok (.int .i64 1) w := by kernel_rfl
theorem jx32 (w : World) : (Instr.index 73 (.agg #[.int .i64 0, .int .i64 1, .int .i64 2, .int .i64 3]) (.int .i64 2)).run Tryz.prog w = .ok (.int .i64 2) w := by kernel_rfl
theorem jx33 (w : World) : (Instr.index 73 (.agg #[.int .i64 0, .int .i64 1, .int .i64 2, .int .i64 3]) (.int .i64 3)).run Tryz.prog w = .ok (.int .i64 3) w := by kernel_rfl
set_option maxHeartbeats 1000000 in
theorem rsides_any (n s : Int) (w : World) : Calls Tryz.prog 18 #[.int .i64 n, .int .i64 s] w fun e w' => e = .returned (.int .i64 (sidesZ n s)) ∧ w' = w := by
  by_cases h1 : n < 1
  · have e : sidesZ n s = -1 := by unfold sidesZ; rw [if_neg (by omega)]
    rw [e]
    have d1 : decide (n < 1) = true := decide_eq_true h1
    go_enter Tryz.func18, Tryz.ntmps18
    go_wp2
    go_ret
    exact ⟨rfl, rfl⟩
  by_cases h2 : 4 < n
  · have e : sidesZ n s = -1 := by unfold sidesZ; rw [if_neg (by omega)]
    rw [e]
    have d1 : decide (n < 1) = false := decide_eq_false h1
    have d2 : decide (4 < n) = true := decide_eq_true h2
    go_enter Tryz.func18, Tryz.ntmps18
    go_wp2
    go_ret
    exact ⟨rfl, rfl⟩
  by_cases h3 : s < 0
  · have e : sidesZ n s = -1 := by unfold sidesZ; rw [if_neg (by omega)]
    rw [e]
    have d1 : decide (n < 1) = false := decide_eq_false h1
    have d2 : decide (4 < n) = false := decide_eq_false h2
    have d3 : decide (s < 0) = true := decide_eq_true h3
    go_enter Tryz.func18, Tryz.ntmps18
    go_wp2
    go_ret
    exact ⟨rfl, rfl⟩
  by_cases h4 : 3 < s
  · have e : sidesZ n s = -1 := by unfold sidesZ; rw [if_neg (by omega)]
    rw [e]
    have d1 : decide (n < 1) = false := decide_eq_false h1
    have d2 : decide (4 < n) = false := decide_eq_false h2
    have d3 : decide (s < 0) = false := decide_eq_false h3
    have d4 : decide (3 < s) = true := decide_eq_true h4
    go_enter Tryz.func18, Tryz.ntmps18
    go_wp2
    go_ret
    exact ⟨rfl, rfl⟩
  have hn : n = 1 ∨ n = 2 ∨ n = 3 ∨ n = 4 := by omega
  have hs4 : s = 0 ∨ s = 1 ∨ s = 2 ∨ s = 3 := by omega
  clear h1 h2 h3 h4
  have j0 := ix0 w
  have j1 := ix1 w
  have j2 := ix2 w
  have j3 := ix3 w
  have k00 := jx00 w
  have k01 := jx01 w
  have k02 := jx02 w
  have k03 := jx03 w
  have k10 := jx10 w
  have k11 := jx11 w
  have k12 := jx12 w
  have k13 := jx13 w
  have k20 := jx20 w
  have k21 := jx21 w
  have k22 := jx22 w
  have k23 := jx23 w
  have k30 := jx30 w
  have k31 := jx31 w
  have k32 := jx32 w
  have k33 := jx33 w
  rcases hn with rfl | rfl | rfl | rfl <;> rcases hs4 with rfl | rfl | rfl | rfl <;>
  · go_enter Tryz.func18, Tryz.ntmps18
    go_wp2
    go_ret
    exact ⟨rfl, rfl⟩
def ovB : List UInt8 := [111, 118, 101, 114, 102, 108, 111, 119]
/-- The part that a shorthand's longhand has, of so many. -/
def whichZ (name : ByteArray) (n i : Int) : Int := if (name.toList == [111, 118, 101, 114, 102, 108, 111, 119]) = true then (if 2 < n then -1 else i * (n - 1)) else sidesZ n i
theorem which_any (name : ByteArray) (n i : Int) (hn : 0 ≤ n ∧ n ≤ 140737488355328) (hi : 0 ≤ i ∧ i ≤ 1000) (w : World) : Calls Tryz.prog 33 #[.string name, .int .i64 n, .int .i64 i] w fun e w' => e = .returned (.int .i64 (whichZ name n i)) ∧ w' = w := by
  have hs := rsides_any n i w
  by_cases h : (name.toList == [111, 118, 101, 114, 102, 108, 111, 119]) = true
  · by_cases h2 : 2 < n
    · have e : whichZ name n i = -1 := by unfold whichZ; rw [if_pos h, if_pos h2]
      rw [e]
      have d2 : decide (2 < n) = true := decide_eq_true h2
      clear hs
      go_enter Tryz.func33, Tryz.ntmps33
      go_wp2
      go_ret
      exact ⟨rfl, rfl⟩
    · have e : whichZ name n i = i * (n - 1) := by unfold whichZ; rw [if_pos h, if_neg h2]
      rw [e]
      have d2 : decide (2 < n) = false := decide_eq_false h2
      have hn3 : n = 0 ∨ n = 1 ∨ n = 2 := by omega
      clear hs
      rcases hn3 with rfl | rfl | rfl
      · have w1 : IntKind.i64.wrap (i * (-1)) = i * (-1) := by rw [IntKind.wrap_i64]; omega
        go_enter Tryz.func33, Tryz.ntmps33
        go_wp2
        go_ret
        exact ⟨by simp, rfl⟩
      · go_enter Tryz.func33, Tryz.ntmps33
        go_wp2
        go_ret
        exact ⟨by simp, rfl⟩
      · have w1 : IntKind.i64.wrap (i * 1) = i * 1 := by rw [IntKind.wrap_i64]; omega
        go_enter Tryz.func33, Tryz.ntmps33
        go_wp2
        go_ret
        exact ⟨by simp, rfl⟩
  · have e : whichZ name n i = sidesZ n i := by unfold whichZ; rw [if_neg h]
    rw [e]
    have hf : (name.toList == [111, 118, 101, 114, 102, 108, 111, 119]) = false := by simpa using h
    go_enter Tryz.func33, Tryz.ntmps33
    go_wp2_with (go_at_call 18; fail)
    refine hs.mono ?_
    rintro e w' ⟨rfl, rfl⟩
    go_wp2
    go_ret
    exact ⟨rfl, rfl⟩
end Go.Proofs.YtlhdapckenjigaaGreatDoor.S
namespace Go.Proofs.YtlhdapckenjigaaGreatDoor.S
open Go.RowKit
open Go.Proofs.YtlhdapckenjigaaGreatDoor.L (T5 V VsAt t5Cells vCells cell_of_heap hid_mk)
open Go.Proofs.YtlhdapckenjigaaGreatDoor.Y (spaceV trimZ aheadZ)
set_option maxRecDepth 100000

/-- The parts between Spaces, c being the one that is open. -/
def cutA : List V → List V → List (List V)
  | c, [] => if c.isEmpty then [] else [c]
  | c, x :: r => if spaceV x then (if c.isEmpty then cutA [] r else c :: cutA [] r) else cutA (c ++ [x]) r
def cutP (vs : List V) : List (List V) := cutA [] vs
/-- The longhands that a name stands for. -/
def lghS (name : ByteArray) : List ByteArray := if 0 ≤ P.plc name then [name] else P.lgs name
def partAt (ps : List (List V)) (i : Nat) : List V := ps.getD (sidesZ ps.length i).toNat []
/-- The values of the names from the i'th on. -/
def readA (ps : List (List V)) : Nat → List ByteArray → Option (List ByteArray)
  | _, [] => some []
  | i, n :: r => match Z.parseO n (partAt ps i) with
    | none => none
    | some s => (readA ps (i + 1) r).map (s :: ·)
/-- short.values. -/
def valsO (names : List ByteArray) (vs : List V) : List ByteArray :=
  if (Z.wideS vs).size ≠ 0 then List.replicate names.length (Z.wideS vs)
  else if (cutP vs).length = 0 ∨ names.length < (cutP vs).length then [] else (readA (cutP vs) 0 names).getD []
structure Lg where
  n : ByteArray
  v : ByteArray
  i : Bool
/-- short.Expand. -/
def expO (name : ByteArray) (vs : List V) (imp : Bool) : List Lg := ((valsO (lghS name) vs).zip (lghS name)).map fun p => ⟨p.2, p.1, imp⟩
/-- The document's cut: the parts, each one value; nothing, if two stand side by side. -/
def rcutA : Bool → List V → Option (List V)
  | _, [] => some []
  | sp, x :: r => if spaceV x then rcutA true r else if sp then (rcutA false r).map (x :: ·) else none
def rcutP (vs : List V) : List V := (rcutA true (trimZ vs)).getD []
/-- The document's way through a shorthand's longhands. -/
def rexpA (name : ByteArray) (vs : List V) (ps : List V) (imp : Bool) : Nat → List ByteArray → Option (List Lg)
  | _, [] => some []
  | i, n :: r =>
    if (Z.wideS vs).size ≠ 0 then (rexpA name vs ps imp (i + 1) r).map (⟨n, Z.wideS vs, imp⟩ :: ·)
    else if ps.length = 0 then none
    else if whichZ name ps.length i < 0 then none
    else match Z.parseO n ((ps.drop (whichZ name ps.length i).toNat).take 1) with
      | none => none
      | some s => (rexpA name vs ps imp (i + 1) r).map (⟨n, s, imp⟩ :: ·)
def rexpO (name : ByteArray) (vs : List V) (imp : Bool) : List Lg :=
  if 0 ≤ P.plc name then (if (Z.wideS vs).size ≠ 0 then [⟨name, Z.wideS vs, imp⟩] else match Z.parseO name vs with
    | none => []
    | some s => [⟨name, s, imp⟩])
  else (rexpA name vs (rcutP vs) imp 0 (P.lgs name)).getD []

/- The parts are not empty, hold no Space, and are of the list. -/
theorem cutA_mem : ∀ (r c : List V), (∀ x ∈ c, spaceV x = false) → ∀ p ∈ cutA c r, p ≠ [] ∧ (∀ x ∈ p, spaceV x = false) ∧ ∀ x ∈ p, x ∈ c ∨ x ∈ r
  | [], c, hc, p, hp => by
    unfold cutA at hp
    split at hp
    · simp at hp
    · rename_i h
      rw [List.mem_singleton.1 hp]
      exact ⟨by intro e; rw [e] at h; simp at h, hc, fun x hx => .inl hx⟩
  | x :: r, c, hc, p, hp => by
    unfold cutA at hp
    split at hp
    · split at hp
      · obtain ⟨h1, h2, h3⟩ := cutA_mem r [] (by simp) p hp
        exact ⟨h1, h2, fun y hy => by rcases h3 y hy with h | h; simp at h; exact .inr (by simp [h])⟩
      · rename_i h
        rcases List.mem_cons.1 hp with rfl | hp
        · exact ⟨by intro e; rw [e] at h; simp at h, hc, fun x hx => .inl hx⟩
        · obtain ⟨h1, h2, h3⟩ := cutA_mem r [] (by simp) p hp
          exact ⟨h1, h2, fun y hy => by rcases h3 y hy with h | h; simp at h; exact .inr (by simp [h])⟩
    · rename_i hx
      obtain ⟨h1, h2, h3⟩ := cutA_mem r (c ++ [x]) (fun y hy => by
        rcases List.mem_append.1 hy with h | h
        · exact hc y h
        · rw [List.mem_singleton.1 h]; simpa using hx) p hp
      exact ⟨h1, h2, fun y hy => by
        rcases h3 y hy with h | h
        · rcases List.mem_append.1 h with h | h
          · exact .inl h
          · rw [List.mem_singleton.1 h]; exact .inr (by simp)
        · exact .inr (by simp [h])⟩
theorem cutP_mem {vs p : List V} (h : p ∈ cutP vs) : p ≠ [] ∧ (∀ x ∈ p, spaceV x = false) ∧ ∀ x ∈ p, x ∈ vs := by
  obtain ⟨h1, h2, h3⟩ := cutA_mem vs [] (by simp) p h
  exact ⟨h1, h2, fun x hx => by rcases h3 x hx with h | h; simp at h; exact h⟩
theorem cutA_len : ∀ (r c : List V), (cutA c r).length ≤ c.length + r.length
  | [], c => by
    unfold cutA
    split
    · simp
    · rename_i h
      have hc : 0 < c.length := by cases c; simp at h; simp
      simp; omega
  | x :: r, c => by
    unfold cutA
    split
    · split
      · have := cutA_len r []; simp at this ⊢; omega
      · rename_i h
        have := cutA_len r []
        have hc : 0 < c.length := by cases c; simp at h; simp
        simp at this ⊢; omega
    · have := cutA_len r (c ++ [x])
      simp at this ⊢; omega
theorem cutP_len (vs : List V) : (cutP vs).length ≤ vs.length := by
  have h := cutA_len vs []
  rw [List.length_nil, Nat.zero_add] at h
  exact h
/- A part within a list is not longer than the list. -/
theorem cutA_part : ∀ (r c : List V), ∀ p ∈ cutA c r, p.length ≤ c.length + r.length
  | [], c, p, hp => by
    unfold cutA at hp
    split at hp
    · simp at hp
    · rw [List.mem_singleton.1 hp]; simp
  | x :: r, c, p, hp => by
    unfold cutA at hp
    split at hp
    · split at hp
      · have := cutA_part r [] p hp; simp at this ⊢; omega
      · rcases List.mem_cons.1 hp with rfl | hp
        · simp
        · have := cutA_part r [] p hp; simp at this ⊢; omega
    · have := cutA_part r (c ++ [x]) p hp
      simp at this ⊢; omega
theorem part_len {vs p : List V} (h : p ∈ cutP vs) : p.length ≤ vs.length := by
  have h := cutA_part vs [] p h
  rw [List.length_nil, Nat.zero_add] at h
  exact h
/- No Space: nothing is trimmed. -/
theorem trim_no {p : List V} (h : ∀ x ∈ p, spaceV x = false) : trimZ p = p := by
  unfold trimZ
  rw [Y.drop_id (fun x r e => h x (by rw [e]; simp)), Y.ahead_id (fun x r e => h x (by rw [e]; simp))]
theorem cutA_flat : ∀ (r c : List V), (∀ x ∈ r, spaceV x = false) → cutA c r = if (c ++ r).isEmpty then [] else [c ++ r]
  | [], c, _ => by simp [cutA]
  | x :: r, c, h => by
    unfold cutA
    rw [if_neg (by rw [h x (by simp)]; simp), cutA_flat r (c ++ [x]) (fun y hy => h y (by simp [hy]))]
    simp
theorem cutA_all : ∀ (r : List V), (∀ x ∈ r, spaceV x = true) → ∀ c, cutA c r = if c.isEmpty then [] else [c]
  | [], _, c => rfl
  | x :: r, h, c => by
    unfold cutA
    rw [if_pos (h x (by simp)), cutA_all r (fun y hy => h y (by simp [hy])) []]
    split <;> rfl
theorem cutA_app : ∀ (r s c : List V), (∀ x ∈ r, spaceV x = false) → cutA c (r ++ s) = cutA (c ++ r) s
  | [], s, c, _ => by simp
  | x :: r, s, c, h => by
    rw [List.cons_append]
    conv => lhs; unfold cutA
    rw [if_neg (by rw [h x (by simp)]; simp), cutA_app r s (c ++ [x]) (fun y hy => h y (by simp [hy]))]
    simp
theorem cutA_drop : ∀ (vs : List V), cutA [] vs = cutA [] (vs.dropWhile spaceV)
  | [] => rfl
  | x :: r => by
    rw [List.dropWhile_cons]
    cases hx : spaceV x with
    | false => simp
    | true =>
      conv => lhs; unfold cutA
      rw [if_pos hx]
      simpa using cutA_drop r
theorem cutA_tail : ∀ (r t c : List V), (∀ x ∈ t, spaceV x = true) → cutA c (r ++ t) = cutA c r
  | [], t, c, h => by rw [List.nil_append, cutA_all t h]; rfl
  | x :: r, t, c, h => by
    rw [List.cons_append]
    conv => lhs; unfold cutA
    conv => rhs; unfold cutA
    rw [cutA_tail r t [] h, cutA_tail r t (c ++ [x]) h]
theorem ahead_tail (vs : List V) : ∃ t, vs = aheadZ vs ++ t ∧ ∀ x ∈ t, spaceV x = true := by
  refine ⟨(vs.reverse.takeWhile spaceV).reverse, ?_, ?_⟩
  · unfold aheadZ
    rw [← List.reverse_append, List.takeWhile_append_dropWhile, List.reverse_reverse]
  · intro x hx
    have h2 : (vs.reverse.takeWhile spaceV).all spaceV = true := List.all_takeWhile
    exact List.all_eq_true.1 h2 x (List.mem_reverse.1 hx)
/-- What stands at the ends changes no part. -/
theorem cut_trim (vs : List V) : cutP vs = cutP (trimZ vs) := by
  unfold cutP trimZ
  rw [cutA_drop vs]
  obtain ⟨t, ht, hs⟩ := ahead_tail (vs.dropWhile spaceV)
  conv => lhs; rw [ht]
  exact cutA_tail _ t [] hs
/-- The document's parts and the program's: either each part is one value, or the document tells none and one is of two or more. -/
theorem rcut_cut : ∀ (r : List V) (sp : Bool) (c : List V), (sp = true → c = []) → (sp = false → ∃ x, c = [x] ∧ spaceV x = false) →
    match rcutA sp r with
    | some l => cutA c r = (c ++ l).map (fun x => [x])
    | none => ∃ p ∈ cutA c r, 2 ≤ p.length
  | [], sp, c, h1, h2 => by
    cases sp with
    | true => rw [h1 rfl]; rfl
    | false =>
      obtain ⟨x, rfl, _⟩ := h2 rfl
      rfl
  | x :: r, sp, c, h1, h2 => by
    unfold rcutA
    cases hx : spaceV x with
    | true =>
      have ih := rcut_cut r true [] (fun _ => rfl) (fun h => by cases h)
      rw [if_pos rfl]
      cases hr : rcutA true r with
      | none =>
        rw [hr] at ih
        obtain ⟨p, hp, h3⟩ := ih
        refine ⟨p, ?_, h3⟩
        unfold cutA
        rw [if_pos hx]
        split
        · exact hp
        · exact List.mem_cons_of_mem _ hp
      | some l =>
        rw [hr] at ih
        show cutA c (x :: r) = _
        unfold cutA
        rw [if_pos hx]
        cases sp with
        | true => rw [h1 rfl]; simpa using ih
        | false =>
          obtain ⟨y, rfl, _⟩ := h2 rfl
          simp only [List.isEmpty_cons, Bool.false_eq_true, if_false]
          rw [ih]
          rfl
    | false =>
      rw [if_neg (by simp)]
      cases sp with
      | true =>
        rw [if_pos rfl, h1 rfl]
        have ih := rcut_cut r false [x] (fun h => by cases h) (fun _ => ⟨x, rfl, hx⟩)
        have e : cutA [] (x :: r) = cutA [x] r := by
          conv => lhs; unfold cutA
          rw [if_neg (by rw [hx]; simp)]
          rfl
        rw [e]
        cases hr : rcutA false r with
        | none => rw [hr] at ih; exact ih
        | some l => rw [hr] at ih; simpa using ih
      | false =>
        rw [if_neg (by simp)]
        obtain ⟨y, rfl, hy⟩ := h2 rfl
        show ∃ p ∈ cutA [y] (x :: r), 2 ≤ p.length
        have e : cutA [y] (x :: r) = cutA [y, x] r := by
          conv => lhs; unfold cutA
          rw [if_neg (by rw [hx]; simp)]
          rfl
        rw [e]
        exact two r [y, x] (by simp)
where two : ∀ (r c : List V), 2 ≤ c.length → ∃ p ∈ cutA c r, 2 ≤ p.length
  | [], c, h => ⟨c, by unfold cutA; rw [if_neg (by cases c <;> simp at h ⊢)]; simp, h⟩
  | x :: r, c, h => by
    unfold cutA
    split
    · rw [if_neg (by cases c <;> simp at h ⊢)]
      exact ⟨c, by simp, h⟩
    · exact two r (c ++ [x]) (by simp; omega)
end Go.Proofs.YtlhdapckenjigaaGreatDoor.S
namespace Go.Proofs.YtlhdapckenjigaaGreatDoor.S
open Go.RowKit
open Go.Proofs.YtlhdapckenjigaaGreatDoor.L (T5 V VsAt t5Cells vCells cell_of_heap hid_mk)
open Go.Proofs.YtlhdapckenjigaaGreatDoor.Y (spaceV trimZ aheadZ)
set_option maxRecDepth 100000

theorem rcutA_filter : ∀ (r : List V) (sp : Bool) (l : List V), rcutA sp r = some l → l = r.filter fun x => !spaceV x
  | [], sp, l, h => by simp [rcutA] at h; simp [h]
  | x :: r, sp, l, h => by
    unfold rcutA at h
    cases hx : spaceV x with
    | true =>
      rw [if_pos hx] at h
      rw [List.filter_cons_of_neg (by simp [hx])]
      exact rcutA_filter r true l h
    | false =>
      rw [if_neg (by simp [hx])] at h
      cases sp with
      | false => simp at h
      | true =>
        rw [if_pos rfl] at h
        cases hr : rcutA false r with
        | none => rw [hr] at h; simp at h
        | some m =>
          rw [hr] at h
          simp only [Option.map_some, Option.some.injEq] at h
          rw [List.filter_cons_of_pos (by simp [hx]), ← h, ← rcutA_filter r false m hr]
theorem oneO_none {p : List V} (h : ∀ x ∈ p, spaceV x = false) (h2 : 2 ≤ p.length) : Z.oneO p = none := by
  unfold Z.oneO
  rw [trim_no h]
  match p, h2 with
  | x :: y :: r, _ => rfl
theorem oneO_one {x : V} (h : spaceV x = false) : Z.oneO [x] = some x := by
  unfold Z.oneO
  rw [trim_no (by simpa using h)]
/-- What is read of values is read of their one part. -/
theorem one_cut (vs : List V) : Z.oneO vs = if (cutP vs).length = 1 then Z.oneO ((cutP vs).getD 0 []) else none := by
  have ht := cut_trim vs
  have hh := Y.trim_head vs
  have hl := Y.trim_last vs
  have e0 : Z.oneO vs = match trimZ vs with | [x] => some x | _ => none := rfl
  have hm : ∀ p ∈ cutP vs, p ≠ [] ∧ (∀ x ∈ p, spaceV x = false) ∧ ∀ x ∈ p, x ∈ vs := fun p hp => cutP_mem hp
  rw [e0]
  generalize trimZ vs = tv at *
  match tv, ht, hh, hl with
  | [], ht, _, _ =>
    rw [ht]
    rfl
  | [x], ht, hh, _ =>
    have hx := hh x [] rfl
    have e : cutP [x] = [[x]] := by
      unfold cutP
      rw [cutA_flat _ _ (by simpa using hx)]
      rfl
    rw [ht, e]
    show some x = if ([[x]] : List (List V)).length = 1 then _ else _
    rw [if_pos (show ([[x]] : List (List V)).length = 1 from rfl)]
    exact (oneO_one hx).symm
  | x :: y :: r, ht, hh, hl =>
    have hx := hh x _ rfl
    show none = _
    split
    · rename_i h1
      obtain ⟨p, hp⟩ : ∃ p, cutP vs = [p] := by
        match hc : cutP vs with
        | [] => rw [hc] at h1; simp at h1
        | [p] => exact ⟨p, rfl⟩
        | _ :: _ :: _ => rw [hc] at h1; simp at h1
      have hr := rcut_cut (x :: y :: r) true [] (fun _ => rfl) (fun h => by cases h)
      rw [hp]
      show none = Z.oneO p
      refine (oneO_none (hm p (by rw [hp]; simp)).2.1 ?_).symm
      cases hq : rcutA true (x :: y :: r) with
      | none =>
        rw [hq] at hr
        obtain ⟨q, hq1, hq2⟩ := hr
        have hq3 : q ∈ cutP vs := by rw [ht]; exact hq1
        rw [hp] at hq3
        rw [List.mem_singleton.1 hq3] at hq2
        exact hq2
      | some l =>
        exfalso
        rw [hq] at hr
        have hf := rcutA_filter _ _ _ hq
        have hlen : 2 ≤ l.length := by
          rw [hf]
          rcases List.eq_nil_or_concat (y :: r) with h | ⟨s, z, h⟩
          · cases h
          · rw [List.concat_eq_append] at h
            have hz := hl z (x :: s) (by rw [h]; rfl)
            rw [h, List.filter_cons_of_pos (by simp [hx]), List.filter_append, List.filter_cons_of_pos (by simp [hz])]
            simp
        have h3 : (cutP vs).length = l.length := by
          rw [ht]
          show (cutA [] (x :: y :: r)).length = _
          rw [show cutA [] (x :: y :: r) = _ from hr]
          simp
        omega
    · rfl
theorem parse_cut (name : ByteArray) (vs : List V) : Z.parseO name vs = if (cutP vs).length = 1 then Z.parseO name ((cutP vs).getD 0 []) else none := by
  unfold Z.parseO
  rw [one_cut vs]
  by_cases h : (cutP vs).length = 1
  · simp only [if_pos h]
  · simp only [if_neg h]
    split <;> rfl
theorem parse_none (name : ByteArray) {p : List V} (h : Z.oneO p = none) : Z.parseO name p = none := by
  unfold Z.parseO
  rw [h]
  split <;> rfl
theorem readA_none (ps : List (List V)) : ∀ (N : List ByteArray) (i j : Nat), j < N.length → (∀ nm, Z.parseO nm (partAt ps (i + j)) = none) → readA ps i N = none
  | [], _, _, h, _ => by simp at h
  | n :: r, i, 0, _, h => by unfold readA; rw [show partAt ps i = partAt ps (i + 0) from rfl, h n]
  | n :: r, i, j + 1, hj, h => by
    unfold readA
    rw [readA_none ps r (i + 1) j (by simpa using hj) (fun nm => by rw [show i + 1 + j = i + (j + 1) by omega]; exact h nm)]
    split <;> rfl
theorem rexpA_wide (name : ByteArray) (vs ps : List V) (imp : Bool) (hw : (Z.wideS vs).size ≠ 0) : ∀ (N : List ByteArray) (i : Nat), rexpA name vs ps imp i N = some (((List.replicate N.length (Z.wideS vs)).zip N).map fun p => ⟨p.2, p.1, imp⟩)
  | [], _ => rfl
  | n :: r, i => by
    unfold rexpA
    rw [if_pos hw, rexpA_wide name vs ps imp hw r (i + 1)]
    rfl
theorem rexpA_read (name : ByteArray) (vs l : List V) (ps : List (List V)) (imp : Bool) (hw : ¬ (Z.wideS vs).size ≠ 0) (hl : ¬ l.length = 0) : ∀ (N : List ByteArray) (i : Nat),
    (∀ j, j < N.length → ¬ whichZ name l.length ((i + j : Nat) : Int) < 0 ∧ (l.drop (whichZ name l.length ((i + j : Nat) : Int)).toNat).take 1 = partAt ps (i + j)) →
    rexpA name vs l imp i N = (readA ps i N).map fun ss => (ss.zip N).map fun p => ⟨p.2, p.1, imp⟩
  | [], _, _ => rfl
  | n :: r, i, h => by
    obtain ⟨h1, h2⟩ := h 0 (by simp)
    rw [Nat.add_zero] at h1 h2
    unfold rexpA readA
    rw [if_neg hw, if_neg hl, if_neg h1, h2, rexpA_read name vs l ps imp hw hl r (i + 1) (fun j hj => by rw [show i + 1 + j = i + (j + 1) by omega]; exact h (j + 1) (by simpa using hj))]
    cases Z.parseO n (partAt ps i) with
    | none => rfl
    | some s =>
      cases readA ps (i + 1) r with
      | none => rfl
      | some ss => rfl
theorem lgs_len (name : ByteArray) : (P.lgs name = [] ∧ (name.toList == [111, 118, 101, 114, 102, 108, 111, 119]) = false) ∨ ((P.lgs name).length = 2 ∧ (name.toList == [111, 118, 101, 114, 102, 108, 111, 119]) = true) ∨ ((P.lgs name).length = 4 ∧ (name.toList == [111, 118, 101, 114, 102, 108, 111, 119]) = false) := by
  by_cases hO : (name.toList == [111, 118, 101, 114, 102, 108, 111, 119]) = true
  · exact .inr (.inl ⟨by rw [P.lgs_O hO]; rfl, hO⟩)
  have hO' : (name.toList == [111, 118, 101, 114, 102, 108, 111, 119]) = false := by simpa using hO
  by_cases hM : (name.toList == [109, 97, 114, 103, 105, 110]) = true
  · exact .inr (.inr ⟨by rw [P.lgs_M hM]; rfl, hO'⟩)
  by_cases hP : (name.toList == [112, 97, 100, 100, 105, 110, 103]) = true
  · exact .inr (.inr ⟨by rw [P.lgs_P hP]; rfl, hO'⟩)
  by_cases hW : (name.toList == [98, 111, 114, 100, 101, 114, 45, 119, 105, 100, 116, 104]) = true
  · exact .inr (.inr ⟨by rw [P.lgs_W hW]; rfl, hO'⟩)
  by_cases hS : (name.toList == [98, 111, 114, 100, 101, 114, 45, 115, 116, 121, 108, 101]) = true
  · exact .inr (.inr ⟨by rw [P.lgs_S hS]; rfl, hO'⟩)
  by_cases hC : (name.toList == [98, 111, 114, 100, 101, 114, 45, 99, 111, 108, 111, 114]) = true
  · exact .inr (.inr ⟨by rw [P.lgs_C hC]; rfl, hO'⟩)
  exact .inl ⟨P.lgs_none (by simpa using hM) (by simpa using hP) (by simpa using hW) (by simpa using hS) (by simpa using hC) hO', hO'⟩
theorem lgh_len (name : ByteArray) : (lghS name).length ≤ 4 := by
  unfold lghS
  split
  · simp
  · rcases lgs_len name with ⟨h, _⟩ | ⟨h, _⟩ | ⟨h, _⟩
    · rw [h]; simp
    · omega
    · omega
theorem sides_lt {n i : Nat} (h1 : 1 ≤ n) (h2 : n ≤ 4) (h3 : i ≤ 3) : 0 ≤ sidesZ n i ∧ sidesZ n i < n := by
  have hn : n = 1 ∨ n = 2 ∨ n = 3 ∨ n = 4 := by omega
  have hi : i = 0 ∨ i = 1 ∨ i = 2 ∨ i = 3 := by omega
  rcases hn with rfl | rfl | rfl | rfl <;> rcases hi with rfl | rfl | rfl | rfl <;> decide
theorem sides_self {n j : Nat} (h2 : n ≤ 4) (h3 : j < n) : sidesZ n j = j := by
  have hn : n = 1 ∨ n = 2 ∨ n = 3 ∨ n = 4 := by omega
  have hi : j = 0 ∨ j = 1 ∨ j = 2 ∨ j = 3 := by omega
  rcases hn with rfl | rfl | rfl | rfl <;> rcases hi with rfl | rfl | rfl | rfl <;> first | (exfalso; omega) | decide
/-- The longhands of any declaration, by the program and by the document. -/
theorem exp_eq (name : ByteArray) (vs : List V) (imp : Bool) : expO name vs imp = rexpO name vs imp := by
  unfold expO rexpO lghS
  by_cases hp : 0 ≤ P.plc name
  · simp only [if_pos hp]
    unfold valsO
    by_cases hw : (Z.wideS vs).size ≠ 0
    · rw [if_pos hw, if_pos hw]
      rfl
    · rw [if_neg hw, if_neg hw, parse_cut name vs]
      by_cases h1 : (cutP vs).length = 1
      · rw [if_neg (by rw [List.length_singleton]; omega), if_pos h1]
        have e : partAt (cutP vs) 0 = (cutP vs).getD 0 [] := by
          unfold partAt
          rw [h1]
          rfl
        unfold readA
        rw [e]
        cases Z.parseO name ((cutP vs).getD 0 []) with
        | none => rfl
        | some s => rfl
      · rw [if_pos (by rw [List.length_singleton]; omega), if_neg h1]
        rfl
  · simp only [if_neg hp]
    have hlg := lgs_len name
    generalize P.lgs name = N at *
    unfold valsO
    by_cases hw : (Z.wideS vs).size ≠ 0
    · rw [if_pos hw, rexpA_wide name vs _ imp hw]
      rfl
    · rw [if_neg hw]
      by_cases hN : N = []
      · subst hN
        simp [rexpA]
      have hN4 : N.length ≤ 4 := by rcases hlg with ⟨h, _⟩ | ⟨h, _⟩ | ⟨h, _⟩ <;> first | (exact absurd h hN) | omega
      have hN0 : 0 < N.length := List.length_pos_iff.2 hN
      have hnone : ∀ ps : List V, (ps.length = 0 ∨ whichZ name ps.length 0 < 0) → rexpA name vs ps imp 0 N = none := fun ps h => by
        match N, hN with
        | n :: r, _ =>
          unfold rexpA
          rw [if_neg hw]
          rcases h with h | h
          · rw [if_pos h]
          · split
            · rfl
            · rw [if_pos (by exact_mod_cast h)]
      have hr := rcut_cut (trimZ vs) true [] (fun _ => rfl) (fun h => by cases h)
      have hc : cutA [] (trimZ vs) = cutP vs := (cut_trim vs).symm
      rw [hc] at hr
      unfold rcutP
      cases hq : rcutA true (trimZ vs) with
      | none =>
        rw [hq] at hr
        obtain ⟨p, hp1, hp2⟩ := hr
        show _ = (rexpA name vs [] imp 0 N).getD []
        rw [hnone [] (.inl rfl)]
        split
        · simp
        · rename_i h5
          obtain ⟨j, hj, hjp⟩ := List.getElem_of_mem hp1
          have hn4 : (cutP vs).length ≤ 4 := by omega
          rw [readA_none (cutP vs) N 0 j (by omega) (fun nm => by
            rw [Nat.zero_add]
            refine parse_none nm ?_
            have e : partAt (cutP vs) j = p := by
              unfold partAt
              rw [sides_self hn4 hj]
              simp [List.getD, hj, hjp]
            rw [e]
            exact oneO_none (cutP_mem hp1).2.1 hp2)]
          simp
      | some l =>
        rw [hq] at hr
        have hr : cutP vs = l.map (fun x => [x]) := by simpa using hr
        have hlen : (cutP vs).length = l.length := by rw [hr]; simp
        show _ = (rexpA name vs l imp 0 N).getD []
        rw [hlen]
        by_cases h0 : l.length = 0
        · rw [if_pos (.inl h0), hnone l (.inl h0)]
          simp
        by_cases h5 : N.length < l.length
        · rw [if_pos (.inr h5), hnone l (.inr ?_)]
          · simp
          · unfold whichZ
            rcases hlg with ⟨h, _⟩ | ⟨h, h'⟩ | ⟨h, h'⟩
            · exact absurd h hN
            · rw [if_pos h', if_pos (by omega)]; decide
            · rw [if_neg (by rw [h']; simp)]
              unfold sidesZ
              rw [if_neg (by omega)]
              decide
        · rw [if_neg (by omega), rexpA_read name vs l (cutP vs) imp hw h0 N 0 ?_]
          · cases readA (cutP vs) 0 N <;> simp
          · intro j hj
            rw [Nat.zero_add]
            have key : whichZ name l.length (j : Int) = sidesZ l.length j := by
              unfold whichZ
              rcases hlg with ⟨h, _⟩ | ⟨h, h'⟩ | ⟨h, h'⟩
              · exact absurd h hN
              · rw [if_pos h', if_neg (by omega)]
                have hl2 : l.length = 1 ∨ l.length = 2 := by omega
                have hj2 : j = 0 ∨ j = 1 := by omega
                rcases hl2 with e | e <;> rcases hj2 with rfl | rfl <;> rw [e] <;> decide
              · rw [if_neg (by rw [h']; simp)]
            rw [key]
            obtain ⟨g1, g2⟩ := sides_lt (n := l.length) (i := j) (by omega) (by omega) (by omega)
            refine ⟨by omega, ?_⟩
            unfold partAt
            rw [hlen]
            generalize hk : (sidesZ l.length j).toNat = k
            have hkl : k < l.length := by omega
            rw [hr, List.drop_eq_getElem_cons hkl, List.take_succ_cons, List.take_zero]
            simp [List.getD, hkl]
end Go.Proofs.YtlhdapckenjigaaGreatDoor.S
