/- The document's examples are as it says. -/
import Derived.Test.YtiopndnnjajpaabName
import Derived.Lib.SlBytesConst
namespace Go.Proofs.Ytiopndnnjajpaab
open Go.RowKit

theorem ex1 : runesZ ⟨#[97, 13, 10, 98]⟩ = [97, 10, 98] := by decide +kernel
theorem ex2 : runesZ ⟨#[255, 97]⟩ = [65533, 97] := by decide +kernel
theorem ex3 : nameZ ⟨#[97, 45, 49]⟩ = true := by decide +kernel

theorem at4 {W : World} {g : Nat} {mk : Nat × Nat} (hg : W.heap[g]? = some (.cells #[.int .u8 97, .int .u8 13, .int .u8 10, .int .u8 98] 5 mk)) : BytesAt W (.slice (some ⟨g, 0, none⟩) 4 4) ⟨#[97, 13, 10, 98]⟩ := by
  refine ⟨_, _, rfl, by decide, fun _ => ⟨g, 0, rfl, fun j hj => ?_⟩⟩
  match j, hj with
  | 0, _ => simp [World.cell?, hg]; rfl
  | 1, _ => simp [World.cell?, hg]; rfl
  | 2, _ => simp [World.cell?, hg]; rfl
  | 3, _ => simp [World.cell?, hg]; rfl
  | j + 4, h => exact absurd h (by show ¬ (j + 4 < 4); omega)

theorem at2 {W : World} {g : Nat} {mk : Nat × Nat} (hg : W.heap[g]? = some (.cells #[.int .u8 255, .int .u8 97] 5 mk)) : BytesAt W (.slice (some ⟨g, 0, none⟩) 2 2) ⟨#[255, 97]⟩ := by
  refine ⟨_, _, rfl, by decide, fun _ => ⟨g, 0, rfl, fun j hj => ?_⟩⟩
  match j, hj with
  | 0, _ => simp [World.cell?, hg]; rfl
  | 1, _ => simp [World.cell?, hg]; rfl
  | j + 2, h => exact absurd h (by show ¬ (j + 2 < 2); omega)

theorem row3 {W : World} {g : Nat} {mk : Nat × Nat} (hg : W.heap[g]? = some (.cells #[.int .i32 97, .int .i32 10, .int .i32 98] 21 mk)) : RowAt .i32 W (.slice (some ⟨g, 0, none⟩) 3 3) [97, 10, 98] := by
  refine ⟨_, _, rfl, by decide, fun _ => ⟨g, 0, rfl, fun j hj => ?_⟩⟩
  match j, hj with
  | 0, _ => simp [World.cell?, hg]
  | 1, _ => simp [World.cell?, hg]
  | 2, _ => simp [World.cell?, hg]
  | j + 3, h => exact absurd h (by show ¬ (j + 3 < 3); omega)

theorem row2 {W : World} {g : Nat} {mk : Nat × Nat} (hg : W.heap[g]? = some (.cells #[.int .i32 65533, .int .i32 97] 21 mk)) : RowAt .i32 W (.slice (some ⟨g, 0, none⟩) 2 2) [65533, 97] := by
  refine ⟨_, _, rfl, by decide, fun _ => ⟨g, 0, rfl, fun j hj => ?_⟩⟩
  match j, hj with
  | 0, _ => simp [World.cell?, hg]
  | 1, _ => simp [World.cell?, hg]
  | j + 2, h => exact absurd h (by show ¬ (j + 2 < 2); omega)

theorem same_yes {v u : Value} {xs : List Int} {w : World} (hx : RowAt .i32 w v xs) (hy : RowAt .i32 w u xs) (hl : xs.length ≤ 1000000000000) :
    Calls Try.prog 6 #[v, u] w fun e w' => e = .returned (.bool true) ∧ Below w.heap.size w w' := by
  refine (same_any v u xs xs w hx hy hl hl).mono ?_
  rintro e w' ⟨rfl, n, rfl⟩
  exact ⟨ret_bool (by simp [sameZ]), below_drewN (Below.refl _ _) n⟩

theorem name_yes (w : World) : Calls Try.prog 9 #[.string ⟨#[97, 45, 49]⟩] w fun e w' => e = .returned (.bool true) ∧ Below w.heap.size w w' := by
  have := name_any ⟨#[97, 45, 49]⟩ w (by decide)
  rw [ex3] at this
  exact this

theorem hexF (w : World) : Calls Try.prog 8 #[.int .i32 70] w fun e w' => e = .returned (.int .i64 15) ∧ w = w' := by
  go_enter Try.func8, Try.ntmps8
  go_wp2
  go_ret
  exact ⟨rfl, rfl⟩

set_option maxHeartbeats 400000 in
set_option maxRecDepth 1000000 in
theorem lives_any (w : World) :
    Calls Try.prog 4 #[] w fun e w' => e = .returned (.bool true) ∧ Below w.heap.size w w' := by
  have kc := fun (w : World) (C : Array Value) (n c : Nat) => Lib.run_convert_bytes_const (P := Try.prog) w 24 5 C n c Try.underlying24 Try.underlying5
  go_enter Try.func4, Try.ntmps4
  go_wp2_with (go_at_call 7; fail)
  refine (runes_any _ ⟨#[97, 13, 10, 98]⟩ _ (by decide) (at4 (heap_alloc_new w _))).mono ?_
  rintro e w1 ⟨u1, rfl, ho1, hb1⟩
  rw [ex1] at ho1
  have r1 := (RowAt.own ho1).below ((Below.refl _ w1).alloc (Nat.le_refl _) (.cells #[.int .i32 97, .int .i32 10, .int .i32 98] 21))
  have B1 : Below w.heap.size w w1 := ((Below.refl _ w).alloc (Nat.le_refl _) _).trans (hb1.mono (by simp))
  clear ho1 hb1
  go_wp2_with (go_at_call 6; fail)
  refine (same_yes r1 (row3 (heap_alloc_new w1 _)) (by decide)).mono ?_
  rintro e w2 ⟨rfl, hb2⟩
  have B2 : Below w.heap.size w w2 := (B1.alloc B1.size _).trans (hb2.mono (by have := B1.size; simp; omega))
  clear r1 hb2
  go_wp2_with (go_at_call 7; fail)
  refine (runes_any _ ⟨#[255, 97]⟩ _ (by decide) (at2 (heap_alloc_new w2 _))).mono ?_
  rintro e w3 ⟨u3, rfl, ho3, hb3⟩
  rw [ex2] at ho3
  have r3 := (RowAt.own ho3).below ((Below.refl _ w3).alloc (Nat.le_refl _) (.cells #[.int .i32 65533, .int .i32 97] 21))
  have B3 : Below w.heap.size w w3 := (B2.alloc B2.size _).trans (hb3.mono (by have := B2.size; simp; omega))
  clear ho3 hb3
  go_wp2_with (go_at_call 6; fail)
  refine (same_yes r3 (row2 (heap_alloc_new w3 _)) (by decide)).mono ?_
  rintro e w4 ⟨rfl, hb4⟩
  have B4 : Below w.heap.size w w4 := (B3.alloc B3.size _).trans (hb4.mono (by have := B3.size; simp; omega))
  clear r3 hb4
  go_wp2_with (first
    | (go_at_call 8; refine (hexF _).mono ?_; rintro e w' ⟨rfl, rfl⟩)
    | (go_at_call 9; refine (name_yes _).mono ?_; rintro e w5 ⟨rfl, hb5⟩))
  go_ret
  exact ⟨rfl, B4.trans (hb5.mono B4.size)⟩

end Go.Proofs.Ytiopndnnjajpaab
