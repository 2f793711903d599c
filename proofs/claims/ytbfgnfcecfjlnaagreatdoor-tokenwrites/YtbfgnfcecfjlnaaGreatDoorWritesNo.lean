/- What TokenWrites asks, where Int says false. -/
import Derived.Test.YtbfgnfcecfjlnaaGreatDoorWritesPairs
import Derived.Deep.RegionHeld3
namespace Go.Proofs.YtbfgnfcecfjlnaaGreatDoor
open Go.RowKit

set_option maxHeartbeats 10000000 in
set_option maxRecDepth 100000 in
theorem writes_false (w : World) (s tx un : ByteArray) (k n : Int) (wh fl : Bool) (E Q src : ByteArray) (hb2 : ¬ (5000 : Int) < (s.size : Int) + (tx.size : Int) + (un.size : Int))
    (hi1 : ∀ w', Stay k tx un wh fl w w' → Calls Tryz.prog 11 #[.agg #[.int .i64 k, .string tx, .string un, .bool wh, .bool fl]] w' fun e w'' => e = .returned (.tuple #[.int .i64 n, .bool false]) ∧ Stay k tx un wh fl w w'')
    (hi2 : ∀ w', Stay k tx un wh fl w w' → Calls Tryz.prog 12 #[.agg #[.int .i64 k, .string tx, .string un, .bool wh, .bool fl]] w' fun e w'' => e = .returned (.tuple #[.int .i64 n, .bool false]) ∧ Stay k tx un wh fl w w'')
    (hE1 : ∀ w', Stay k tx un wh fl w w' → Calls Tryz.prog 13 #[.string s] w' fun e w'' => e = .returned (.string E) ∧ Stay k tx un wh fl w w'')
    (hE2 : ∀ w', Stay k tx un wh fl w w' → Calls Tryz.prog 14 #[.string s] w' fun e w'' => e = .returned (.string E) ∧ Stay k tx un wh fl w w'')
    (hE3 : ∀ w', Stay k tx un wh fl w w' → Calls Tryz.prog 15 #[.string s] w' fun e w'' => e = .returned (.string Q) ∧ Stay k tx un wh fl w w'')
    (hE4 : ∀ w', Stay k tx un wh fl w w' → Calls Tryz.prog 16 #[.string s] w' fun e w'' => e = .returned (.string Q) ∧ Stay k tx un wh fl w w'')
    (hE5 : ∀ w', Stay k tx un wh fl w w' → Calls Tryz.prog 17 #[.agg #[.int .i64 k, .string tx, .string un, .bool wh, .bool fl]] w' fun e w'' => e = .returned (.string src) ∧ Stay k tx un wh fl w w'')
    (hE6 : ∀ w', Stay k tx un wh fl w w' → Calls Tryz.prog 18 #[.agg #[.int .i64 k, .string tx, .string un, .bool wh, .bool fl]] w' fun e w'' => e = .returned (.string src) ∧ Stay k tx un wh fl w w'')
    (hE7 : ∀ w', Stay k tx un wh fl w w' → Calls Tryz.prog 5 #[] w' fun e w'' => e = .returned (.bool true) ∧ Stay k tx un wh fl w w'') :
    Calls Tryz.prog 4 #[.string s, .agg #[.int .i64 k, .string tx, .string un, .bool wh, .bool fl]] w fun e w' => e = .returned (.bool true) ∧ Below w.heap.size w w' := by
  have g0 : Stay k tx un wh fl w (w.alloc (.cells #[.int .i64 k, .string tx, .string un, .bool wh, .bool fl] 31)) := ⟨(Below.refl _ w).alloc (Nat.le_refl _) _, heap_alloc_new w (.cells #[.int .i64 k, .string tx, .string un, .bool wh, .bool fl] 31)⟩
  go_enter Tryz.func4, Tryz.ntmps4
  go_wp2_with (go_at_call 11; fail)
  refine (hi1 _ ?_).mono ?_
  · exact g0
  rintro e w1 ⟨rfl, g1⟩
  obtain ⟨c0, c1, c2, c3, c4, cf⟩ := cells5 g1.2
  clear g0
  go_wp2_with (go_at_call 12; fail)
  refine (hi2 _ ?_).mono ?_
  · exact g1
  rintro e w2 ⟨rfl, g2⟩
  have gd : Stay k tx un wh fl w w2.drew := stay_on g2 (below_drewN _ _ 1)
  clear c0 c1 c2 c3 c4 cf g1 hi1 hi2 g2
  have full : ∀ w', Stay k tx un wh fl w w' → (w'.cell? ⟨w.heap.size, 0, none⟩ = some (.int .i64 k) ∧ w'.cell? ⟨w.heap.size, 1, none⟩ = some (.string tx) ∧ w'.cell? ⟨w.heap.size, 2, none⟩ = some (.string un) ∧ w'.cell? ⟨w.heap.size, 3, none⟩ = some (.bool wh) ∧ w'.cell? ⟨w.heap.size, 4, none⟩ = some (.bool fl)) := fun w' g => by
    obtain ⟨c0, c1, c2, c3, c4, cf⟩ := cells5 g.2
    exact ⟨c0, c1, c2, c3, c4⟩
  go_wp2
  go_region_held3 (fun w' => w'.cell? ⟨w.heap.size, 0, none⟩ = some (.int .i64 k) ∧ w'.cell? ⟨w.heap.size, 1, none⟩ = some (.string tx) ∧ w'.cell? ⟨w.heap.size, 2, none⟩ = some (.string un) ∧ w'.cell? ⟨w.heap.size, 3, none⟩ = some (.bool wh) ∧ w'.cell? ⟨w.heap.size, 4, none⟩ = some (.bool fl)) (exact full _ (by assumption)) (first
    | (go_at_call 13; refine (hE1 _ ?_).mono ?_; assumption; rintro e w3 ⟨rfl, g3⟩)
    | (go_at_call 14; refine (hE2 _ ?_).mono ?_; assumption; rintro e w4 ⟨rfl, g4⟩)
    | (go_at_call 15; refine (hE3 _ ?_).mono ?_; assumption; rintro e w5 ⟨rfl, g5⟩)
    | (go_at_call 16; refine (hE4 _ ?_).mono ?_; assumption; rintro e w6 ⟨rfl, g6⟩)
    | (go_at_call 17; refine (hE5 _ ?_).mono ?_; assumption; rintro e w7 ⟨rfl, g7⟩)
    | (go_at_call 18; refine (hE6 _ ?_).mono ?_; assumption; rintro e w8 ⟨rfl, g8⟩)
    | (go_at_call 5; refine (hE7 _ ?_).mono ?_; assumption; rintro e w9 ⟨rfl, g9⟩))
  all_goals
    go_wp2
    go_ret
    exact ⟨rfl, g9.1⟩

end Go.Proofs.YtbfgnfcecfjlnaaGreatDoor
