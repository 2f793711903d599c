/- The small functions of a ring: home, has, is, cells. -/
import Derived.Test.YtdgbebgjenfmbaaMAt
import Derived.Laws.Bits64
namespace Go.Proofs.Ytdgbebgjenfmbaa.M
open Go.RowKit
set_option maxRecDepth 100000

/-- The home of an epoch and a node among n cells. -/
def homeN (n : Nat) (e d : Int) : Nat := if n = 0 then 0 else ((e * 31 + d) % 18446744073709551616).toNat % n
theorem home_lt {n : Nat} (e d : Int) (h : 0 < n) : homeN n e d < n := by
  unfold homeN
  rw [if_neg (by omega)]
  exact Nat.mod_lt _ h
theorem home_eq {n : Nat} (e d : Int) (h0 : ¬ n = 0) (hn : n ≤ 65536) : wrap64 ((IntKind.u64.wrap (IntKind.u64.wrap (IntKind.u64.wrap e * 31) + IntKind.u64.wrap d)).tmod (n : Int)) = (homeN n e d : Int) := by
  have hw : IntKind.u64.wrap (IntKind.u64.wrap (IntKind.u64.wrap e * 31) + IntKind.u64.wrap d) = (e * 31 + d) % 18446744073709551616 := by
    rw [IntKind.wrap_u64, IntKind.wrap_u64, IntKind.wrap_u64, IntKind.wrap_u64]
    omega
  rw [hw]
  unfold homeN
  rw [if_neg h0]
  obtain ⟨m, hm⟩ : ∃ m : Nat, (e * 31 + d) % 18446744073709551616 = (m : Int) := ⟨((e * 31 + d) % 18446744073709551616).toNat, by omega⟩
  rw [hm, Int.toNat_natCast]
  have h1 : ((m : Int)).tmod (n : Int) = ((m % n : Nat) : Int) := by simp [Int.tmod]
  rw [h1]
  have h2 : m % n < n := Nat.mod_lt _ (by omega)
  generalize m % n = q at *
  unfold wrap64
  omega
theorem home_any {w : World} {a : Option Addr} {n : Nat} (e d : Int) (hn : n ≤ 65536) : Calls Try.prog 33 #[.slice a n n, .int .i64 e, .int .i64 d] w fun r w' => r = .returned (.int .i64 (homeN n e d : Int)) ∧ w' = w := by
  by_cases h0 : n = 0
  · subst h0
    go_enter Try.func33, Try.ntmps33
    go_wp2
    go_ret
    exact ⟨rfl, rfl⟩
  · have h1 : ¬ ((n : Int) = 0) := by omega
    have h2 : ((n : Int) == 0) = false := by simp [h0]
    go_enter Try.func33, Try.ntmps33
    go_wp2
    go_ret
    exact ⟨congrArg (fun q => Ending.returned (Value.int .i64 q)) (home_eq e d h0 hn), rfl⟩
theorem rhome_any {w : World} {t : Nat} {a : Option Addr} {n : Nat} (e d : Int) (hn : n ≤ 65536) (hb : w.cell? ⟨t, 0, none⟩ = some (.slice a n n)) : Calls Try.prog 28 #[.pointer (some ⟨t, 0, none⟩), .int .i64 e, .int .i64 d] w fun r w' => r = .returned (.int .i64 (homeN n e d : Int)) ∧ w' = w := by
  by_cases h0 : n = 0
  · subst h0
    go_enter Try.func28, Try.ntmps28
    go_wp2
    go_ret
    exact ⟨rfl, rfl⟩
  · have h1 : ¬ ((n : Int) = 0) := by omega
    have h2 : ((n : Int) == 0) = false := by simp [h0]
    go_enter Try.func28, Try.ntmps28
    go_wp2
    go_ret
    exact ⟨congrArg (fun q => Ending.returned (Value.int .i64 q)) (home_eq e d h0 hn), rfl⟩
theorem has_any {w : World} {a : Option Addr} {n : Nat} (i : Int) : Calls Try.prog 38 #[.slice a n n, .int .i64 i] w fun r w' => r = .returned (.bool (decide (0 ≤ i) && decide (i < (n : Int)))) ∧ w' = w := by
  by_cases h0 : 0 ≤ i
  · have h1 : decide (0 ≤ i) = true := decide_eq_true h0
    by_cases h2 : i < (n : Int)
    · have h3 : decide (i < (n : Int)) = true := decide_eq_true h2
      rw [h1, h3]
      go_enter Try.func38, Try.ntmps38
      go_wp2
      go_ret
      exact ⟨rfl, rfl⟩
    · have h3 : decide (i < (n : Int)) = false := decide_eq_false h2
      rw [h1, h3]
      go_enter Try.func38, Try.ntmps38
      go_wp2
      go_ret
      exact ⟨rfl, rfl⟩
  · have h1 : decide (0 ≤ i) = false := decide_eq_false h0
    rw [h1]
    go_enter Try.func38, Try.ntmps38
    go_wp2
    go_ret
    exact ⟨rfl, rfl⟩
/-- The cells of a table. -/
theorem cells_any {P : Nat → Prop} {w : World} {t r c : Nat} {L : List (Option En)} (h : Tab P w t r c L) : Calls Try.prog 31 #[.pointer (some ⟨t, 0, none⟩)] w fun e w' => e = .returned (.slice (some ⟨c, 0, none⟩) L.length L.length) ∧ w' = w := by
  obtain ⟨h1, _⟩ := box_cell h.box
  obtain ⟨h2, _⟩ := box_cell h.var
  have hl := loadR_any h1 h.var rfl
  clear h1 h
  generalize L.length = n at *
  go_enter Try.func31, Try.ntmps31
  go_wp2_with (go_at_call 40; refine hl.mono ?_; rintro e w' ⟨rfl, hw⟩; rw [hw]; clear hw w')
  go_wp2
  go_ret
  exact ⟨rfl, rfl⟩
theorem cells_nil {w : World} : Calls Try.prog 31 #[.pointer none] w fun e w' => e = .returned (.slice none 0 0) ∧ w' = w := by
  go_enter Try.func31, Try.ntmps31
  go_wp2
  go_ret
  exact ⟨rfl, rfl⟩
theorem cells_zero {w : World} {t : Nat} (h : w.cell? ⟨t, 0, none⟩ = some (.pointer none)) : Calls Try.prog 31 #[.pointer (some ⟨t, 0, none⟩)] w fun e w' => e = .returned (.slice none 0 0) ∧ w' = w := by
  have hl := loadR_nil h
  go_enter Try.func31, Try.ntmps31
  go_wp2_with (go_at_call 40; refine hl.mono ?_; rintro e w' ⟨rfl, hw⟩; rw [hw]; clear hw w')
  go_wp2
  go_ret
  exact ⟨rfl, rfl⟩
/-- Is it of this epoch and node? -/
def isE (x : En) (e d : Int) : Bool := decide (x.e = e) && decide (x.d = d)
theorem is_any {P : Nat → Prop} {w : World} {g : Nat} {x : En} (h : EnAt P w g x) (e d : Int) : Calls Try.prog 36 #[.pointer (some ⟨g, 0, none⟩), .int .i64 e, .int .i64 d] w fun r w' => r = .returned (.bool (isE x e d)) ∧ w' = w := by
  obtain ⟨_, sv, hg, _⟩ := h
  have c0 : w.cell? ⟨g, 0, none⟩ = some (.int .i64 x.e) := by simp [World.cell?, hg]
  have c1 : w.cell? ⟨g, 1, none⟩ = some (.int .i64 x.d) := by simp [World.cell?, hg]
  clear hg
  unfold isE
  by_cases h1 : x.e = e
  · have e1 : decide (x.e = e) = true := decide_eq_true h1
    have e2 : (x.e == e) = true := by simp [h1]
    by_cases h2 : x.d = d
    · have e3 : decide (x.d = d) = true := decide_eq_true h2
      have e4 : (x.d == d) = true := by simp [h2]
      rw [e1, e3]
      generalize x.e = xe at *
      generalize x.d = xd at *
      go_enter Try.func36, Try.ntmps36
      go_wp2
      go_ret
      exact ⟨rfl, rfl⟩
    · have e3 : decide (x.d = d) = false := decide_eq_false h2
      have e4 : (x.d == d) = false := by simp [h2]
      rw [e1, e3]
      generalize x.e = xe at *
      generalize x.d = xd at *
      go_enter Try.func36, Try.ntmps36
      go_wp2
      go_ret
      exact ⟨rfl, rfl⟩
  · have e1 : decide (x.e = e) = false := decide_eq_false h1
    have e2 : (x.e == e) = false := by simp [h1]
    rw [e1]
    generalize x.e = xe at *
    generalize x.d = xd at *
    go_enter Try.func36, Try.ntmps36
    go_wp2
    go_ret
    exact ⟨rfl, rfl⟩
theorem run_append_none (w : World) (ty : TypeId) (c : Nat) : (Builtin.append_ #[29, 29] ty #[.slice none 0 0, .slice none 0 c]).run Try.prog w = .ok (.slice none 0 0) w := by
  obtain ⟨i0, hi, _⟩ := info_parts (P := Try.prog) (e := 9) (z := .string .empty) (size := 1) (bytes := 16) (by kernel_rfl)
  have hu : Try.prog.underlying 29 = some (.slice 9) := by kernel_rfl
  simp [Builtin.append_, run_underlying hu, sizeOf, typeInfo, hi, Builtin.lenOf, Builtin.firstCells]
theorem made_ring (n : Nat) (j : Nat) (hj : j < n) : (madeCells #[Value.pointer none] n)[j]? = some (.pointer none) := by
  simp [madeCells, hj, Nat.mod_one]
/-- A new ring of n empty cells. -/
theorem empty_any {w : World} {n : Nat} (hn : n ≤ 65536) : Calls Try.prog 30 #[.int .i64 (n : Int)] w fun e w' => e = .returned (.pointer (some ⟨w.heap.size + 1, 0, none⟩)) ∧ w' = (w.alloc (.cells (madeCells #[Value.pointer none] n) 83)).alloc (.cells #[.slice (some ⟨w.heap.size, 0, none⟩) n n] 71) := by
  obtain ⟨i, hi, hz, hs, hb⟩ := info_parts (P := Try.prog) (e := 83) (z := .agg #[.pointer none]) (size := 1) (bytes := 8) (by kernel_rfl)
  have hmk := run_make (P := Try.prog) w 71 83 i (.agg #[.pointer none]) (by kernel_rfl) hi hz .i64 .i64 (n : Int) (n : Int) (by omega) (Int.le_refl _) (by rw [hb]; omega) (by omega)
  rw [hs] at hmk
  simp only [Int.toNat_natCast, Value.cells, Nat.mul_one] at hmk
  clear hi hz hs hb
  go_enter Try.func30, Try.ntmps30
  go_wp2
  go_ret
  exact ⟨rfl, rfl⟩
end Go.Proofs.Ytdgbebgjenfmbaa.M
