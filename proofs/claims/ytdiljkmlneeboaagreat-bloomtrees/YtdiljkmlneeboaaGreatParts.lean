/- trie.part and trie.within. -/
import Derived.Test.YtdiljkmlneeboaaGreatTri
namespace Go.Proofs.YtdiljkmlneeboaaGreat
open Go.RowKit
set_option maxRecDepth 100000

/-- The part of a number at a level, the lowest being 0. -/
def prt (n L : Nat) : Nat := n / 16 ^ L % 16
theorem prt_lt (n L : Nat) : prt n L < 16 := Nat.mod_lt _ (by decide)
theorem tmod_prt (n L : Nat) : ((n : Int) / 2 ^ (4 * L)).tmod 16 = (prt n L : Int) := by
  unfold prt
  have h : (n : Int) / 2 ^ (4 * L) = ((n / 16 ^ L : Nat) : Int) := by
    have e : (2 : Int) ^ (4 * L) = ((16 ^ L : Nat) : Int) := by rw [Int.pow_mul]; norm_cast
    rw [e]
    norm_cast
  rw [h]
  norm_cast
set_option maxHeartbeats 400000 in
theorem part_any (n L : Nat) (hL : L < 5) (w : World) : Calls Tryz.prog 123 #[.int .i64 n, .int .i64 (4 * L : Nat)] w fun e w' => e = .returned (.int .i64 (prt n L)) ∧ w' = w := by
  go_enter Tryz.func123, Tryz.ntmps123
  go_wp2
  go_ret
  exact ⟨by rw [tmod_prt]; rfl, rfl⟩
set_option maxHeartbeats 400000 in
theorem within_any (n : Int) (w : World) : Calls Tryz.prog 116 #[.int .i64 n] w fun e w' => e = .returned (.bool (decide (0 ≤ n) && decide (n < 1048576))) ∧ w' = w := by
  by_cases h1 : 0 ≤ n
  · by_cases h2 : n < 1048576
    · go_enter Tryz.func116, Tryz.ntmps116
      go_wp2
      go_ret
      exact ⟨by simp [h1, h2], rfl⟩
    · go_enter Tryz.func116, Tryz.ntmps116
      go_wp2
      go_ret
      exact ⟨by simp [h2], rfl⟩
  · go_enter Tryz.func116, Tryz.ntmps116
    go_wp2
    go_ret
    exact ⟨by have h3 : ¬ 0 ≤ n := by omega
              simp only [h3, decide_false, Bool.false_and]; rfl, rfl⟩

end Go.Proofs.YtdiljkmlneeboaaGreat
