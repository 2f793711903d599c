/- slices.Sort of keys: patterns are broken. -/
import Derived.Test.YtdiljkmlneeboaaSo11
import Derived.Test.YtdiljkmlneeboaaSrt
import Derived.Sort.LotD5
import Derived.Laws.Bits64
import Derived.Laws.Bits64b
namespace Go.Proofs.Ytdiljkmlneeboaa
open Go.RowKit Go.Sort
set_option maxRecDepth 100000

/-- A number in a block of its own. -/
structure RB (w : World) (s : Nat) (X : Nat) (W : World) : Prop where
  cnt : W.heap[s]? = some (.cells #[.int .u64 (X : Int)] 74 (0, 0))
  keep : KeepX s w W
theorem RB.set {w W : World} {s X : Nat} (h : RB w s X W) (Y : Nat) : RB w s Y (W.setCell ⟨s, 0, none⟩ (.int .u64 (Y : Int))) :=
  ⟨by rw [set_at 0 _ _ h.cnt]; rfl, h.keep.trans ⟨rfl, rfl, rfl, by simp, fun k _ hk => Below.heap_setCell _ _ _ _ hk⟩⟩
theorem RB.drewN {w W : World} {s X : Nat} (h : RB w s X W) (n : Nat) : RB w s X (W.drewN n) := ⟨h.cnt, ⟨h.keep.os, h.keep.tape, h.keep.output, h.keep.size, h.keep.block⟩⟩

set_option maxHeartbeats 2000000 in
theorem next_any {w : World} {s X : Nat} (hX : X < 18446744073709551616) (h : RB w s X w) :
    Calls Try.prog 46 #[.pointer (some ⟨s, 0, none⟩)] w fun e w' => ∃ Y : Nat, Y < 18446744073709551616 ∧ e = .returned (.int .u64 (Y : Int)) ∧ RB w s Y w' := by
  obtain ⟨A, hA⟩ : ∃ A : Nat, A = X ^^^ (X * 8192 % 18446744073709551616) := ⟨_, rfl⟩
  obtain ⟨B, hB⟩ : ∃ B : Nat, B = A ^^^ (A / 128) := ⟨_, rfl⟩
  obtain ⟨C, hC⟩ : ∃ C : Nat, C = B ^^^ (B * 131072 % 18446744073709551616) := ⟨_, rfl⟩
  have lA : A < 18446744073709551616 := by rw [hA]; exact Nat.xor_lt_two_pow (n := 64) (by omega) (by omega)
  have lB : B < 18446744073709551616 := by rw [hB]; exact Nat.xor_lt_two_pow (n := 64) (by omega) (by omega)
  have lC : C < 18446744073709551616 := by rw [hC]; exact Nat.xor_lt_two_pow (n := 64) (by omega) (by omega)
  have e1 : bits .xor .u64 (X : Int) (IntKind.u64.wrap ((X : Int) * 8192)) = (A : Int) := by
    rw [IntKind.wrap_u64, show ((X : Int) * 8192 % 18446744073709551616) = ((X * 8192 % 18446744073709551616 : Nat) : Int) by omega, bits_xor_u64_nat _ _ hX (by omega), hA]
  have e2 : bits .xor .u64 (A : Int) ((A : Int) / 128) = (B : Int) := by
    rw [show ((A : Int) / 128) = ((A / 128 : Nat) : Int) by omega, bits_xor_u64_nat _ _ lA (by omega), hB]
  have e3 : bits .xor .u64 (B : Int) (IntKind.u64.wrap ((B : Int) * 131072)) = (C : Int) := by
    rw [IntKind.wrap_u64, show ((B : Int) * 131072 % 18446744073709551616) = ((B * 131072 % 18446744073709551616 : Nat) : Int) by omega, bits_xor_u64_nat _ _ lB (by omega), hC]
  have HL : Hid (C < 18446744073709551616) := lC
  have HS : Hid (∀ X W Y, RB w s X W → RB w s Y (W.setCell ⟨s, 0, none⟩ (.int .u64 (Y : Int)))) := fun X W Y h => h.set Y
  have c0 : w.cell? ⟨s, 0, none⟩ = some (.int .u64 (X : Int)) := cellAt h.cnt 0
  have f0 : w.frozen? ⟨s, 0, none⟩ = false := by simp [World.frozen?, h.cnt]
  have HB := hid_mk h
  clear hA hB hC lC h
  go_enter Try.func46, Try.ntmps46
  go_upto_region 1 with (fail)
  go_region
  all_goals go_upto_region 2 with (fail)
  have H1 : Hid (RB w s A (w.setCell ⟨s, 0, none⟩ (.int .u64 (A : Int))).drew) := (HS.out _ _ A HB.out).drewN 1
  clear HB c0 f0 e1
  generalize (w.setCell ⟨s, 0, none⟩ (.int .u64 (A : Int))).drew = W1 at H1 ⊢
  have c1 : W1.cell? ⟨s, 0, none⟩ = some (.int .u64 (A : Int)) := cellAt H1.out.cnt 0
  have f1 : W1.frozen? ⟨s, 0, none⟩ = false := by simp [World.frozen?, H1.out.cnt]
  go_region
  all_goals go_upto_region 3 with (fail)
  have H2 : Hid (RB w s B (W1.setCell ⟨s, 0, none⟩ (.int .u64 (B : Int))).drew) := (HS.out _ _ B H1.out).drewN 1
  clear H1 c1 f1 e2
  generalize (W1.setCell ⟨s, 0, none⟩ (.int .u64 (B : Int))).drew = W2 at H2 ⊢
  have c2 : W2.cell? ⟨s, 0, none⟩ = some (.int .u64 (B : Int)) := cellAt H2.out.cnt 0
  have f2 : W2.frozen? ⟨s, 0, none⟩ = false := by simp [World.frozen?, H2.out.cnt]
  go_region
  all_goals go_upto_region 4 with (fail)
  have H3 : Hid (RB w s C (W2.setCell ⟨s, 0, none⟩ (.int .u64 (C : Int))).drew) := (HS.out _ _ C H2.out).drewN 1
  clear H2 c2 f2 e3
  generalize (W2.setCell ⟨s, 0, none⟩ (.int .u64 (C : Int))).drew = W3 at H3 ⊢
  have c3 : W3.cell? ⟨s, 0, none⟩ = some (.int .u64 (C : Int)) := cellAt H3.out.cnt 0
  go_wp2
  go_ret
  exact ⟨C, HL.out, rfl, H3.out⟩

theorem bitLen_two : ∀ (n x : Nat), x ≤ n → 0 < x → x < 2 ^ 64 → 2 ^ Lib.bitLen x ≤ 2 * x
  | 0, x, h, h0, _ => by omega
  | n + 1, x, h, h0, h1 => by
    rw [Lib.bitLen_half x (by omega) h1]
    by_cases h2 : x = 1
    · subst h2
      decide
    · have := bitLen_two n (x / 2) (by omega) (by omega) (by omega)
      rw [Nat.add_comm, Nat.pow_succ]
      omega
set_option maxHeartbeats 1000000 in
theorem nextPow_any {l : Nat} (hl : 0 < l) (hl2 : l ≤ 1000000) (w : World) :
    Calls Try.prog 45 #[.int .i64 (l : Int)] w fun e w' => e = .returned (.int .u64 ((2 ^ Lib.bitLen l : Nat) : Int)) ∧ w' = w := by
  have h2 : Calls Try.prog 32 #[.int .u64 (l : Int)] w _ := Any.bits_Len Try.laysLen (l : Int) w (by omega) (by omega)
  rw [Int.toNat_natCast] at h2
  have hM := bitLen_two l l (Nat.le_refl _) hl (by omega)
  generalize Lib.bitLen l = k at *
  obtain ⟨M, hMe⟩ : ∃ M : Nat, M = 2 ^ k := ⟨_, rfl⟩
  have hk : k ≤ 62 := by
    rcases Nat.lt_or_ge 62 k with h | h
    · have := Nat.pow_le_pow_right (n := 2) (by decide) (Nat.le_of_lt h)
      have : (2 : Nat) ^ 62 = 4611686018427387904 := by decide
      omega
    · exact h
  rw [← hMe] at hM ⊢
  have hp : IntKind.u64.wrap ((2 : Int) ^ k) = (M : Int) := by
    rw [IntKind.wrap_u64, hMe, show ((2 : Int) ^ k) = ((2 ^ k : Nat) : Int) by push_cast; rfl, ← hMe]
    omega
  clear hMe
  go_enter Try.func45, Try.ntmps45
  go_wp2_with (go_at_call 32; fail)
  refine h2.mono ?_
  rintro e w' ⟨rfl, rfl⟩
  clear h2
  go_wp2
  go_ret
  exact ⟨rfl, rfl⟩
end Go.Proofs.Ytdiljkmlneeboaa
