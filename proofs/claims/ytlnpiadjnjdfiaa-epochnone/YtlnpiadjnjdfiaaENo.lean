/- Epochs that no call made. -/
import Derived.Test.YtlnpiadjnjdfiaaELv
namespace Go.Proofs.Ytlnpiadjnjdfiaa.E
open Go.RowKit
set_option maxRecDepth 100000

/-- No call made it. -/
def NM (w : World) (p : Value) : Prop := Calls Try.prog 29 #[p] w fun e w' => e = .returned (.bool false) ∧ w' = w
theorem pin_none {w : World} {p : Value} (h : NM w p) : Calls Try.prog 13 #[p] w fun e w' => e = .returned (.tuple #[.int .i64 0, .int .i64 9]) ∧ w' = w := by
  have hm := hid_mk h
  clear h
  go_enter_defers Try.func13, Try.ntmps13
  go_wp2_with (go_at_call 29; refine hm.out.mono ?_; rintro e w' ⟨rfl, hw⟩; rw [hw]; clear hw w')
  exact ⟨_, results_tmp2 rfl _ _ _, rfl, rfl⟩
theorem unpin_none {w : World} {p : Value} (h : NM w p) (i : Int) : Calls Try.prog 15 #[p, .int .i64 i] w fun e w' => e = .returned (.int .i64 9) ∧ w' = w := by
  have hm := hid_mk h
  clear h
  go_enter_defers Try.func15, Try.ntmps15
  go_wp2_with (go_at_call 29; refine hm.out.mono ?_; rintro e w' ⟨rfl, hw⟩; rw [hw]; clear hw w')
  exact ⟨_, results_tmp rfl _ _ _, rfl, rfl⟩
theorem retire_none {w : World} {p : Value} (h : NM w p) (i : Int) : Calls Try.prog 18 #[p, .int .i64 i] w fun e w' => e = .returned (.int .i64 9) ∧ w' = w := by
  have hm := hid_mk h
  clear h
  go_enter_defers Try.func18, Try.ntmps18
  go_wp2_with (go_at_call 29; refine hm.out.mono ?_; rintro e w' ⟨rfl, hw⟩; rw [hw]; clear hw w')
  exact ⟨_, results_tmp rfl _ _ _, rfl, rfl⟩
theorem now_none {w : World} {p : Value} (h : NM w p) : Calls Try.prog 23 #[p] w fun e w' => e = .returned (.int .i64 0) ∧ w' = w := by
  have hm := hid_mk h
  clear h
  go_enter Try.func23, Try.ntmps23
  go_wp2_with (go_at_call 29; refine hm.out.mono ?_; rintro e w' ⟨rfl, hw⟩; rw [hw]; clear hw w')
  go_ret
  exact ⟨rfl, rfl⟩
theorem publish_none {w : World} {p : Value} (h : NM w p) : Calls Try.prog 11 #[p] w fun e w' => e = .returned (.int .i64 0) ∧ w' = w := by
  have hm := hid_mk h
  clear h
  go_enter_defers Try.func11, Try.ntmps11
  go_wp2_with (go_at_call 29; refine hm.out.mono ?_; rintro e w' ⟨rfl, hw⟩; rw [hw]; clear hw w')
  exact ⟨_, results_tmp rfl _ _ _, rfl, rfl⟩
theorem has_none {w : World} {p : Value} (h : NM w p) (i : Int) : Calls Try.prog 36 #[p, .int .i64 i] w fun e w' => e = .returned (.bool false) ∧ w' = w := by
  have hm := hid_mk h
  clear h
  go_enter Try.func36, Try.ntmps36
  go_wp2_with (go_at_call 29; refine hm.out.mono ?_; rintro e w' ⟨rfl, hw⟩; rw [hw]; clear hw w')
  go_ret
  exact ⟨rfl, rfl⟩
theorem pinned_none {w : World} {p : Value} (h : NM w p) (i : Int) : Calls Try.prog 26 #[p, .int .i64 i] w fun e w' => e = .returned (.int .i64 0) ∧ w' = w := by
  have hm := hid_mk (has_none h i)
  clear h
  go_enter Try.func26, Try.ntmps26
  go_wp2_with (go_at_call 36; refine hm.out.mono ?_; rintro e w' ⟨rfl, hw⟩; rw [hw]; clear hw w')
  go_ret
  exact ⟨rfl, rfl⟩
theorem min_none {w : World} {p : Value} (h : NM w p) : Calls Try.prog 24 #[p] w fun e w' => e = .returned (.int .i64 0) ∧ w' = w := by
  have hm := hid_mk h
  clear h
  go_enter_defers Try.func24, Try.ntmps24
  go_wp2_with (go_at_call 29; refine hm.out.mono ?_; rintro e w' ⟨rfl, hw⟩; rw [hw]; clear hw w')
  exact ⟨_, results_tmp rfl _ _ _, rfl, rfl⟩
theorem waiting_none {w : World} {p : Value} (h : NM w p) : Calls Try.prog 22 #[p] w fun e w' => e = .returned (.slice none 0 0) ∧ w' = w := by
  have hm := hid_mk h
  clear h
  go_enter Try.func22, Try.ntmps22
  go_wp2_with (go_at_call 29; refine hm.out.mono ?_; rintro e w' ⟨rfl, hw⟩; rw [hw]; clear hw w')
  go_ret
  exact ⟨rfl, rfl⟩
theorem reclaim_none {w : World} {p : Value} (h : NM w p) : Calls Try.prog 20 #[p] w fun e w' => e = .returned (.slice none 0 0) ∧ w' = w := by
  have hm := hid_mk h
  clear h
  go_enter_defers Try.func20, Try.ntmps20
  go_wp2_with (go_at_call 29; refine hm.out.mono ?_; rintro e w' ⟨rfl, hw⟩; rw [hw]; clear hw w')
  exact ⟨_, results_tmp rfl _ _ _, rfl, rfl⟩

theorem ix_two (w : World) (t : Nat) : (Instr.index 70 (.agg #[.pointer none, .pointer (some ⟨t, 0, none⟩)]) (.int .i64 0)).run Try.prog w = .ok (.pointer none) w ∧ (Instr.index 70 (.agg #[.pointer none, .pointer (some ⟨t, 0, none⟩)]) (.int .i64 1)).run Try.prog w = .ok (.pointer (some ⟨t, 0, none⟩)) w := ⟨by kernel_rfl, by kernel_rfl⟩
set_option maxHeartbeats 4000000 in
theorem none_walk (W : World) (n : Int) : Calls Try.prog 6 #[.int .i64 n] W fun e w' => e = .returned (.bool true) ∧ Below W.heap.size W w' := by
  obtain ⟨w1, hw1⟩ : ∃ w1, w1 = W.alloc (.cells #[.int .i64 0, .int .i64 0, .int .i64 0, .int .i64 0, .int .i64 0, .int .i64 0, .int .i64 0, .int .i64 0, .int .i64 0, .int .i64 0, .int .i32 0, .int .u32 0, .slice none 0 0] 69) := ⟨_, rfl⟩
  have hb : Below W.heap.size W w1 := by rw [hw1]; exact (Below.refl _ _).alloc (Nat.le_refl _) _
  have hz : w1.cell? ⟨W.heap.size, 0, none⟩ = some (.int .i64 0) := by
    have h := heap_alloc_last W (.cells #[.int .i64 0, .int .i64 0, .int .i64 0, .int .i64 0, .int .i64 0, .int .i64 0, .int .i64 0, .int .i64 0, .int .i64 0, .int .i64 0, .int .i32 0, .int .u32 0, .slice none 0 0] 69)
    rw [← hw1] at h
    simp only [World.cell?, h]
    rfl
  have H0 : Hid (NM w1 (.pointer none)) := made_nil w1
  have H1 : Hid (NM w1 (.pointer (some ⟨W.heap.size, 0, none⟩))) := made_zero hz
  have HB := hid_mk hb
  have HW1 := hid_mk hw1
  have hlv := lives_any w1
  have hbad := new_bad w1 0 (by omega)
  clear hb hz hw1
  go_enter Try.func6, Try.ntmps6
  go_wp2
  go_loopw [9] (fun p wr => ∃ k : Nat, k ≤ 2 ∧ p = .int .i64 (k : Int) ∧ wr = w1) (fun p _ => 3 - (intOf p).toNat)
  case atStart => exact ⟨0, by omega, rfl, HW1.out.symm⟩
  case round =>
    obtain ⟨k, hk, rfl, rfl⟩ := hrel
    by_cases hk2 : k < 2
    · obtain ⟨q, hix, HQ⟩ : ∃ q, (Instr.index 70 (.agg #[.pointer none, .pointer (some ⟨W.heap.size, 0, none⟩)]) (.int .i64 (k : Int))).run Try.prog wr = .ok (.pointer q) wr ∧ Hid (NM wr (.pointer q)) := by
        obtain rfl | rfl : k = 0 ∨ k = 1 := by omega
        · exact ⟨_, (ix_two wr _).1, H0⟩
        · exact ⟨_, (ix_two wr _).2, H1⟩
      have hd : (k : Int) < 2 := by omega
      go_wp2_with (first
        | (go_at_call 13; with_reducible refine (pin_none HQ.out).mono ?_; rintro e w' ⟨rfl, hw⟩; rw [hw]; clear hw w')
        | (go_at_call 15; with_reducible refine (unpin_none HQ.out _).mono ?_; rintro e w' ⟨rfl, hw⟩; rw [hw]; clear hw w')
        | (go_at_call 18; with_reducible refine (retire_none HQ.out _).mono ?_; rintro e w' ⟨rfl, hw⟩; rw [hw]; clear hw w')
        | (go_at_call 23; with_reducible refine (now_none HQ.out).mono ?_; rintro e w' ⟨rfl, hw⟩; rw [hw]; clear hw w')
        | (go_at_call 11; with_reducible refine (publish_none HQ.out).mono ?_; rintro e w' ⟨rfl, hw⟩; rw [hw]; clear hw w')
        | (go_at_call 26; with_reducible refine (pinned_none HQ.out _).mono ?_; rintro e w' ⟨rfl, hw⟩; rw [hw]; clear hw w')
        | (go_at_call 24; with_reducible refine (min_none HQ.out).mono ?_; rintro e w' ⟨rfl, hw⟩; rw [hw]; clear hw w')
        | (go_at_call 22; with_reducible refine (waiting_none HQ.out).mono ?_; rintro e w' ⟨rfl, hw⟩; rw [hw]; clear hw w')
        | (go_at_call 20; with_reducible refine (reclaim_none HQ.out).mono ?_; rintro e w' ⟨rfl, hw⟩; rw [hw]; clear hw w'))
      exact ⟨⟨k + 1, by omega, by simp⟩, by simp [intOf]; omega⟩
    · obtain rfl : k = 2 := by omega
      go_wp2_with (first
        | (go_at_call 8; refine hbad.mono ?_; rintro e w' ⟨rfl, hw⟩; rw [hw]; clear hw w')
        | (go_at_call 10; refine hlv.mono ?_; rintro e w2 ⟨rfl, hw2⟩))
      go_ret
      exact ⟨rfl, HB.out.trans (hw2.mono HB.out.size)⟩
end Go.Proofs.Ytlnpiadjnjdfiaa.E
