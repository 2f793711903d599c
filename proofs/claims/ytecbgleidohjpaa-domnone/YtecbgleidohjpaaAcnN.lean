/- act on a Doc that no call made. -/
import Derived.Test.YtecbgleidohjpaaAttN
namespace Go.Proofs.Ytecbgleidohjpaa.N
open Go.RowKit
set_option maxRecDepth 100000

set_option maxHeartbeats 400000 in
theorem act_no_0 {w : World} {dp : Value} (h : NoDoc w dp) (x y z : Int) (nm v : ByteArray) : Calls Try.prog 13 #[dp, .agg #[.int .i64 0, .int .i64 x, .int .i64 y, .int .i64 z, .string nm, .string v]] w fun e w' => e = .returned (.tuple #[dp, .int .i64 0, .int .i64 9]) ∧ Below w.heap.size w w' := by
  have hf : Hid (∀ W, Below w.heap.size w W → Calls Try.prog 24 #[dp, .int .i64 x, .int .i64 y, .string nm] W fun e w' => e = .returned (.tuple #[dp, .int .i64 0, .int .i64 9]) ∧ Below W.heap.size W w') := fun W hW => insert_no (fun W' n hW' => h W' n (hW.trans (hW'.mono hW.size))) x y nm
  have HA : Hid (∀ o, Below w.heap.size w (w.alloc o)) := fun o => (Below.refl _ w).alloc (Nat.le_refl _) o
  clear h
  go_enter Try.func13, Try.ntmps13
  go_wp2_with (go_at_call 24; fail)
  refine (hf.out _ (HA.out _)).mono ?_
  rintro e w1 ⟨rfl, hb⟩
  have HB : Hid (Below w.heap.size w w1) := (HA.out _).trans (hb.mono (HA.out _).size)
  clear hf hb
  go_wp2
  refine bodyPost_ret (v := .tuple #[dp, .int .i64 0, .int .i64 9]) (by simp [results, Try.results13, go_sem]) rfl ⟨rfl, HB.out⟩
set_option maxHeartbeats 400000 in
theorem act_no_1 {w : World} {dp : Value} (h : NoDoc w dp) (x y z : Int) (nm v : ByteArray) : Calls Try.prog 13 #[dp, .agg #[.int .i64 1, .int .i64 x, .int .i64 y, .int .i64 z, .string nm, .string v]] w fun e w' => e = .returned (.tuple #[dp, .int .i64 0, .int .i64 9]) ∧ Below w.heap.size w w' := by
  have hf : Hid (∀ W, Below w.heap.size w W → Calls Try.prog 32 #[dp, .int .i64 x] W fun e w' => e = .returned (.tuple #[dp, .int .i64 9]) ∧ Below W.heap.size W w') := fun W hW => remove_no (fun W' n hW' => h W' n (hW.trans (hW'.mono hW.size))) x
  have HA : Hid (∀ o, Below w.heap.size w (w.alloc o)) := fun o => (Below.refl _ w).alloc (Nat.le_refl _) o
  clear h
  go_enter Try.func13, Try.ntmps13
  go_wp2_with (go_at_call 32; fail)
  refine (hf.out _ (HA.out _)).mono ?_
  rintro e w1 ⟨rfl, hb⟩
  have HB : Hid (Below w.heap.size w w1) := (HA.out _).trans (hb.mono (HA.out _).size)
  clear hf hb
  go_wp2
  refine bodyPost_ret (v := .tuple #[dp, .int .i64 0, .int .i64 9]) (by simp [results, Try.results13, go_sem]) rfl ⟨rfl, HB.out⟩
set_option maxHeartbeats 400000 in
theorem act_no_2 {w : World} {dp : Value} (h : NoDoc w dp) (x y z : Int) (nm v : ByteArray) : Calls Try.prog 13 #[dp, .agg #[.int .i64 2, .int .i64 x, .int .i64 y, .int .i64 z, .string nm, .string v]] w fun e w' => e = .returned (.tuple #[dp, .int .i64 0, .int .i64 9]) ∧ Below w.heap.size w w' := by
  have hf : Hid (∀ W, Below w.heap.size w W → Calls Try.prog 25 #[dp, .int .i64 x, .int .i64 y, .int .i64 z] W fun e w' => e = .returned (.tuple #[dp, .int .i64 9]) ∧ Below W.heap.size W w') := fun W hW => move_no (fun W' n hW' => h W' n (hW.trans (hW'.mono hW.size))) x y z
  have HA : Hid (∀ o, Below w.heap.size w (w.alloc o)) := fun o => (Below.refl _ w).alloc (Nat.le_refl _) o
  clear h
  go_enter Try.func13, Try.ntmps13
  go_wp2_with (go_at_call 25; fail)
  refine (hf.out _ (HA.out _)).mono ?_
  rintro e w1 ⟨rfl, hb⟩
  have HB : Hid (Below w.heap.size w w1) := (HA.out _).trans (hb.mono (HA.out _).size)
  clear hf hb
  go_wp2
  refine bodyPost_ret (v := .tuple #[dp, .int .i64 0, .int .i64 9]) (by simp [results, Try.results13, go_sem]) rfl ⟨rfl, HB.out⟩
set_option maxHeartbeats 400000 in
theorem act_no_3 {w : World} {dp : Value} (h : NoDoc w dp) (x y z : Int) (nm v : ByteArray) : Calls Try.prog 13 #[dp, .agg #[.int .i64 3, .int .i64 x, .int .i64 y, .int .i64 z, .string nm, .string v]] w fun e w' => e = .returned (.tuple #[dp, .int .i64 0, .int .i64 9]) ∧ Below w.heap.size w w' := by
  have hf : Hid (∀ W, Below w.heap.size w W → Calls Try.prog 33 #[dp, .int .i64 x, .string nm, .string v] W fun e w' => e = .returned (.tuple #[dp, .int .i64 9]) ∧ Below W.heap.size W w') := fun W hW => setAttr_no (fun W' n hW' => h W' n (hW.trans (hW'.mono hW.size))) x nm v
  have HA : Hid (∀ o, Below w.heap.size w (w.alloc o)) := fun o => (Below.refl _ w).alloc (Nat.le_refl _) o
  clear h
  go_enter Try.func13, Try.ntmps13
  go_wp2_with (go_at_call 33; fail)
  refine (hf.out _ (HA.out _)).mono ?_
  rintro e w1 ⟨rfl, hb⟩
  have HB : Hid (Below w.heap.size w w1) := (HA.out _).trans (hb.mono (HA.out _).size)
  clear hf hb
  go_wp2
  refine bodyPost_ret (v := .tuple #[dp, .int .i64 0, .int .i64 9]) (by simp [results, Try.results13, go_sem]) rfl ⟨rfl, HB.out⟩
set_option maxHeartbeats 400000 in
theorem act_no_4 {w : World} {dp : Value} (h : NoDoc w dp) (x y z : Int) (nm v : ByteArray) : Calls Try.prog 13 #[dp, .agg #[.int .i64 4, .int .i64 x, .int .i64 y, .int .i64 z, .string nm, .string v]] w fun e w' => e = .returned (.tuple #[dp, .int .i64 0, .int .i64 9]) ∧ Below w.heap.size w w' := by
  have hf : Hid (∀ W, Below w.heap.size w W → Calls Try.prog 34 #[dp, .int .i64 x, .string nm] W fun e w' => e = .returned (.tuple #[dp, .int .i64 9]) ∧ Below W.heap.size W w') := fun W hW => dropAttr_no (fun W' n hW' => h W' n (hW.trans (hW'.mono hW.size))) x nm
  have HA : Hid (∀ o, Below w.heap.size w (w.alloc o)) := fun o => (Below.refl _ w).alloc (Nat.le_refl _) o
  clear h
  go_enter Try.func13, Try.ntmps13
  go_wp2_with (go_at_call 34; fail)
  refine (hf.out _ (HA.out _)).mono ?_
  rintro e w1 ⟨rfl, hb⟩
  have HB : Hid (Below w.heap.size w w1) := (HA.out _).trans (hb.mono (HA.out _).size)
  clear hf hb
  go_wp2
  refine bodyPost_ret (v := .tuple #[dp, .int .i64 0, .int .i64 9]) (by simp [results, Try.results13, go_sem]) rfl ⟨rfl, HB.out⟩

end Go.Proofs.Ytecbgleidohjpaa.N
