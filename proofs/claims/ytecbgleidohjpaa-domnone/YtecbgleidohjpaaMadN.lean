/- What a Doc that no call made answers. -/
import Derived.Test.YtecbgleidohjpaaZerN
namespace Go.Proofs.Ytecbgleidohjpaa.N
open Go.RowKit
set_option maxRecDepth 100000

/-- find tells that it was never made. -/
def NoDoc (w : World) (dp : Value) : Prop := ∀ W n, Below w.heap.size w W → Calls Try.prog 41 #[dp, .int .i64 n] W fun e w' => e = .returned (.tuple #[zeroN, .int .i64 9]) ∧ Below W.heap.size W w'
theorem noDoc_nil (w : World) : NoDoc w (.pointer none) := fun W n _ => find_nil W n
theorem noDoc_zero {w : World} {dp : Value} (h : ZeroAt w dp) : NoDoc w dp := fun _ n hW => find_zero (h.keep hW) n
theorem zeroN_val : zeroN = .agg #[.int .i64 0, .string ⟨#[]⟩, .int .i64 0, .slice none 0 0, .slice none 0 0] := rfl
set_option maxHeartbeats 400000 in
theorem mayInsert_no {w : World} {dp : Value} (h : NoDoc w dp) (p i : Int) (tag : ByteArray) : Calls Try.prog 50 #[dp, .int .i64 p, .int .i64 i, .string tag] w fun e w' => e = .returned (.int .i64 9) ∧ Below w.heap.size w w' := by
  have hf := h w p (Below.refl _ w)
  clear h
  go_enter Try.func50, Try.ntmps50
  go_wp2_with (go_at_call 41; fail)
  refine hf.mono ?_
  rintro e w1 ⟨rfl, hb⟩
  rw [zeroN_val]
  have HB := hid_mk hb
  clear hf hb
  go_wp2
  go_ret
  exact ⟨rfl, HB.out.alloc HB.out.size _⟩
set_option maxHeartbeats 400000 in
theorem mayMove_no {w : World} {dp : Value} (h : NoDoc w dp) (n p i : Int) : Calls Try.prog 52 #[dp, .int .i64 n, .int .i64 p, .int .i64 i] w fun e w' => e = .returned (.int .i64 9) ∧ Below w.heap.size w w' := by
  have hf := h w n (Below.refl _ w)
  clear h
  go_enter Try.func52, Try.ntmps52
  go_wp2_with (go_at_call 41; fail)
  refine hf.mono ?_
  rintro e w1 ⟨rfl, hb⟩
  rw [zeroN_val]
  have HB := hid_mk hb
  clear hf hb
  go_wp2
  go_ret
  exact ⟨rfl, HB.out.alloc HB.out.size _⟩
set_option maxHeartbeats 400000 in
theorem insert_no {w : World} {dp : Value} (h : NoDoc w dp) (p i : Int) (tag : ByteArray) : Calls Try.prog 24 #[dp, .int .i64 p, .int .i64 i, .string tag] w fun e w' => e = .returned (.tuple #[dp, .int .i64 0, .int .i64 9]) ∧ Below w.heap.size w w' := by
  have hf := mayInsert_no h p i tag
  clear h
  go_enter Try.func24, Try.ntmps24
  go_wp2_with (go_at_call 50; fail)
  refine hf.mono ?_
  rintro e w1 ⟨rfl, hb⟩
  have HB := hid_mk hb
  clear hf hb
  go_wp2
  refine bodyPost_ret (v := .tuple #[dp, .int .i64 0, .int .i64 9]) (by simp [results, Try.results24, go_sem]) rfl ⟨rfl, HB.out⟩
set_option maxHeartbeats 400000 in
theorem move_no {w : World} {dp : Value} (h : NoDoc w dp) (n p i : Int) : Calls Try.prog 25 #[dp, .int .i64 n, .int .i64 p, .int .i64 i] w fun e w' => e = .returned (.tuple #[dp, .int .i64 9]) ∧ Below w.heap.size w w' := by
  have hf := mayMove_no h n p i
  clear h
  go_enter Try.func25, Try.ntmps25
  go_wp2_with (go_at_call 52; fail)
  refine hf.mono ?_
  rintro e w1 ⟨rfl, hb⟩
  have HB := hid_mk hb
  clear hf hb
  go_wp2
  refine bodyPost_ret (v := .tuple #[dp, .int .i64 9]) (by simp [results, Try.results25, go_sem]) rfl ⟨rfl, HB.out⟩
set_option maxHeartbeats 400000 in
theorem remove_no {w : World} {dp : Value} (h : NoDoc w dp) (n : Int) : Calls Try.prog 32 #[dp, .int .i64 n] w fun e w' => e = .returned (.tuple #[dp, .int .i64 9]) ∧ Below w.heap.size w w' := by
  have hf := h w n (Below.refl _ w)
  clear h
  go_enter Try.func32, Try.ntmps32
  go_wp2_with (go_at_call 41; fail)
  refine hf.mono ?_
  rintro e w1 ⟨rfl, hb⟩
  rw [zeroN_val]
  have HB := hid_mk hb
  clear hf hb
  go_wp2
  refine bodyPost_ret (v := .tuple #[dp, .int .i64 9]) (by simp [results, Try.results32, go_sem]) rfl ⟨rfl, HB.out.alloc HB.out.size _⟩
set_option maxHeartbeats 400000 in
theorem setAttr_no {w : World} {dp : Value} (h : NoDoc w dp) (n : Int) (nm v : ByteArray) : Calls Try.prog 33 #[dp, .int .i64 n, .string nm, .string v] w fun e w' => e = .returned (.tuple #[dp, .int .i64 9]) ∧ Below w.heap.size w w' := by
  have hf := h w n (Below.refl _ w)
  clear h
  go_enter Try.func33, Try.ntmps33
  go_wp2_with (go_at_call 41; fail)
  refine hf.mono ?_
  rintro e w1 ⟨rfl, hb⟩
  rw [zeroN_val]
  have HB := hid_mk hb
  clear hf hb
  go_wp2
  refine bodyPost_ret (v := .tuple #[dp, .int .i64 9]) (by simp [results, Try.results33, go_sem]) rfl ⟨rfl, HB.out.alloc HB.out.size _⟩
set_option maxHeartbeats 400000 in
theorem dropAttr_no {w : World} {dp : Value} (h : NoDoc w dp) (n : Int) (nm : ByteArray) : Calls Try.prog 34 #[dp, .int .i64 n, .string nm] w fun e w' => e = .returned (.tuple #[dp, .int .i64 9]) ∧ Below w.heap.size w w' := by
  have hf := h w n (Below.refl _ w)
  clear h
  go_enter Try.func34, Try.ntmps34
  go_wp2_with (go_at_call 41; fail)
  refine hf.mono ?_
  rintro e w1 ⟨rfl, hb⟩
  rw [zeroN_val]
  have HB := hid_mk hb
  clear hf hb
  go_wp2
  refine bodyPost_ret (v := .tuple #[dp, .int .i64 9]) (by simp [results, Try.results34, go_sem]) rfl ⟨rfl, HB.out.alloc HB.out.size _⟩

end Go.Proofs.Ytecbgleidohjpaa.N
