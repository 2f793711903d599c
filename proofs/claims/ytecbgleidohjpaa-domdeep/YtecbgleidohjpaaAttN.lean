/- Attr of a Doc that no call made. -/
import Derived.Test.YtecbgleidohjpaaMadN
import Derived.Laws.EntriesVeiled
namespace Go.Proofs.Ytecbgleidohjpaa.N
open Go.RowKit
set_option maxRecDepth 100000

set_option maxHeartbeats 400000 in
theorem search_none (w : World) (fv : Value) (nm : ByteArray) : Calls Try.prog 70 #[.slice none 0 0, .string nm, fv] w fun e w' => e = .returned (.tuple #[.int .i64 0, .bool false]) ∧ w' = w := by
  go_enter Try.func70, Try.ntmps70
  go_wp2
  go_loopw [9, 10] (fun a9 a10 wr => a9 = .int .i64 0 ∧ a10 = .int .i64 0 ∧ wr = w) (fun _ _ _ => 0)
  case atStart => exact ⟨rfl, rfl, rfl⟩
  case round =>
    obtain ⟨rfl, rfl, hw⟩ := hrel
    have hw2 := hw.symm
    subst hw2
    clear hw
    go_wp2
    refine bodyPost_ret (v := .tuple #[.int .i64 0, .bool false]) (by simp [results, Try.results70, go_sem]) rfl ⟨rfl, rfl⟩
set_option maxHeartbeats 400000 in
theorem place_none (w : World) (nm : ByteArray) : Calls Try.prog 42 #[.slice none 0 0, .string nm] w fun e w' => e = .returned (.tuple #[.int .i64 0, .bool false]) ∧ w' = w := by
  have hf := fun fv => search_none w fv nm
  go_enter Try.func42, Try.ntmps42
  go_wp2_with (go_at_call 70; fail)
  refine (hf _).mono ?_
  rintro e w1 ⟨rfl, rfl⟩
  go_wp2
  refine bodyPost_ret (v := .tuple #[.int .i64 0, .bool false]) (by simp [results, Try.results42, go_sem]) rfl ⟨rfl, rfl⟩
set_option maxHeartbeats 400000 in
theorem attr_no {w : World} {dp : Value} (h : NoDoc w dp) (n : Int) (nm : ByteArray) : Calls Try.prog 16 #[dp, .int .i64 n, .string nm] w fun e w' => e = .returned (.tuple #[.string ⟨#[]⟩, .bool false]) ∧ Below w.heap.size w w' := by
  have hf := h w n (Below.refl _ w)
  have hp := fun W => place_none W nm
  clear h
  go_enter Try.func16, Try.ntmps16
  go_wp2_with (go_at_call 41; fail)
  refine hf.mono ?_
  rintro e w1 ⟨rfl, hb⟩
  rw [zeroN_val]
  have HB := hid_mk hb
  clear hf hb
  go_wp2_with (go_at_call 42; fail)
  refine (hp _).mono ?_
  rintro e w2 ⟨rfl, rfl⟩
  go_wp2
  refine bodyPost_ret (v := .tuple #[.string ⟨#[]⟩, .bool false]) (by simp [results, Try.results16, go_sem]) rfl ⟨rfl, HB.out.alloc HB.out.size _⟩

end Go.Proofs.Ytecbgleidohjpaa.N
