/- A Doc that no call made: nil, and the zero one. -/
import Derived.Test.YtecbgleidohjpaaNodN
namespace Go.Proofs.Ytecbgleidohjpaa.N
open Go.RowKit
set_option maxRecDepth 100000

def ZeroAt (w : World) (dp : Value) : Prop := ∃ b, dp = .pointer (some ⟨b, 0, none⟩) ∧ w.heap[b]? = some (.cells #[.pointer none, .int .i64 0] 64 (0, 0))
theorem ZeroAt.keep {w w' : World} {dp : Value} (h : ZeroAt w dp) (hb : Below w.heap.size w w') : ZeroAt w' dp := by
  obtain ⟨b, e, h1⟩ := h
  exact ⟨b, e, (hb.block _ (Array.getElem?_eq_some_iff.1 h1).1).trans h1⟩
set_option maxHeartbeats 400000 in
theorem next_zero {w : World} {dp : Value} (h : ZeroAt w dp) : Calls Try.prog 21 #[dp] w fun e w' => e = .returned (.int .i64 0) ∧ w' = w := by
  obtain ⟨b, rfl, h1⟩ := h
  have c1 : w.cell? ⟨b, 1, none⟩ = some (.int .i64 0) := by simp [World.cell?, h1]
  clear h1
  go_enter Try.func21, Try.ntmps21
  go_wp2
  go_ret
  exact ⟨rfl, rfl⟩
set_option maxHeartbeats 400000 in
theorem next_nil (w : World) : Calls Try.prog 21 #[.pointer none] w fun e w' => e = .returned (.int .i64 0) ∧ w' = w := by
  go_enter Try.func21, Try.ntmps21
  go_wp2
  go_ret
  exact ⟨rfl, rfl⟩
set_option maxHeartbeats 400000 in
theorem tlen_nil (w : World) : Calls Try.prog 49 #[.pointer none] w fun e w' => e = .returned (.int .i64 0) ∧ w' = w := by
  go_enter Try.func49, Try.ntmps49
  go_wp2
  go_ret
  exact ⟨rfl, rfl⟩
set_option maxHeartbeats 400000 in
theorem dlen_zero {w : World} {dp : Value} (h : ZeroAt w dp) : Calls Try.prog 23 #[dp] w fun e w' => e = .returned (.int .i64 0) ∧ w' = w := by
  obtain ⟨b, rfl, h1⟩ := h
  have c0 : w.cell? ⟨b, 0, none⟩ = some (.pointer none) := by simp [World.cell?, h1]
  have hl := tlen_nil w
  clear h1
  go_enter Try.func23, Try.ntmps23
  go_wp2_with (go_at_call 49; fail)
  refine hl.mono ?_
  rintro e w' ⟨rfl, rfl⟩
  go_wp2
  go_ret
  exact ⟨rfl, rfl⟩
set_option maxHeartbeats 400000 in
theorem dlen_nil (w : World) : Calls Try.prog 23 #[.pointer none] w fun e w' => e = .returned (.int .i64 0) ∧ w' = w := by
  go_enter Try.func23, Try.ntmps23
  go_wp2
  go_ret
  exact ⟨rfl, rfl⟩
set_option maxHeartbeats 400000 in
theorem find_zero {w : World} {dp : Value} (h : ZeroAt w dp) (n : Int) : Calls Try.prog 41 #[dp, .int .i64 n] w fun e w' => e = .returned (.tuple #[zeroN, .int .i64 9]) ∧ Below w.heap.size w w' := by
  obtain ⟨b, rfl, h1⟩ := h
  have hb := (Array.getElem?_eq_some_iff.1 h1).1
  have c0 : w.cell? ⟨b, 0, none⟩ = some (.pointer none) := by simp [World.cell?, h1]
  have c1 : (w.alloc (.cells #[.int .i64 0, .string ⟨#[]⟩, .int .i64 0, .slice none 0 0, .slice none 0 0] 52)).cell? ⟨b, 0, none⟩ = some (.pointer none) := (((Below.refl _ w).alloc (Nat.le_refl _) (.cells #[.int .i64 0, .string ⟨#[]⟩, .int .i64 0, .slice none 0 0, .slice none 0 0] 52)).cell (p := ⟨b, 0, none⟩) hb).trans c0
  clear h1
  go_enter Try.func41, Try.ntmps41
  go_wp2
  refine bodyPost_ret (v := .tuple #[zeroN, .int .i64 9]) (by simp [results, Try.results41, go_sem, zeroN]) rfl ⟨rfl, (Below.refl _ w).alloc (Nat.le_refl _) _⟩
theorem node_zero {w : World} {dp : Value} (h : ZeroAt w dp) (n : Int) :
    Calls Try.prog 22 #[dp, .int .i64 n] w fun e w' => ∃ a' c' b' d', e = .returned (.tuple #[N5.val ⟨0, ⟨#[]⟩, 0, a', 0, c', b', 0, d'⟩, .bool false]) ∧ Below w.heap.size w w' := by
  refine (node_9 n ⟨0, ⟨#[]⟩, 0, none, 0, 0, none, 0, 0⟩ (fun _ hW => find_zero (h.keep hW) n) (RowAt.nil w 1) (RowAt.nil w 2) (by decide) (by decide)).mono ?_
  rintro e w' ⟨a', c', b', d', rfl, _, _, hB⟩
  exact ⟨a', c', b', d', rfl, hB⟩

end Go.Proofs.Ytecbgleidohjpaa.N
