/- dom.Doc: what lies in memory; find, Len and Next. -/
import Derived.Test.YtdiljkmlneeboaaGreatOpsN
namespace Go.Proofs.YtdiljkmlneeboaaGreat.N
open Go.RowKit
set_option maxRecDepth 100000

def zeroN : Value := .agg #[.int .i64 0, .string ⟨#[]⟩, .int .i64 0, .slice none 0 0, .slice none 0 0]
/-- The pointer holds a Doc over the trie, with its next number. -/
def DocAt (w : World) (dp : Value) (t : T) (nx : Int) : Prop :=
  ∃ b a, dp = .pointer (some ⟨b, 0, none⟩) ∧ w.heap[b]? = some (.cells #[.pointer (some a), .int .i64 nx] 88 (0, 0)) ∧ At w (.pointer (some a)) t
theorem DocAt.keep {w w' : World} {dp : Value} {t : T} {nx : Int} (h : DocAt w dp t nx) (hb : Below w.heap.size w w') : DocAt w' dp t nx := by
  obtain ⟨b, a, e, h1, h2⟩ := h
  exact ⟨b, a, e, (hb.block _ (Array.getElem?_eq_some_iff.1 h1).1).trans h1, TrAt.keep h2 hb⟩
theorem getV_N5 {w : World} {tp : Value} {t : T} (h : At w tp t) {n : Int} {v : Value} (hg : getV t n = some v) : ∃ s : N5, v = s.val := by
  obtain ⟨b, hb⟩ := getV_some h.wf hg
  have hh := h.held.got n
  rw [hb] at hh
  obtain ⟨s, e, _⟩ := hh
  exact ⟨s, e⟩
theorem zero_cells5 {w : World} {R : Nat} (h : w.heap[R]? = some (.cells #[.int .i64 0, .string ⟨#[]⟩, .int .i64 0, .slice none 0 0, .slice none 0 0] 76 (0, 0))) : (w.cell? ⟨R, 0, none⟩ = some (.int .i64 0) ∧ w.cell? ⟨R, 1, none⟩ = some (.string ⟨#[]⟩) ∧ w.cell? ⟨R, 2, none⟩ = some (.int .i64 0) ∧ w.cell? ⟨R, 3, none⟩ = some (.slice none 0 0) ∧ w.cell? ⟨R, 4, none⟩ = some (.slice none 0 0)) ∧ w.frozen? ⟨R, 0, none⟩ = false ∧ w.frozen? ⟨R, 1, none⟩ = false ∧ w.frozen? ⟨R, 2, none⟩ = false ∧ w.frozen? ⟨R, 3, none⟩ = false ∧ w.frozen? ⟨R, 4, none⟩ = false := by
  refine ⟨⟨?_, ?_, ?_, ?_, ?_⟩, ?_, ?_, ?_, ?_, ?_⟩ <;> simp [World.cell?, World.frozen?, h]
set_option maxHeartbeats 400000 in
theorem find_nil (w : World) (n : Int) : Calls Tryz.prog 54 #[.pointer none, .int .i64 n] w fun e w' => e = .returned (.tuple #[zeroN, .int .i64 9]) ∧ Below w.heap.size w w' := by
  go_enter Tryz.func54, Tryz.ntmps54
  go_wp2
  refine bodyPost_ret (v := .tuple #[zeroN, .int .i64 9]) (by simp [results, Tryz.results54, go_sem, zeroN]) rfl ⟨rfl, (Below.refl _ w).alloc (Nat.le_refl _) _⟩
set_option maxHeartbeats 400000 in
theorem find_some {w : World} {dp : Value} {t : T} {nx : Int} (h : DocAt w dp t nx) (n : Int) (s : N5) (hg : getV t n = some s.val) : Calls Tryz.prog 54 #[dp, .int .i64 n] w fun e w' => e = .returned (.tuple #[s.val, .int .i64 0]) ∧ Below w.heap.size w w' := by
  obtain ⟨b, a, rfl, h1, h2⟩ := h
  have hal : Below w.heap.size w (w.alloc (.cells #[.int .i64 0, .string ⟨#[]⟩, .int .i64 0, .slice none 0 0, .slice none 0 0] 76)) := (Below.refl _ w).alloc (Nat.le_refl _) _
  have hx := heap_alloc_last w (.cells #[.int .i64 0, .string ⟨#[]⟩, .int .i64 0, .slice none 0 0, .slice none 0 0] 76)
  have hs : (w.alloc (.cells #[.int .i64 0, .string ⟨#[]⟩, .int .i64 0, .slice none 0 0, .slice none 0 0] 76)).heap.size = w.heap.size + 1 := by simp
  have hget := get_c (TrAt.keep h2 hal) n
  rw [hg] at hget
  have hb := (Array.getElem?_eq_some_iff.1 h1).1
  have c0 : w.cell? ⟨b, 0, none⟩ = some (.pointer (some a)) := by simp [World.cell?, h1]
  have c1 : (w.alloc (.cells #[.int .i64 0, .string ⟨#[]⟩, .int .i64 0, .slice none 0 0, .slice none 0 0] 76)).cell? ⟨b, 0, none⟩ = some (.pointer (some a)) := (hal.cell (p := ⟨b, 0, none⟩) hb).trans c0
  have HX := hid_mk hx
  have HAL := hid_mk hal
  clear h1 h2 hg hx hal
  go_enter Tryz.func54, Tryz.ntmps54
  go_wp2_with (go_at_call 83; fail)
  generalize w.alloc (.cells #[.int .i64 0, .string ⟨#[]⟩, .int .i64 0, .slice none 0 0, .slice none 0 0] 76) = WR at *
  refine hget.mono ?_
  rintro e w1 ⟨rfl, hb1⟩
  have hR := (hb1.block w.heap.size (by omega)).trans HX.out
  obtain ⟨⟨k0, k1, k2, k3, k4⟩, f0, f1, f2, f3, f4⟩ := zero_cells5 hR
  have hRl : w.heap.size < w1.heap.size := (Array.getElem?_eq_some_iff.1 hR).1
  have HB1 : Hid (Below w.heap.size w w1) := HAL.out.trans (hb1.mono HAL.out.size)
  clear hR hb1 hget hs c0 c1 HX HAL
  rw [show ((some s.val).getD (.agg #[.int .i64 0, .string ⟨#[]⟩, .int .i64 0, .slice none 0 0, .slice none 0 0])) = .agg #[.int .i64 s.id, .string s.tag, .int .i64 s.par, .slice s.ka s.kn s.kc, .slice s.aa s.an s.ac] from rfl, show (some s.val).isSome = true from rfl]
  go_wp2
  refine bodyPost_ret (v := .tuple #[s.val, .int .i64 0]) (by simp [results, Tryz.results54, go_sem, k0, k1, k2, k3, k4, hRl, N5.val]) rfl ⟨rfl, (below_five HB1.out _ _ _ _ _).alloc (by simpa using HB1.out.size) _⟩
set_option maxHeartbeats 400000 in
theorem find_none {w : World} {dp : Value} {t : T} {nx : Int} (h : DocAt w dp t nx) (n : Int) (hg : getV t n = none) : Calls Tryz.prog 54 #[dp, .int .i64 n] w fun e w' => e = .returned (.tuple #[zeroN, .int .i64 1]) ∧ Below w.heap.size w w' := by
  obtain ⟨b, a, rfl, h1, h2⟩ := h
  have hal : Below w.heap.size w (w.alloc (.cells #[.int .i64 0, .string ⟨#[]⟩, .int .i64 0, .slice none 0 0, .slice none 0 0] 76)) := (Below.refl _ w).alloc (Nat.le_refl _) _
  have hx := heap_alloc_last w (.cells #[.int .i64 0, .string ⟨#[]⟩, .int .i64 0, .slice none 0 0, .slice none 0 0] 76)
  have hs : (w.alloc (.cells #[.int .i64 0, .string ⟨#[]⟩, .int .i64 0, .slice none 0 0, .slice none 0 0] 76)).heap.size = w.heap.size + 1 := by simp
  have hget := get_c (TrAt.keep h2 hal) n
  rw [hg] at hget
  have hb := (Array.getElem?_eq_some_iff.1 h1).1
  have c0 : w.cell? ⟨b, 0, none⟩ = some (.pointer (some a)) := by simp [World.cell?, h1]
  have c1 : (w.alloc (.cells #[.int .i64 0, .string ⟨#[]⟩, .int .i64 0, .slice none 0 0, .slice none 0 0] 76)).cell? ⟨b, 0, none⟩ = some (.pointer (some a)) := (hal.cell (p := ⟨b, 0, none⟩) hb).trans c0
  have HX := hid_mk hx
  have HAL := hid_mk hal
  clear h1 h2 hg hx hal
  go_enter Tryz.func54, Tryz.ntmps54
  go_wp2_with (go_at_call 83; fail)
  generalize w.alloc (.cells #[.int .i64 0, .string ⟨#[]⟩, .int .i64 0, .slice none 0 0, .slice none 0 0] 76) = WR at *
  refine hget.mono ?_
  rintro e w1 ⟨rfl, hb1⟩
  have hR := (hb1.block w.heap.size (by omega)).trans HX.out
  obtain ⟨⟨k0, k1, k2, k3, k4⟩, f0, f1, f2, f3, f4⟩ := zero_cells5 hR
  have hRl : w.heap.size < w1.heap.size := (Array.getElem?_eq_some_iff.1 hR).1
  have HB1 : Hid (Below w.heap.size w w1) := HAL.out.trans (hb1.mono HAL.out.size)
  clear hR hb1 hget hs c0 c1 HX HAL
  rw [show (none : Option Value).getD (.agg #[.int .i64 0, .string ⟨#[]⟩, .int .i64 0, .slice none 0 0, .slice none 0 0]) = .agg #[.int .i64 0, .string ⟨#[]⟩, .int .i64 0, .slice none 0 0, .slice none 0 0] from rfl, show (none : Option Value).isSome = false from rfl]
  go_wp2
  refine bodyPost_ret (v := .tuple #[zeroN, .int .i64 1]) (by simp [results, Tryz.results54, go_sem, k0, k1, k2, k3, k4, hRl, zeroN]) rfl ⟨rfl, (below_five HB1.out _ _ _ _ _).alloc (by simpa using HB1.out.size) _⟩

end Go.Proofs.YtdiljkmlneeboaaGreat.N
