/- Epochs in memory: thirteen cells in one block; atomic numbers. -/
import Derived.Test.YtlnpiadjnjdfiaaEBa
import Derived.Test.YtlnpiadjnjdfiaaELk
import Derived.Conc.MuLone
namespace Go.Proofs.Ytlnpiadjnjdfiaa.E
open Go.RowKit
set_option maxRecDepth 100000

/-- The cells of the block. -/
def cellsX (n : Nat) (now : Int) (S : List Int) (m : Int) (v : Value) : List Value := [.int .i64 (n : Int), .int .i64 now] ++ (S.map fun s => Value.int .i64 s) ++ [.int .i32 m, .int .u32 0, v]
/-- Epochs: block b; n slots, the epoch, what the eight cells hold, the lock's state, the pile's slice. -/
structure Bx (w : World) (b n : Nat) (now : Int) (S : List Int) (m : Int) (v : Value) : Prop where
  blk : ∃ cs : Array Value, w.heap[b]? = some (.cells cs 69 (0, 0)) ∧ cs.toList = cellsX n now S m v
  len : S.length = 8
  lt : b < w.heap.size
theorem Bx.cell {w : World} {b n : Nat} {now : Int} {S : List Int} {m : Int} {v : Value} (h : Bx w b n now S m v) (o : Nat) : w.cell? ⟨b, o, none⟩ = (cellsX n now S m v)[o]? := by
  obtain ⟨cs, h1, h2⟩ := h.blk
  rw [← h2]
  simp [World.cell?, h1]
theorem Bx.unfrozen {w : World} {b n : Nat} {now : Int} {S : List Int} {m : Int} {v : Value} (h : Bx w b n now S m v) (o : Nat) : w.frozen? ⟨b, o, none⟩ = false := by
  obtain ⟨cs, h1, h2⟩ := h.blk
  simp [World.frozen?, h1]
theorem Bx.pins {w : World} {b n : Nat} {now : Int} {S : List Int} {m : Int} {v : Value} (h : Bx w b n now S m v) : w.cell? ⟨b, 0, none⟩ = some (.int .i64 (n : Int)) := by
  rw [h.cell]; rfl
theorem Bx.now {w : World} {b n : Nat} {now : Int} {S : List Int} {m : Int} {v : Value} (h : Bx w b n now S m v) : w.cell? ⟨b, 1, none⟩ = some (.int .i64 now) := by
  rw [h.cell]; rfl
theorem Bx.slot {w : World} {b n : Nat} {now : Int} {S : List Int} {m : Int} {v : Value} (h : Bx w b n now S m v) {i : Nat} {s : Int} (hs : S[i]? = some s) : w.cell? ⟨b, 2 + i, none⟩ = some (.int .i64 s) := by
  have hi := (List.getElem?_eq_some_iff.1 hs).1
  rw [h.cell]
  unfold cellsX
  rw [List.getElem?_append_left (by simp; omega), List.getElem?_append_right (by simp)]
  simp [hs]
theorem cellsX_tail (n : Nat) (now : Int) (S : List Int) (m : Int) (v : Value) (h : S.length = 8) : (cellsX n now S m v)[10]? = some (.int .i32 m) ∧ (cellsX n now S m v)[12]? = some v := by
  unfold cellsX
  constructor <;> (rw [List.getElem?_append_right (by simp; omega)]; simp [h])
theorem Bx.lock {w : World} {b n : Nat} {now : Int} {S : List Int} {m : Int} {v : Value} (h : Bx w b n now S m v) : w.cell? ⟨b, 10, none⟩ = some (.int .i32 m) := by
  rw [h.cell]; exact (cellsX_tail n now S m v h.len).1
theorem Bx.waits {w : World} {b n : Nat} {now : Int} {S : List Int} {m : Int} {v : Value} (h : Bx w b n now S m v) : w.cell? ⟨b, 12, none⟩ = some v := by
  rw [h.cell]; exact (cellsX_tail n now S m v h.len).2
theorem Bx.keep {w w' : World} {b n : Nat} {now : Int} {S : List Int} {m : Int} {v : Value} (h : Bx w b n now S m v) (hb : w'.heap[b]? = w.heap[b]?) : Bx w' b n now S m v := by
  obtain ⟨cs, h1, h2⟩ := h.blk
  have h3 := hb.trans h1
  exact ⟨⟨cs, h3, h2⟩, h.len, (Array.getElem?_eq_some_iff.1 h3).1⟩
/-- One cell is written. -/
theorem Bx.put {w : World} {b n n' : Nat} {now now' : Int} {S S' : List Int} {m m' : Int} {v v' : Value} (h : Bx w b n now S m v) (o : Nat) (u : Value) (hl : S'.length = 8) (e : (cellsX n now S m v).set o u = cellsX n' now' S' m' v') : Bx (w.setCell ⟨b, o, none⟩ u) b n' now' S' m' v' := by
  obtain ⟨cs, h1, h2⟩ := h.blk
  refine ⟨⟨cs.setIfInBounds o u, heap_setCell_same w b o cs 69 u h1, ?_⟩, hl, by simpa [World.setCell] using h.lt⟩
  rw [Array.toList_setIfInBounds, h2, e]
theorem Bx.setNow {w : World} {b n : Nat} {now : Int} {S : List Int} {m : Int} {v : Value} (h : Bx w b n now S m v) (x : Int) : Bx (w.setCell ⟨b, 1, none⟩ (.int .i64 x)) b n x S m v := h.put 1 _ h.len rfl
theorem Bx.setLock {w : World} {b n : Nat} {now : Int} {S : List Int} {m : Int} {v : Value} (h : Bx w b n now S m v) (x : Int) : Bx (w.setCell ⟨b, 10, none⟩ (.int .i32 x)) b n now S x v := h.put 10 _ h.len (by
  have hl := h.len
  unfold cellsX
  rw [List.set_append_right _ _ (by simp; omega)]
  simp [hl])
theorem Bx.setWaits {w : World} {b n : Nat} {now : Int} {S : List Int} {m : Int} {v : Value} (h : Bx w b n now S m v) (x : Value) : Bx (w.setCell ⟨b, 12, none⟩ x) b n now S m x := h.put 12 _ h.len (by
  have hl := h.len
  unfold cellsX
  rw [List.set_append_right _ _ (by simp; omega)]
  simp [hl])
theorem Bx.setSlot {w : World} {b n : Nat} {now : Int} {S : List Int} {m : Int} {v : Value} (h : Bx w b n now S m v) {i : Nat} (hi : i < 8) (x : Int) : Bx (w.setCell ⟨b, 2 + i, none⟩ (.int .i64 x)) b n now (S.set i x) m v := h.put (2 + i) _ (by rw [List.length_set]; exact h.len) (by
  have hl := h.len
  unfold cellsX
  rw [List.set_append_left _ _ (by simp; omega), List.set_append_right _ _ (by simp), List.map_set]
  simp)

/-- Atomic numbers. -/
theorem a_load {a : Addr} {x : Int} {w : World} (hc : w.cell? a = some (.int .i64 x)) : (callFunc 49 #[.pointer (some a)]).run Try.prog w = .ok (.value (.int .i64 x)) w :=
  run_call_load Try.func49 (by kernel_rfl) (by kernel_rfl) (by kernel_rfl) .i64 (by kernel_rfl) hc
theorem a_store {a : Addr} {y : Int} {u : Value} {w : World} (hc : w.cell? a = some u) (hz : w.frozen? a = false) : (callFunc 44 #[.pointer (some a), .int .i64 y]).run Try.prog w = .ok (.value (.tuple #[])) (w.setCell a (.int .i64 y)) :=
  run_call_store Try.func44 (by kernel_rfl) (by kernel_rfl) (by kernel_rfl) (by kernel_rfl) hc hz
theorem a_add {a : Addr} {x y : Int} {w : World} (hc : w.cell? a = some (.int .i64 x)) (hz : w.frozen? a = false) : (callFunc 47 #[.pointer (some a), .int .i64 y]).run Try.prog w = .ok (.value (.int .i64 (wrap64 (x + y)))) (w.setCell a (.int .i64 (wrap64 (x + y)))) :=
  run_call_add Try.func47 (by kernel_rfl) (by kernel_rfl) (by kernel_rfl) .i64 (by kernel_rfl) hc hz (by simp [go_sem, wrap64, IntKind.wrap_i64])
theorem a_cas_hit {a : Addr} {x y : Int} {w : World} (hc : w.cell? a = some (.int .i64 x)) (hz : w.frozen? a = false) : (callFunc 48 #[.pointer (some a), .int .i64 x, .int .i64 y]).run Try.prog w = .ok (.value (.bool true)) (w.setCell a (.int .i64 y)) :=
  run_call_cas_hit Try.func48 (by kernel_rfl) (by kernel_rfl) (by kernel_rfl) .i64 (by kernel_rfl) hc hz
theorem a_cas_miss {a : Addr} {x o y : Int} {w : World} (hc : w.cell? a = some (.int .i64 x)) (hz : w.frozen? a = false) (hne : ¬ x = o) : (callFunc 48 #[.pointer (some a), .int .i64 o, .int .i64 y]).run Try.prog w = .ok (.value (.bool false)) w :=
  run_call_cas_miss Try.func48 (by kernel_rfl) (by kernel_rfl) (by kernel_rfl) .i64 (by kernel_rfl) hc hz hne
theorem a_swap {a : Addr} {x y : Int} {w : World} (hc : w.cell? a = some (.int .i64 x)) (hz : w.frozen? a = false) : (callFunc 50 #[.pointer (some a), .int .i64 y]).run Try.prog w = .ok (.value (.int .i64 x)) (w.setCell a (.int .i64 y)) := by
  rw [run_callFunc_extern (e := Extern.Atomic.swapT (.int .i64)) Try.func50 (by kernel_rfl) (by kernel_rfl) (by kernel_rfl) (by kernel_rfl)]
  change (Sem.run Try.prog (do
    let a' ← asAddr (.pointer (some a))
    let old ← Extern.Atomic.read (.int .i64) a'
    store a' (.int .i64 y) .atomic
    pure old) w).andThen _ = _
  simp [Extern.Atomic.read, asAddr, hc, hz, run_store Try.prog w a (.int .i64 y) .atomic rfl, Result.andThen]
theorem store_any {b o : Nat} {y : Int} {u : Value} {w : World} (hc : w.cell? ⟨b, o, none⟩ = some u) (hz : w.frozen? ⟨b, o, none⟩ = false) : Calls Try.prog 28 #[.pointer (some ⟨b, o, none⟩), .int .i64 y] w fun e w' => (∃ v, e = .returned v) ∧ w' = w.setCell ⟨b, o, none⟩ (.int .i64 y) := by
  have h := a_store (y := y) hc hz
  go_enter Try.func28, Try.ntmps28
  go_wp2
  go_end0
  exact ⟨⟨_, rfl⟩, rfl⟩
theorem load_any {b o : Nat} {x : Int} {w : World} (hc : w.cell? ⟨b, o, none⟩ = some (.int .i64 x)) : Calls Try.prog 34 #[.pointer (some ⟨b, o, none⟩)] w fun e w' => e = .returned (.int .i64 x) ∧ w' = w := by
  have h := a_load hc
  go_enter Try.func34, Try.ntmps34
  go_wp2
  go_ret
  exact ⟨rfl, rfl⟩
theorem add_any {b o : Nat} {x y s : Int} {w : World} (hc : w.cell? ⟨b, o, none⟩ = some (.int .i64 x)) (hz : w.frozen? ⟨b, o, none⟩ = false) (hs : s = wrap64 (x + y)) : Calls Try.prog 32 #[.pointer (some ⟨b, o, none⟩), .int .i64 y] w fun e w' => e = .returned (.int .i64 s) ∧ w' = w.setCell ⟨b, o, none⟩ (.int .i64 s) := by
  have h := a_add (y := y) hc hz
  rw [← hs] at h
  clear hs
  go_enter Try.func32, Try.ntmps32
  go_wp2
  go_ret
  exact ⟨rfl, rfl⟩
theorem cas_hit {b o : Nat} {y : Int} {w : World} (hc : w.cell? ⟨b, o, none⟩ = some (.int .i64 0)) (hz : w.frozen? ⟨b, o, none⟩ = false) : Calls Try.prog 33 #[.pointer (some ⟨b, o, none⟩), .int .i64 0, .int .i64 y] w fun e w' => e = .returned (.bool true) ∧ w' = w.setCell ⟨b, o, none⟩ (.int .i64 y) := by
  have h := a_cas_hit (y := y) hc hz
  go_enter Try.func33, Try.ntmps33
  go_wp2
  go_ret
  exact ⟨rfl, rfl⟩
theorem cas_miss {b o : Nat} {x y : Int} {w : World} (hc : w.cell? ⟨b, o, none⟩ = some (.int .i64 x)) (hz : w.frozen? ⟨b, o, none⟩ = false) (hne : ¬ x = 0) : Calls Try.prog 33 #[.pointer (some ⟨b, o, none⟩), .int .i64 0, .int .i64 y] w fun e w' => e = .returned (.bool false) ∧ w' = w := by
  have h := a_cas_miss (y := y) hc hz hne
  go_enter Try.func33, Try.ntmps33
  go_wp2
  go_ret
  exact ⟨rfl, rfl⟩
theorem swap_any {b o : Nat} {x y : Int} {w : World} (hc : w.cell? ⟨b, o, none⟩ = some (.int .i64 x)) (hz : w.frozen? ⟨b, o, none⟩ = false) : Calls Try.prog 37 #[.pointer (some ⟨b, o, none⟩), .int .i64 y] w fun e w' => e = .returned (.int .i64 x) ∧ w' = w.setCell ⟨b, o, none⟩ (.int .i64 y) := by
  have h := a_swap (y := y) hc hz
  go_enter Try.func37, Try.ntmps37
  go_wp2
  go_ret
  exact ⟨rfl, rfl⟩
end Go.Proofs.Ytlnpiadjnjdfiaa.E
