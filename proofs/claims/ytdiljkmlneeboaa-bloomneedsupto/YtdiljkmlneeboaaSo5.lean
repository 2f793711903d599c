/- slices.Sort of keys: two in order, the median. -/
import Derived.Test.YtdiljkmlneeboaaSo4
namespace Go.Proofs.Ytdiljkmlneeboaa
open Go.RowKit Go.Sort
set_option maxRecDepth 100000

/-- The row, and the count of swaps in its own block. -/
structure SC (w : World) (g s : Nat) (d : Array Int) (n : Nat) (W : World) : Prop where
  row : Holds (Value.int .u32) W g 0 d
  cnt : W.heap[s]? = some (.cells #[.int .i64 (n : Int)] 3 (0, 0))
  keep : KeepX s w W
theorem SC.drew {w W : World} {g s n : Nat} {d : Array Int} (h : SC w g s d n W) (q : Nat) : SC w g s d n (W.drewN q) := ⟨h.row, h.cnt, ⟨h.keep.os, h.keep.tape, h.keep.output, h.keep.size, h.keep.block⟩⟩
theorem SC.cell {w W : World} {g s n : Nat} {d : Array Int} (h : SC w g s d n W) {j : Nat} (hj : j < d.size) : W.cell? ⟨g, j, none⟩ = some (.int .u32 d[j]!) := by
  have := (h.row j hj).1
  rwa [Nat.zero_add] at this
theorem SC.more {w W : World} {g s n : Nat} {d : Array Int} (h : SC w g s d n W) (hgs : g ≠ s) (m : Nat) : SC w g s d m (W.setCell ⟨s, 0, none⟩ (.int .i64 (m : Int))) := by
  refine ⟨fun j hj => ?_, by rw [set_at 0 _ _ h.cnt]; rfl, h.keep.trans ⟨rfl, rfl, rfl, by simp, fun k _ hk => Below.heap_setCell _ _ _ _ hk⟩⟩
  have e : (W.setCell ⟨s, 0, none⟩ (.int .i64 (m : Int))).heap[g]? = W.heap[g]? := Below.heap_setCell _ _ _ _ hgs
  refine ⟨(World.cell?_of_block e).trans (h.row j hj).1, ?_⟩
  rw [setCell_eq, frozen?_mapBlock]
  exact (h.row j hj).2

set_option maxHeartbeats 4000000 in
theorem order2_any {w W : World} {g s cap a b n : Nat} {d : Array Int} (h : SC w g s d n W) (hgs : g ≠ s) (ha : a < d.size) (hb : b < d.size) (hn : n ≤ 1000) :
    Calls Try.prog 50 #[.slice (some ⟨g, 0, none⟩) d.size cap, .int .i64 (a : Int), .int .i64 (b : Int), .pointer (some ⟨s, 0, none⟩)] W fun e w' => e = .returned (.tuple #[.int .i64 ((Sort.order2 ltInt d a b n).1 : Int), .int .i64 ((Sort.order2 ltInt d a b n).2.1 : Int)]) ∧ SC w g s d (Sort.order2 ltInt d a b n).2.2 w' := by
  have q1 := h.cell ha
  have q2 := h.cell hb
  have c0 : W.cell? ⟨s, 0, none⟩ = some (.int .i64 (n : Int)) := cellAt h.cnt 0
  have f0 : W.frozen? ⟨s, 0, none⟩ = false := by simp [World.frozen?, h.cnt]
  have HC := hid_mk h
  have HLS : Hid (∀ W, Calls Try.prog 39 #[.int .u32 d[b]!, .int .u32 d[a]!] W fun e w' => e = .returned (.bool (decide (d[b]! < d[a]!))) ∧ w' = W) := fun W => less_any _ _ W
  have HM : Hid (∀ q m, SC w g s d m ((W.drewN q).setCell ⟨s, 0, none⟩ (.int .i64 (m : Int)))) := fun q m => (h.drew q).more hgs m
  have HO : Hid (Sort.order2 ltInt d a b n = if d[b]! < d[a]! then (b, a, n + 1) else (a, b, n)) := by
    rw [Hid]
    unfold Sort.order2 ltInt
    simp
  have gd : W.drew.cell? ⟨g, b, none⟩ = some (.int .u32 d[b]!) ∧ W.drew.cell? ⟨g, a, none⟩ = some (.int .u32 d[a]!) := ⟨q2, q1⟩
  generalize Sort.order2 ltInt d a b n = O at *
  clear h
  generalize d[a]! = x at *
  generalize d[b]! = y at *
  go_enter Try.func50, Try.ntmps50
  go_upto_region 1 with (fail)
  go_region_held3 (fun w' => w'.cell? ⟨g, b, none⟩ = some (.int .u32 y) ∧ w'.cell? ⟨g, a, none⟩ = some (.int .u32 x))
    (first | with_reducible exact gd)
    (first | (go_at_call 39; with_reducible refine (HLS.out _).mono ?_; rintro e wa ⟨rfl, rfl⟩))
  by_cases hxy : y < x
  · have hd3 : decide (y < x) = true := decide_eq_true hxy
    have HR : Hid (O = (b, a, n + 1)) := by rw [Hid, HO.out, if_pos hxy]
    rw [hd3]
    clear HO hxy hd3 HLS gd
    go_wp2
    refine bodyPost_ret (v := .tuple #[.int .i64 (b : Int), .int .i64 (a : Int)]) (by simp [results, Try.results50, go_sem]) rfl ⟨by rw [HR.out], ?_⟩
    rw [HR.out]
    exact HM.out 1 (n + 1)
  · have hd3 : decide (y < x) = false := decide_eq_false hxy
    have HR : Hid (O = (a, b, n)) := by rw [Hid, HO.out, if_neg hxy]
    rw [hd3]
    clear HO hxy hd3 HLS gd
    go_wp2
    refine bodyPost_ret (v := .tuple #[.int .i64 (a : Int), .int .i64 (b : Int)]) (by simp [results, Try.results50, go_sem]) rfl ⟨by rw [HR.out], ?_⟩
    rw [HR.out]
    exact HC.out.drew 1
end Go.Proofs.Ytdiljkmlneeboaa
