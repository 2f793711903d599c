/- DomNone: the walk. -/
import Derived.Test.YtecbgleidohjpaaAcnN
import Derived.Test.YtecbgleidohjpaaLivN
namespace Go.Proofs.Ytecbgleidohjpaa.N
open Go.RowKit
set_option maxRecDepth 100000

/-- The act that came in, in its box. -/
def ActBox (w : World) (b : Nat) (k x y z : Int) (nm v : ByteArray) : Prop := w.heap[b]? = some (.cells #[.int .i64 k, .int .i64 x, .int .i64 y, .int .i64 z, .string nm, .string v] 33 (0, 0))
theorem ActBox.cells {w : World} {b : Nat} {k x y z : Int} {nm v : ByteArray} (h : ActBox w b k x y z nm v) : (w.cell? ⟨b, 0, none⟩ = some (.int .i64 k) ∧ w.cell? ⟨b, 1, none⟩ = some (.int .i64 x) ∧ w.cell? ⟨b, 2, none⟩ = some (.int .i64 y) ∧ w.cell? ⟨b, 3, none⟩ = some (.int .i64 z) ∧ w.cell? ⟨b, 4, none⟩ = some (.string nm) ∧ w.cell? ⟨b, 5, none⟩ = some (.string v)) ∧ w.frozen? ⟨b, 0, none⟩ = false ∧ b < w.heap.size := by
  have hl := (Array.getElem?_eq_some_iff.1 h).1
  unfold ActBox at h
  refine ⟨⟨?_, ?_, ?_, ?_, ?_, ?_⟩, ?_, hl⟩ <;> simp [World.cell?, World.frozen?, h]
theorem ActBox.keep {w w' : World} {b : Nat} {k x y z : Int} {nm v : ByteArray} (h : ActBox w b k x y z nm v) (hb : Below w.heap.size w w') : ActBox w' b k x y z nm v := (hb.block _ (Array.getElem?_eq_some_iff.1 h).1).trans h
theorem ZeroAt.set {w : World} {dp : Value} {b : Nat} {k x y z : Int} {nm v : ByteArray} (h : ZeroAt w dp) (hb : ActBox w b k x y z nm v) (u : Value) : ZeroAt (w.setCell ⟨b, 0, none⟩ u) dp := by
  obtain ⟨c, e, h1⟩ := h
  refine ⟨c, e, (Below.heap_setCell w ⟨b, 0, none⟩ u c (fun hc => ?_)).trans h1⟩
  dsimp only at hc
  unfold ActBox at hb
  rw [hc, hb] at h1
  cases h1
theorem idx0 (x y : Option Addr) (w : World) : (Instr.index 65 (.agg #[.pointer x, .pointer y]) (.int .i64 0)).run Try.prog w = .ok (.pointer x) w := by
  have z := Try.sizeOf25
  have a := Try.isAgg25
  simp [Instr.index, part, go_sem, run_underlying Try.underlying65, z, a]
theorem idx1 (x y : Option Addr) (w : World) : (Instr.index 65 (.agg #[.pointer x, .pointer y]) (.int .i64 1)).run Try.prog w = .ok (.pointer y) w := by
  have z := Try.sizeOf25
  have a := Try.isAgg25
  simp [Instr.index, part, go_sem, run_underlying Try.underlying65, z, a]
theorem neq_same (w : World) (a : Addr) : (binOp .neq 25 (.pointer (some a)) (.pointer (some a))).run Try.prog w = .ok (.bool false) w := by
  have hs : (Try.prog.info? 64).map (·.size) = some 2 := by kernel_rfl
  cases hj : Try.prog.info? 64 with
  | none => rw [hj] at hs; cases hs
  | some j =>
    have h : ∀ d : Nat, (Op.equalIn (d + 1) 25 (.pointer (some a)) (.pointer (some a))).run Try.prog w = .ok true w := fun d => by
      simp [Op.equalIn, run_underlying Try.underlying25, sizeOf, typeInfo, hj, run_sameAddr_same]
    simp only [binOp]
    simp [Op.equal, Op.maxDepth, h 9999]
set_option maxHeartbeats 4000000 in
theorem none_walk (W : World) (k0 x y z : Int) (nm v : ByteArray) : Calls Try.prog 8 #[.agg #[.int .i64 k0, .int .i64 x, .int .i64 y, .int .i64 z, .string nm, .string v]] W fun e w' => e = .returned (.bool true) ∧ Below W.heap.size W w' := by
  have hix0 := idx0
  have hix1 := idx1
  have hneq := neq_same
  have HLV : Hid (∀ w', Calls Try.prog 10 #[] w' fun e w'' => e = .returned (.bool true) ∧ Below w'.heap.size w' w'') := fun w' => lives_any w'
  have HBX : Hid (ActBox ((W.alloc (.cells #[.int .i64 k0, .int .i64 x, .int .i64 y, .int .i64 z, .string nm, .string v] 33)).alloc (.cells #[.pointer none, .int .i64 0] 64)) W.heap.size k0 x y z nm v) := box_keep _ _ _ _ (heap_alloc_last W _)
  have HZ : Hid (ZeroAt ((W.alloc (.cells #[.int .i64 k0, .int .i64 x, .int .i64 y, .int .i64 z, .string nm, .string v] 33)).alloc (.cells #[.pointer none, .int .i64 0] 64)) (.pointer (some ⟨W.heap.size + 1, 0, none⟩))) := ⟨_, rfl, box_last _ _ (by simp) _⟩
  have HB : Hid (Below W.heap.size W ((W.alloc (.cells #[.int .i64 k0, .int .i64 x, .int .i64 y, .int .i64 z, .string nm, .string v] 33)).alloc (.cells #[.pointer none, .int .i64 0] 64))) := ((Below.refl W.heap.size W).alloc (Nat.le_refl _) _).alloc (by simp) _
  go_enter Try.func8, Try.ntmps8
  go_wp2
  go_loopw [15] (fun a15 wr => ∃ (i : Nat) (k : Int), i ≤ 2 ∧ a15 = .int .i64 (i : Int) ∧ ActBox wr W.heap.size k x y z nm v ∧ ZeroAt wr (.pointer (some ⟨W.heap.size + 1, 0, none⟩)) ∧ Below W.heap.size W wr) (fun a15 _ => 3 - (intOf a15).toNat)
  case atStart => exact ⟨0, k0, by omega, rfl, HBX.out, HZ.out, HB.out⟩
  case round =>
    clear HBX HZ HB
    obtain ⟨i, k, hi, rfl, hX, hZ, hB⟩ := hrel
    have h3 : i = 0 ∨ i = 1 ∨ i = 2 := by omega
    rcases h3 with rfl | rfl | rfl
    · obtain ⟨⟨c0, c1, c2, c3, c4, c5⟩, fz, hbl⟩ := hX.cells
      have hnode : Calls Try.prog 22 #[.pointer none, .int .i64 x] wr fun e w' => ∃ a' c' b' d', e = .returned (.tuple #[N5.val ⟨0, ⟨#[]⟩, 0, a', 0, c', b', 0, d'⟩, .bool false]) ∧ Below wr.heap.size wr w' := node_nil wr x
      have HX := hid_mk hX
      have HZ := hid_mk hZ
      have HB := hid_mk hB
      clear hX hZ hB
      go_wp2_with (go_at_call 22; fail)
      refine hnode.mono ?_
      rintro e w1 ⟨a', c', b', d', rfl, hB1⟩
      rw [show N5.val ⟨0, ⟨#[]⟩, 0, a', 0, c', b', 0, d'⟩ = .agg #[.int .i64 0, .string ⟨#[]⟩, .int .i64 0, .slice a' 0 c', .slice b' 0 d'] from rfl]
      obtain ⟨W2, hW2⟩ : ∃ W2, W2 = w1.alloc (.cells #[.int .i64 0, .string ⟨#[]⟩, .int .i64 0, .slice a' 0 c', .slice b' 0 d'] 52) := ⟨_, rfl⟩
      have hB2 : Below wr.heap.size wr W2 := by rw [hW2]; exact hB1.alloc hB1.size _
      obtain ⟨⟨r0, r1, r2, r3, r4, r5⟩, _, hbl1⟩ := (HX.out.keep hB1).cells
      have HX2 := hid_mk (HX.out.keep hB2)
      have hZ2 := HZ.out.keep hB2
      have hnd : NoDoc W2 (.pointer none) := noDoc_nil _
      have hattr := attr_no hnd x nm
      obtain ⟨⟨p0, p1, p2, p3, p4, p5⟩, _, _⟩ := HX2.out.cells
      have HZ2 := hid_mk hZ2
      have HB2 : Hid (Below W.heap.size W W2) := HB.out.trans (hB2.mono HB.out.size)
      have HW2 := hid_mk hW2
      clear hnode hB1 hB2 hZ2 hnd hW2 c0 c1 c2 c3 c4 c5 HX HZ HB fz
      go_wp2_with (go_at_call 16; fail)
      rw [← HW2.out]
      refine hattr.mono ?_
      rintro e w3 ⟨rfl, hB3⟩
      have HX3 := hid_mk (HX2.out.keep hB3)
      have hZ3 := HZ2.out.keep hB3
      have HB3 : Hid (Below W.heap.size W w3) := HB2.out.trans (hB3.mono HB2.out.size)
      have hlen : Calls Try.prog 23 #[.pointer none] w3 fun e w' => e = .returned (.int .i64 0) ∧ w' = w3 := dlen_nil w3
      have hnxt : Calls Try.prog 21 #[.pointer none] w3 fun e w' => e = .returned (.int .i64 0) ∧ w' = w3 := next_nil w3
      have HZ3 := hid_mk hZ3
      clear hattr hB3 hZ3 HX2 HZ2 HB2 HW2 p0 p1 p2 p3 p4 p5 r0 r1 r2 r3 r4 r5 hbl1
      go_wp2_with (first
        | (go_at_call 23; refine hlen.mono ?_; clear hlen; rintro e wx ⟨rfl, rfl⟩)
        | (go_at_call 21; refine hnxt.mono ?_; clear hnxt; rintro e wx ⟨rfl, rfl⟩))
      go_loopw [10] (fun a10 wq => ∃ (j : Nat) (k : Int), j ≤ 5 ∧ a10 = .int .i64 (j : Int) ∧ ActBox wq W.heap.size k x y z nm v ∧ ZeroAt wq (.pointer (some ⟨W.heap.size + 1, 0, none⟩)) ∧ Below W.heap.size W wq) (fun a10 _ => 6 - (intOf a10).toNat)
      case atStart => exact ⟨0, k, by omega, rfl, HX3.out, HZ3.out, HB3.out⟩
      case round =>
        clear HX3 HZ3 HB3
        obtain ⟨j, k, hj, rfl, hX, hZ, hB⟩ := hrel
        by_cases hj5 : j = 5
        · subst hj5
          have HX := hid_mk hX
          have HZ := hid_mk hZ
          have HB := hid_mk hB
          clear hX hZ hB
          go_wp2
          exact ⟨⟨0 + 1, k, by omega, rfl, HX.out, HZ.out, HB.out⟩, by simp only [intOf]; omega⟩
        obtain ⟨⟨c0, c1, c2, c3, c4, c5⟩, fz, hbl⟩ := hX.cells
        obtain ⟨W4, hW4⟩ : ∃ W4, W4 = wr.setCell ⟨W.heap.size, 0, none⟩ (.int .i64 (j : Int)) := ⟨_, rfl⟩
        have hX4 : ActBox W4 W.heap.size j x y z nm v := by rw [hW4]; exact heap_setCell_same wr W.heap.size 0 _ 33 (.int .i64 (j : Int)) hX
        have hZ4 : ZeroAt W4 (.pointer (some ⟨W.heap.size + 1, 0, none⟩)) := by rw [hW4]; exact hZ.set hX _
        have HB4 : Hid (Below W.heap.size W W4) := by rw [hW4]; exact hB.setCell (p := ⟨W.heap.size, 0, none⟩) (Nat.le_refl _) _
        have hnd : NoDoc W4 (.pointer none) := noDoc_nil _
        obtain ⟨⟨d0, d1, d2, d3, d4, d5⟩, _, _⟩ := hX4.cells
        have HW4 := hid_mk hW4
        have HX4 := hid_mk hX4
        have HZ4 := hid_mk hZ4
        clear hX4 hZ4 hX hZ hB
        have h5 : j = 0 ∨ j = 1 ∨ j = 2 ∨ j = 3 ∨ j = 4 := by omega
        clear hj hj5 hW4
        rcases h5 with rfl | rfl | rfl | rfl | rfl
        · have hact := act_no_0 (w := W4) (dp := .pointer none) hnd x y z nm v
          clear hnd
          go_wp2_with (go_at_call 13; fail)
          rw [show wr.setCell ⟨W.heap.size, 0, none⟩ (.int .i64 0) = W4 from HW4.out.symm]
          refine hact.mono ?_
          rintro e w5 ⟨rfl, hB5⟩
          have HX5 := hid_mk (HX4.out.keep hB5)
          have HZ5 := hid_mk (HZ4.out.keep hB5)
          have HB5 : Hid (Below W.heap.size W w5) := HB4.out.trans (hB5.mono HB4.out.size)
          clear hact hB5 c0 c1 c2 c3 c4 c5 HX4 HZ4 HB4 HW4 d0 d1 d2 d3 d4 d5 fz
          go_wp2
          exact ⟨⟨0 + 1, 0, by omega, rfl, HX5.out, HZ5.out, HB5.out⟩, by simp only [intOf]; omega⟩
        · have hact := act_no_1 (w := W4) (dp := .pointer none) hnd x y z nm v
          clear hnd
          go_wp2_with (go_at_call 13; fail)
          rw [show wr.setCell ⟨W.heap.size, 0, none⟩ (.int .i64 1) = W4 from HW4.out.symm]
          refine hact.mono ?_
          rintro e w5 ⟨rfl, hB5⟩
          have HX5 := hid_mk (HX4.out.keep hB5)
          have HZ5 := hid_mk (HZ4.out.keep hB5)
          have HB5 : Hid (Below W.heap.size W w5) := HB4.out.trans (hB5.mono HB4.out.size)
          clear hact hB5 c0 c1 c2 c3 c4 c5 HX4 HZ4 HB4 HW4 d0 d1 d2 d3 d4 d5 fz
          go_wp2
          exact ⟨⟨1 + 1, 1, by omega, rfl, HX5.out, HZ5.out, HB5.out⟩, by simp only [intOf]; omega⟩
        · have hact := act_no_2 (w := W4) (dp := .pointer none) hnd x y z nm v
          clear hnd
          go_wp2_with (go_at_call 13; fail)
          rw [show wr.setCell ⟨W.heap.size, 0, none⟩ (.int .i64 2) = W4 from HW4.out.symm]
          refine hact.mono ?_
          rintro e w5 ⟨rfl, hB5⟩
          have HX5 := hid_mk (HX4.out.keep hB5)
          have HZ5 := hid_mk (HZ4.out.keep hB5)
          have HB5 : Hid (Below W.heap.size W w5) := HB4.out.trans (hB5.mono HB4.out.size)
          clear hact hB5 c0 c1 c2 c3 c4 c5 HX4 HZ4 HB4 HW4 d0 d1 d2 d3 d4 d5 fz
          go_wp2
          exact ⟨⟨2 + 1, 2, by omega, rfl, HX5.out, HZ5.out, HB5.out⟩, by simp only [intOf]; omega⟩
        · have hact := act_no_3 (w := W4) (dp := .pointer none) hnd x y z nm v
          clear hnd
          go_wp2_with (go_at_call 13; fail)
          rw [show wr.setCell ⟨W.heap.size, 0, none⟩ (.int .i64 3) = W4 from HW4.out.symm]
          refine hact.mono ?_
          rintro e w5 ⟨rfl, hB5⟩
          have HX5 := hid_mk (HX4.out.keep hB5)
          have HZ5 := hid_mk (HZ4.out.keep hB5)
          have HB5 : Hid (Below W.heap.size W w5) := HB4.out.trans (hB5.mono HB4.out.size)
          clear hact hB5 c0 c1 c2 c3 c4 c5 HX4 HZ4 HB4 HW4 d0 d1 d2 d3 d4 d5 fz
          go_wp2
          exact ⟨⟨3 + 1, 3, by omega, rfl, HX5.out, HZ5.out, HB5.out⟩, by simp only [intOf]; omega⟩
        · have hact := act_no_4 (w := W4) (dp := .pointer none) hnd x y z nm v
          clear hnd
          go_wp2_with (go_at_call 13; fail)
          rw [show wr.setCell ⟨W.heap.size, 0, none⟩ (.int .i64 4) = W4 from HW4.out.symm]
          refine hact.mono ?_
          rintro e w5 ⟨rfl, hB5⟩
          have HX5 := hid_mk (HX4.out.keep hB5)
          have HZ5 := hid_mk (HZ4.out.keep hB5)
          have HB5 : Hid (Below W.heap.size W w5) := HB4.out.trans (hB5.mono HB4.out.size)
          clear hact hB5 c0 c1 c2 c3 c4 c5 HX4 HZ4 HB4 HW4 d0 d1 d2 d3 d4 d5 fz
          go_wp2
          exact ⟨⟨4 + 1, 4, by omega, rfl, HX5.out, HZ5.out, HB5.out⟩, by simp only [intOf]; omega⟩
    · obtain ⟨⟨c0, c1, c2, c3, c4, c5⟩, fz, hbl⟩ := hX.cells
      have hnode : Calls Try.prog 22 #[.pointer (some ⟨W.heap.size + 1, 0, none⟩), .int .i64 x] wr fun e w' => ∃ a' c' b' d', e = .returned (.tuple #[N5.val ⟨0, ⟨#[]⟩, 0, a', 0, c', b', 0, d'⟩, .bool false]) ∧ Below wr.heap.size wr w' := node_zero hZ x
      have HX := hid_mk hX
      have HZ := hid_mk hZ
      have HB := hid_mk hB
      clear hX hZ hB
      go_wp2_with (go_at_call 22; fail)
      refine hnode.mono ?_
      rintro e w1 ⟨a', c', b', d', rfl, hB1⟩
      rw [show N5.val ⟨0, ⟨#[]⟩, 0, a', 0, c', b', 0, d'⟩ = .agg #[.int .i64 0, .string ⟨#[]⟩, .int .i64 0, .slice a' 0 c', .slice b' 0 d'] from rfl]
      obtain ⟨W2, hW2⟩ : ∃ W2, W2 = w1.alloc (.cells #[.int .i64 0, .string ⟨#[]⟩, .int .i64 0, .slice a' 0 c', .slice b' 0 d'] 52) := ⟨_, rfl⟩
      have hB2 : Below wr.heap.size wr W2 := by rw [hW2]; exact hB1.alloc hB1.size _
      obtain ⟨⟨r0, r1, r2, r3, r4, r5⟩, _, hbl1⟩ := (HX.out.keep hB1).cells
      have HX2 := hid_mk (HX.out.keep hB2)
      have hZ2 := HZ.out.keep hB2
      have hnd : NoDoc W2 (.pointer (some ⟨W.heap.size + 1, 0, none⟩)) := noDoc_zero hZ2
      have hattr := attr_no hnd x nm
      obtain ⟨⟨p0, p1, p2, p3, p4, p5⟩, _, _⟩ := HX2.out.cells
      have HZ2 := hid_mk hZ2
      have HB2 : Hid (Below W.heap.size W W2) := HB.out.trans (hB2.mono HB.out.size)
      have HW2 := hid_mk hW2
      clear hnode hB1 hB2 hZ2 hnd hW2 c0 c1 c2 c3 c4 c5 HX HZ HB fz
      go_wp2_with (go_at_call 16; fail)
      rw [← HW2.out]
      refine hattr.mono ?_
      rintro e w3 ⟨rfl, hB3⟩
      have HX3 := hid_mk (HX2.out.keep hB3)
      have hZ3 := HZ2.out.keep hB3
      have HB3 : Hid (Below W.heap.size W w3) := HB2.out.trans (hB3.mono HB2.out.size)
      have hlen : Calls Try.prog 23 #[.pointer (some ⟨W.heap.size + 1, 0, none⟩)] w3 fun e w' => e = .returned (.int .i64 0) ∧ w' = w3 := dlen_zero hZ3
      have hnxt : Calls Try.prog 21 #[.pointer (some ⟨W.heap.size + 1, 0, none⟩)] w3 fun e w' => e = .returned (.int .i64 0) ∧ w' = w3 := next_zero hZ3
      have HZ3 := hid_mk hZ3
      clear hattr hB3 hZ3 HX2 HZ2 HB2 HW2 p0 p1 p2 p3 p4 p5 r0 r1 r2 r3 r4 r5 hbl1
      go_wp2_with (first
        | (go_at_call 23; refine hlen.mono ?_; clear hlen; rintro e wx ⟨rfl, rfl⟩)
        | (go_at_call 21; refine hnxt.mono ?_; clear hnxt; rintro e wx ⟨rfl, rfl⟩))
      go_loopw [10] (fun a10 wq => ∃ (j : Nat) (k : Int), j ≤ 5 ∧ a10 = .int .i64 (j : Int) ∧ ActBox wq W.heap.size k x y z nm v ∧ ZeroAt wq (.pointer (some ⟨W.heap.size + 1, 0, none⟩)) ∧ Below W.heap.size W wq) (fun a10 _ => 6 - (intOf a10).toNat)
      case atStart => exact ⟨0, k, by omega, rfl, HX3.out, HZ3.out, HB3.out⟩
      case round =>
        clear HX3 HZ3 HB3
        obtain ⟨j, k, hj, rfl, hX, hZ, hB⟩ := hrel
        by_cases hj5 : j = 5
        · subst hj5
          have HX := hid_mk hX
          have HZ := hid_mk hZ
          have HB := hid_mk hB
          clear hX hZ hB
          go_wp2
          exact ⟨⟨1 + 1, k, by omega, rfl, HX.out, HZ.out, HB.out⟩, by simp only [intOf]; omega⟩
        obtain ⟨⟨c0, c1, c2, c3, c4, c5⟩, fz, hbl⟩ := hX.cells
        obtain ⟨W4, hW4⟩ : ∃ W4, W4 = wr.setCell ⟨W.heap.size, 0, none⟩ (.int .i64 (j : Int)) := ⟨_, rfl⟩
        have hX4 : ActBox W4 W.heap.size j x y z nm v := by rw [hW4]; exact heap_setCell_same wr W.heap.size 0 _ 33 (.int .i64 (j : Int)) hX
        have hZ4 : ZeroAt W4 (.pointer (some ⟨W.heap.size + 1, 0, none⟩)) := by rw [hW4]; exact hZ.set hX _
        have HB4 : Hid (Below W.heap.size W W4) := by rw [hW4]; exact hB.setCell (p := ⟨W.heap.size, 0, none⟩) (Nat.le_refl _) _
        have hnd : NoDoc W4 (.pointer (some ⟨W.heap.size + 1, 0, none⟩)) := noDoc_zero hZ4
        obtain ⟨⟨d0, d1, d2, d3, d4, d5⟩, _, _⟩ := hX4.cells
        have HW4 := hid_mk hW4
        have HX4 := hid_mk hX4
        have HZ4 := hid_mk hZ4
        clear hX4 hZ4 hX hZ hB
        have h5 : j = 0 ∨ j = 1 ∨ j = 2 ∨ j = 3 ∨ j = 4 := by omega
        clear hj hj5 hW4
        rcases h5 with rfl | rfl | rfl | rfl | rfl
        · have hact := act_no_0 (w := W4) (dp := .pointer (some ⟨W.heap.size + 1, 0, none⟩)) hnd x y z nm v
          clear hnd
          go_wp2_with (go_at_call 13; fail)
          rw [show wr.setCell ⟨W.heap.size, 0, none⟩ (.int .i64 0) = W4 from HW4.out.symm]
          refine hact.mono ?_
          rintro e w5 ⟨rfl, hB5⟩
          have HX5 := hid_mk (HX4.out.keep hB5)
          have HZ5 := hid_mk (HZ4.out.keep hB5)
          have HB5 : Hid (Below W.heap.size W w5) := HB4.out.trans (hB5.mono HB4.out.size)
          clear hact hB5 c0 c1 c2 c3 c4 c5 HX4 HZ4 HB4 HW4 d0 d1 d2 d3 d4 d5 fz
          go_wp2
          exact ⟨⟨0 + 1, 0, by omega, rfl, HX5.out, HZ5.out, HB5.out⟩, by simp only [intOf]; omega⟩
        · have hact := act_no_1 (w := W4) (dp := .pointer (some ⟨W.heap.size + 1, 0, none⟩)) hnd x y z nm v
          clear hnd
          go_wp2_with (go_at_call 13; fail)
          rw [show wr.setCell ⟨W.heap.size, 0, none⟩ (.int .i64 1) = W4 from HW4.out.symm]
          refine hact.mono ?_
          rintro e w5 ⟨rfl, hB5⟩
          have HX5 := hid_mk (HX4.out.keep hB5)
          have HZ5 := hid_mk (HZ4.out.keep hB5)
          have HB5 : Hid (Below W.heap.size W w5) := HB4.out.trans (hB5.mono HB4.out.size)
          clear hact hB5 c0 c1 c2 c3 c4 c5 HX4 HZ4 HB4 HW4 d0 d1 d2 d3 d4 d5 fz
          go_wp2
          exact ⟨⟨1 + 1, 1, by omega, rfl, HX5.out, HZ5.out, HB5.out⟩, by simp only [intOf]; omega⟩
        · have hact := act_no_2 (w := W4) (dp := .pointer (some ⟨W.heap.size + 1, 0, none⟩)) hnd x y z nm v
          clear hnd
          go_wp2_with (go_at_call 13; fail)
          rw [show wr.setCell ⟨W.heap.size, 0, none⟩ (.int .i64 2) = W4 from HW4.out.symm]
          refine hact.mono ?_
          rintro e w5 ⟨rfl, hB5⟩
          have HX5 := hid_mk (HX4.out.keep hB5)
          have HZ5 := hid_mk (HZ4.out.keep hB5)
          have HB5 : Hid (Below W.heap.size W w5) := HB4.out.trans (hB5.mono HB4.out.size)
          clear hact hB5 c0 c1 c2 c3 c4 c5 HX4 HZ4 HB4 HW4 d0 d1 d2 d3 d4 d5 fz
          go_wp2
          exact ⟨⟨2 + 1, 2, by omega, rfl, HX5.out, HZ5.out, HB5.out⟩, by simp only [intOf]; omega⟩
        · have hact := act_no_3 (w := W4) (dp := .pointer (some ⟨W.heap.size + 1, 0, none⟩)) hnd x y z nm v
          clear hnd
          go_wp2_with (go_at_call 13; fail)
          rw [show wr.setCell ⟨W.heap.size, 0, none⟩ (.int .i64 3) = W4 from HW4.out.symm]
          refine hact.mono ?_
          rintro e w5 ⟨rfl, hB5⟩
          have HX5 := hid_mk (HX4.out.keep hB5)
          have HZ5 := hid_mk (HZ4.out.keep hB5)
          have HB5 : Hid (Below W.heap.size W w5) := HB4.out.trans (hB5.mono HB4.out.size)
          clear hact hB5 c0 c1 c2 c3 c4 c5 HX4 HZ4 HB4 HW4 d0 d1 d2 d3 d4 d5 fz
          go_wp2
          exact ⟨⟨3 + 1, 3, by omega, rfl, HX5.out, HZ5.out, HB5.out⟩, by simp only [intOf]; omega⟩
        · have hact := act_no_4 (w := W4) (dp := .pointer (some ⟨W.heap.size + 1, 0, none⟩)) hnd x y z nm v
          clear hnd
          go_wp2_with (go_at_call 13; fail)
          rw [show wr.setCell ⟨W.heap.size, 0, none⟩ (.int .i64 4) = W4 from HW4.out.symm]
          refine hact.mono ?_
          rintro e w5 ⟨rfl, hB5⟩
          have HX5 := hid_mk (HX4.out.keep hB5)
          have HZ5 := hid_mk (HZ4.out.keep hB5)
          have HB5 : Hid (Below W.heap.size W w5) := HB4.out.trans (hB5.mono HB4.out.size)
          clear hact hB5 c0 c1 c2 c3 c4 c5 HX4 HZ4 HB4 HW4 d0 d1 d2 d3 d4 d5 fz
          go_wp2
          exact ⟨⟨4 + 1, 4, by omega, rfl, HX5.out, HZ5.out, HB5.out⟩, by simp only [intOf]; omega⟩
    · have HB := hid_mk hB
      clear hX hZ hB
      go_wp2_with (go_at_call 10; refine (HLV.out _).mono ?_; rintro e w2 ⟨rfl, hB2⟩)
      go_ret
      exact ⟨rfl, HB.out.trans (hB2.mono HB.out.size)⟩

end Go.Proofs.Ytecbgleidohjpaa.N
