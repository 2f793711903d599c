/- take. -/
import Derived.Test.YtmpppijgjbfolaaCPo
namespace Go.Proofs.Ytmpppijgjbfolaa.C
open Go.RowKit
set_option maxRecDepth 100000

set_option maxHeartbeats 2000000 in
theorem take_any (o : Ord bt) {w : World} {n0 B g cap : Nat} {L : List R9} (h : PAt w n0 B g cap L) (hh : HeapL bt L.length L) (hL : L.length ≤ 1000000) (h0 : 0 < L.length) : Calls Try.prog 33 #[.pointer (some ⟨B, 0, none⟩)] w fun e w' => e = .returned (L[0]'h0).1.val ∧ ∃ K : List R9, HeapL bt K.length K ∧ PAt w' n0 B g cap K ∧ (L[0]'h0 :: K).Perm L ∧ Kx B g w w' := by
  obtain ⟨w1, hw1⟩ : ∃ w1, w1 = w.alloc (.cells #[.string ⟨#[]⟩, .string ⟨#[]⟩, .int .i64 0, .bool false, .int .i64 0, .int .i64 0, .int .i64 0, .int .i64 0] 26) := ⟨_, rfl⟩
  have hb : Below w.heap.size w w1 := by rw [hw1]; exact (Below.refl _ _).alloc (Nat.le_refl _) _
  have hbox : BoxE w1 w.heap.size 26 ⟨⟨#[]⟩, ⟨#[]⟩, 0, false, 0, 0, 0, 0⟩ := by rw [hw1]; exact heap_alloc_last w _
  have hpp := hpop_any o (h.keep hb) hh hL h0
  have HKW : Hid (Kx B g w w1) := Kx.of_below hb
  have hBw : w.heap.size ≠ B := by have := (Array.getElem?_eq_some_iff.1 h.box).1; omega
  have hgw : w.heap.size ≠ g := by have := h.row.cap_le.2.2.2; omega
  have HBX := hid_mk hbox
  have HW1 := hid_mk hw1
  clear h hh o hb hbox
  unfold rv E8.val at *
  generalize L[0] = r at *
  obtain ⟨⟨xn, xv, xo, xi, xa, xb, xc, xk⟩, xp⟩ := r
  dsimp only at *
  clear hw1
  go_enter Try.func33, Try.ntmps33
  go_wp2_with (go_at_call 38; fail)
  rw [← HW1.out]
  refine hpp.mono ?_
  rintro e w2 ⟨rfl, hE⟩
  have HE := hid_mk hE
  obtain ⟨K, _, _, _, hx⟩ := hE
  have hb2 : BoxE w2 w.heap.size 26 ⟨⟨#[]⟩, ⟨#[]⟩, 0, false, 0, 0, 0, 0⟩ := (hx.block _ HBX.out.lt hBw hgw).trans HBX.out
  obtain ⟨c0, c1, c2, c3, c4, c5, c6, c7⟩ := hb2.cells
  have hf : ∀ o, w2.frozen? ⟨w.heap.size, o, none⟩ = false := fun o => by
    unfold BoxE at hb2
    simp [World.frozen?, hb2]
  have hta := assert69
  have hlt := hb2.lt
  clear hx hb2 hpp
  go_wp2
  refine bodyPost_ret (v := .agg #[.string xn, .string xv, .int .i64 xo, .bool xi, .int .i64 xa, .int .i64 xb, .int .i64 xc, .int .i64 xk]) (by simp [results, Try.results33, go_sem, c0, c1, c2, c3, c4, c5, c6, c7, hlt]) rfl ⟨rfl, ?_⟩
  obtain ⟨K, hH, hP, hp, hx⟩ := HE.out
  have h1 := put8_pat hP hBw hgw ⟨xn, xv, xo, xi, xa, xb, xc, xk⟩
  have h2 := put8_kx (HKW.out.trans hx) (Nat.le_refl _) ⟨xn, xv, xo, xi, xa, xb, xc, xk⟩
  have hb := (Below.refl (put8 w2 w.heap.size ⟨xn, xv, xo, xi, xa, xb, xc, xk⟩).heap.size _).alloc (Nat.le_refl _) (.cells #[.string xn, .string xv, .int .i64 xo, .bool xi, .int .i64 xa, .int .i64 xb, .int .i64 xc, .int .i64 xk, .int .i64 xp] 69)
  exact ⟨K, hH, h1.keep hb, hp, h2.trans (Kx.of_below hb)⟩
end Go.Proofs.Ytmpppijgjbfolaa.C
