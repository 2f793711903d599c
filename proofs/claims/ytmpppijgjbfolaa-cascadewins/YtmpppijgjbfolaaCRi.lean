/- The document's Winner. -/
import Derived.Test.YtmpppijgjbfolaaCRh
namespace Go.Proofs.Ytmpppijgjbfolaa.C
open Go.RowKit
set_option maxRecDepth 100000

set_option maxHeartbeats 4000000 in
theorem rwinner_any {w : World} {a : Option Addr} {c : Nat} {l : List E8} (h : EsAt w a c l) (hL : l.length ≤ 900000) (name : ByteArray) : Calls Try.prog 19 #[.slice a l.length c, .string name] w fun e w' => e = .returned (.tuple #[((winF (l.filter (nmd name)) none).getD zE).val, .bool (winF (l.filter (nmd name)) none).isSome]) ∧ Below w.heap.size w w' := by
  obtain ⟨w1, hw1⟩ : ∃ w1, w1 = w.alloc (.cells #[.string ⟨#[]⟩, .string ⟨#[]⟩, .int .i64 0, .bool false, .int .i64 0, .int .i64 0, .int .i64 0, .int .i64 0] 29) := ⟨_, rfl⟩
  have hb1 : Below w.heap.size w w1 := by rw [hw1]; exact (Below.refl _ _).alloc (Nat.le_refl _) _
  have hx1 : BoxE w1 w.heap.size 29 zE := by rw [hw1]; exact heap_alloc_last w _
  have hch := rchain_any (h.keep hb1) hL name
  have HW := hid_mk hw1
  have HB1 := hid_mk hb1
  have HX1 := hid_mk hx1
  obtain ⟨f, hf⟩ : ∃ f, f = l.filter (nmd name) := ⟨_, rfl⟩
  rw [← hf] at hch ⊢
  clear hw1 hb1 hx1 h hf
  obtain ⟨R, hR⟩ : ∃ R, R = Value.tuple #[((winF f none).getD zE).val, .bool (winF f none).isSome] := ⟨_, rfl⟩
  rw [← hR]
  have HR := hid_mk hR
  clear hR
  go_enter Try.func19, Try.ntmps19
  go_wp2_with (go_at_call 23; fail)
  rw [← HW.out]
  refine hch.mono ?_
  rintro e w2 ⟨⟨v, es, rfl, hE, hF⟩, hB2⟩
  obtain ⟨a2, c2, rfl, hA⟩ := hE.es
  have hx2 : BoxE w2 w.heap.size 29 zE := HX1.out.keep hB2
  have HB2 : Hid (Below w.heap.size w w2) := HB1.out.trans (hB2.mono HB1.out.size)
  obtain ⟨z0, z1, z2, z3, z4, z5, z6, z7⟩ := hx2.cells
  have hfz := hx2.free
  unfold zE at z0 z1 z2 z3 z4 z5 z6 z7
  dsimp only at z0 z1 z2 z3 z4 z5 z6 z7
  have hcap := hA.cap
  have hwin := hF.win
  have hlt := hx2.lt
  by_cases h0 : es.length = 0
  · have HR2 : Hid (R = .tuple #[.agg #[.string ⟨#[]⟩, .string ⟨#[]⟩, .int .i64 0, .bool false, .int .i64 0, .int .i64 0, .int .i64 0, .int .i64 0], .bool false]) := by
      show _ = _
      rw [HR.out, hwin, List.length_eq_zero_iff.1 h0]
      rfl
    rw [h0]
    clear hch hE hF hA hB2 hx2 hwin hcap HR h0
    go_wp2
    refine bodyPost_ret (v := .tuple #[.agg #[.string ⟨#[]⟩, .string ⟨#[]⟩, .int .i64 0, .bool false, .int .i64 0, .int .i64 0, .int .i64 0, .int .i64 0], .bool false]) (by simp [results, Try.results19, go_sem, z0, z1, z2, z3, z4, z5, z6, z7]) rfl ⟨by rw [HR2.out], put8_below HB2.out (Nat.le_refl _) zE⟩
  · have h1 : 0 < es.length := by omega
    obtain ⟨b, off, rfl, hb, c0, c1, c2, c3, c4, c5, c6, c7⟩ := hA.at h1
    obtain ⟨x, hx⟩ : ∃ x, x = es[0] := ⟨_, rfl⟩
    rw [← hx] at c0 c1 c2 c3 c4 c5 c6 c7
    simp only [Nat.zero_mul, Nat.add_zero] at c0 c1 c2 c3 c4 c5 c6 c7
    have HR2 : Hid (R = .tuple #[x.val, .bool true]) := by
      show _ = _
      rw [HR.out, hwin, List.getElem?_eq_getElem h1, ← hx]
      rfl
    have hne : ((es.length : Int) == 0) = false := by
      rw [beq_eq_false_iff_ne]; omega
    clear hch hE hF hA hB2 hx2 hwin hx HR h0
    generalize es.length = k at *
    unfold E8.val at HR2
    obtain ⟨xn, xv, xo, xi, xa, xb, xc, xk⟩ := x
    dsimp only at *
    go_wp2
    refine bodyPost_ret (v := .tuple #[.agg #[.string xn, .string xv, .int .i64 xo, .bool xi, .int .i64 xa, .int .i64 xb, .int .i64 xc, .int .i64 xk], .bool true]) (by simp [results, Try.results19, go_sem, z0, z1, z2, z3, z4, z5, z6, z7]) rfl ⟨by rw [HR2.out], put8_below HB2.out (Nat.le_refl _) ⟨xn, xv, xo, xi, xa, xb, xc, xk⟩⟩
end Go.Proofs.Ytmpppijgjbfolaa.C
