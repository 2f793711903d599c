/- cascade.Winner. -/
import Derived.Test.YtmpppijgjbfolaaCWm
namespace Go.Proofs.Ytmpppijgjbfolaa.C
open Go.RowKit
set_option maxRecDepth 100000

def zE : E8 := ⟨⟨#[]⟩, ⟨#[]⟩, 0, false, 0, 0, 0, 0⟩
theorem EsAt.keep {w w' : World} {a : Option Addr} {c : Nat} {l : List E8} (h : EsAt w a c l) (hb : Below w.heap.size w w') : EsAt w' a c l := ⟨h.1, fun h0 => (h.2 h0).keep hb⟩
theorem BoxE.free {w : World} {b : Nat} {t : TypeId} {e : E8} (h : BoxE w b t e) (o : Nat) : w.frozen? ⟨b, o, none⟩ = false := by
  unfold BoxE at h
  simp [World.frozen?, h]
theorem put8_below {n0 b : Nat} {a w : World} (h : Below n0 a w) (hb : n0 ≤ b) (e : E8) : Below n0 a (put8 w b e) :=
  (((((((h.setCell (p := ⟨b, _, none⟩) hb _).setCell (p := ⟨b, _, none⟩) hb _).setCell (p := ⟨b, _, none⟩) hb _).setCell (p := ⟨b, _, none⟩) hb _).setCell (p := ⟨b, _, none⟩) hb _).setCell (p := ⟨b, _, none⟩) hb _).setCell (p := ⟨b, _, none⟩) hb _).setCell (p := ⟨b, _, none⟩) hb _

set_option maxHeartbeats 4000000 in
theorem winner_any {w : World} {a : Option Addr} {c : Nat} {l : List E8} (h : EsAt w a c l) (hL : l.length ≤ 900000) (name : ByteArray) : Calls Try.prog 18 #[.slice a l.length c, .string name] w fun e w' => e = .returned (.tuple #[((winF (l.filter (nmd name)) none).getD zE).val, .bool (winF (l.filter (nmd name)) none).isSome]) ∧ Below w.heap.size w w' := by
  obtain ⟨w1, hw1⟩ : ∃ w1, w1 = w.alloc (.cells #[.string ⟨#[]⟩, .string ⟨#[]⟩, .int .i64 0, .bool false, .int .i64 0, .int .i64 0, .int .i64 0, .int .i64 0] 26) := ⟨_, rfl⟩
  have hb1 : Below w.heap.size w w1 := by rw [hw1]; exact (Below.refl _ _).alloc (Nat.le_refl _) _
  have hx1 : BoxE w1 w.heap.size 26 zE := by rw [hw1]; exact heap_alloc_last w _
  have hs1 : w1.heap.size = w.heap.size + 1 := by rw [hw1]; simp
  obtain ⟨w2, hw2⟩ : ∃ w2, w2 = w1.alloc (.cells #[.slice none 0 0] 51) := ⟨_, rfl⟩
  have hb2 : Below w1.heap.size w1 w2 := by rw [hw2]; exact (Below.refl _ _).alloc (Nat.le_refl _) _
  have hx2 : w2.heap[w1.heap.size]? = some (.cells #[.slice none 0 0] 51 (0, 0)) := by rw [hw2]; exact heap_alloc_last w1 _
  have hF0 : FdGo (w.heap.size + 1) (w.heap.size + 1) w2 [] w2 := ⟨Below.refl _ _, [], .inl ⟨rfl, by rw [← hs1]; exact hx2, Nat.le_refl _⟩, fun c x y _ h0 => by simp at h0, List.Perm.refl _⟩
  have hE2 : ∀ w', Below (w.heap.size + 1) w2 w' → EsAt w' a c l := fun w' hw' => h.keep ((hb1.trans (hb2.mono hb1.size)).trans (hw'.mono (by omega)))
  have hfd := feedNamed_any bt_ord name hF0 hE2 hL (by rw [← hs1]; exact hb2.size)
  have HBX : Hid (BoxE w2 w.heap.size 26 zE) := hx1.keep (hb2.mono (by omega))
  have HB2 : Hid (Below w.heap.size w w2) := hb1.trans (hb2.mono hb1.size)
  have HW : Hid (w2 = w1.alloc (.cells #[.slice none 0 0] 51) ∧ w1 = w.alloc (.cells #[.string ⟨#[]⟩, .string ⟨#[]⟩, .int .i64 0, .bool false, .int .i64 0, .int .i64 0, .int .i64 0, .int .i64 0] 26)) := ⟨hw2, hw1⟩
  obtain ⟨f, hf⟩ : ∃ f, f = l.filter (nmd name) := ⟨_, rfl⟩
  have hfl : f.length ≤ 900000 := by rw [hf]; exact Nat.le_trans (List.length_filter_le _ _) hL
  rw [← hf] at hfd ⊢
  clear hw1 hw2 hb1 hb2 hx1 hx2 hF0 hE2 hs1 h hf
  obtain ⟨R, hR⟩ : ∃ R, R = Value.tuple #[((winF f none).getD zE).val, .bool (winF f none).isSome] := ⟨_, rfl⟩
  rw [← hR]
  have HR := hid_mk hR
  clear hR
  go_enter Try.func18, Try.ntmps18
  go_wp2_with (go_at_call 31; fail)
  rw [← HW.out.2, ← HW.out.1]
  refine hfd.mono ?_
  rintro e w3 ⟨⟨v3, rfl⟩, hB3, K, hP, hH, hp⟩
  have hb3 : BoxE w3 w.heap.size 26 zE := (hB3.block w.heap.size (by omega)).trans HBX.out
  have HB3 : Hid (Below w.heap.size w w3) := HB2.out.trans (hB3.mono (by omega))
  have hlt3 := hb3.lt
  by_cases h0 : K.length = 0
  · have hnil : f = [] := by
      have := hp.length_eq
      rw [tagF_len, h0] at this
      exact List.length_eq_zero_iff.1 this.symm
    have HR2 : Hid (R = .tuple #[.agg #[.string ⟨#[]⟩, .string ⟨#[]⟩, .int .i64 0, .bool false, .int .i64 0, .int .i64 0, .int .i64 0, .int .i64 0], .bool false]) := by
      show _ = _
      rw [HR.out, hnil]
      rfl
    obtain ⟨v, hbx, hown, _⟩ := hP.form
    obtain ⟨va, vc, rfl⟩ := own_slice hown
    rw [h0] at hbx
    have d0 : w3.cell? ⟨w.heap.size + 1, 0, none⟩ = some (.slice va 0 vc) := by simp [World.cell?, hbx]
    obtain ⟨c0, c1, c2, c3, c4, c5, c6, c7⟩ := hb3.cells
    have hfz := hb3.free
    unfold zE at c0 c1 c2 c3 c4 c5 c6 c7
    dsimp only at c0 c1 c2 c3 c4 c5 c6 c7
    clear hfd HBX hbx hown hP hH hp hB3 hnil hb3
    go_wp2_with (go_at_call 32; fail)
    refine (plen_any _ _ _ _).mono ?_
    rintro e w' ⟨rfl, hw⟩
    rw [hw]
    clear hw w'
    go_wp2
    refine bodyPost_ret (v := .tuple #[.agg #[.string ⟨#[]⟩, .string ⟨#[]⟩, .int .i64 0, .bool false, .int .i64 0, .int .i64 0, .int .i64 0, .int .i64 0], .bool false]) (by simp [results, Try.results18, go_sem, c0, c1, c2, c3, c4, c5, c6, c7]) rfl ⟨by rw [HR2.out], put8_below HB3.out (Nat.le_refl _) zE⟩
  · have h0 : 0 < K.length := by omega
    obtain ⟨g, cap, hPA⟩ := hP.at h0
    have hKl : K.length ≤ 1000000 := by rw [hp.length_eq, tagF_len]; omega
    have hw := win_of_top hp hH h0
    have htk0 := take_any bt_ord hPA hH hKl h0
    obtain ⟨x, hx⟩ : ∃ x, x = (K[0]'h0).1 := ⟨_, rfl⟩
    have htk : Calls Try.prog 33 #[.pointer (some ⟨w.heap.size + 1, 0, none⟩)] w3 fun e w' => e = .returned x.val ∧ Kx (w.heap.size + 1) g w3 w' := htk0.mono fun e w' h => by
      obtain ⟨K', _, _, _, h5⟩ := h.2
      exact ⟨by rw [h.1, hx], h5⟩
    rw [← hx] at hw
    clear htk0
    have HR2 : Hid (R = .tuple #[x.val, .bool true]) := by
      show _ = _
      rw [HR.out, hw]
      rfl
    have d0 := hPA.cell
    have hgl : w.heap.size + 1 ≤ g := hPA.row.cap_le.2.2.1
    have hne : ((K.length : Int) == 0) = false := by
      rw [beq_eq_false_iff_ne]; omega
    have HB3b : Hid (BoxE w3 w.heap.size 26 zE) := hb3
    clear hfd HBX hP hH hp hB3 hb3 hw hx HR hPA
    generalize K.length = kn at *
    unfold E8.val at *
    obtain ⟨xn, xv, xo, xi, xa, xb, xc, xk⟩ := x
    dsimp only at *
    go_wp2_with (go_at_call 32; fail)
    refine (plen_any _ _ _ _).mono ?_
    rintro e w' ⟨rfl, hw⟩
    rw [hw]
    clear hw w'
    go_wp2_with (go_at_call 33; fail)
    refine htk.mono ?_
    rintro e w4 ⟨rfl, hx⟩
    have hb4 : BoxE w4 w.heap.size 26 zE := (hx.block _ HB3b.out.lt (by omega) (by omega)).trans HB3b.out
    have HB4 : Hid (Below w.heap.size w w4) := HB3.out.trans (hx.below (by omega) (by omega) (by omega))
    obtain ⟨c0, c1, c2, c3, c4, c5, c6, c7⟩ := hb4.cells
    have hfz := hb4.free
    unfold zE at c0 c1 c2 c3 c4 c5 c6 c7
    dsimp only at c0 c1 c2 c3 c4 c5 c6 c7
    clear htk hx hb4 d0
    go_wp2
    refine bodyPost_ret (v := .tuple #[.agg #[.string xn, .string xv, .int .i64 xo, .bool xi, .int .i64 xa, .int .i64 xb, .int .i64 xc, .int .i64 xk], .bool true]) (by simp [results, Try.results18, go_sem, c0, c1, c2, c3, c4, c5, c6, c7]) rfl ⟨by rw [HR2.out], put8_below HB4.out (Nat.le_refl _) ⟨xn, xv, xo, xi, xa, xb, xc, xk⟩⟩
end Go.Proofs.Ytmpppijgjbfolaa.C
