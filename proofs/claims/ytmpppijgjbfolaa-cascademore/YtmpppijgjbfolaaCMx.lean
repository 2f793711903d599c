/- The law CascadeMore: the walk. -/
import Derived.Test.YtmpppijgjbfolaaCMc
namespace Go.Proofs.Ytmpppijgjbfolaa.C
open Go.RowKit
set_option maxRecDepth 100000

theorem box_ma {w1 w5 : World} {o0 : Obj} {X p : Nat} {t : TypeId} {e : E8} (h : BoxE w1 p t e) (h5 : ((w1.alloc o0).drew).grownBy w5 (some X)) (hX : w1.heap.size ≤ X) : BoxE w5 p t e := by
  have hl := h.lt
  exact (h5.block p (by simp; omega) (fun q => by cases q; omega)).trans ((Below.heap_alloc w1 o0 p hl).trans h)
theorem box_mb {w1 w5 : World} {o0 o1 : Obj} {X p : Nat} {t : TypeId} {e : E8} (h : BoxE w1 p t e) (h5 : (((w1.alloc o0).alloc o1).drew).grownBy w5 (some X)) (hX : w1.heap.size ≤ X) : BoxE w5 p t e := by
  have hl := h.lt
  exact (h5.block p (by simp; omega) (fun q => by cases q; omega)).trans ((Below.heap_alloc (w1.alloc o0) o1 p (by simp; omega)).trans ((Below.heap_alloc w1 o0 p hl).trans h))
theorem below_ma {w1 w5 w6 : World} {o0 o1 : Obj} {X a5n : Nat} {a5 : Option Addr} {c5 : Nat} {l : List E8} (h5 : ((w1.alloc o0).drew).grownBy w5 (some X)) (ho : EO w5 w1.heap.size (.slice a5 a5n c5) l) (h6 : (w5.alloc o1).grownBy w6 (Value.slice a5 a5n c5).ownBlock) (hX : w1.heap.size ≤ X := by omega) : Below w1.heap.size w1 w6 := by
  have b1 : Below w1.heap.size w1 ((w1.alloc o0).drew) := ((Below.refl _ _).alloc (Nat.le_refl _) _).drew
  have b2 := b1.grown h5 b1.size (fun k e => by cases e; exact hX)
  have b3 : Below w1.heap.size w1 (w5.alloc o1) := b2.alloc b2.size _
  exact b3.grown h6 b3.size (fun k e => (World.ownsRow.lt ho k e).1)
theorem below_mb {w1 w5 w6 : World} {o0 o1 : Obj} {X a5n : Nat} {a5 : Option Addr} {c5 : Nat} {l : List E8} (h5 : (((w1.alloc o0).alloc o1).drew).grownBy w5 (some X)) (ho : EO w5 w1.heap.size (.slice a5 a5n c5) l) (h6 : w5.grownBy w6 (Value.slice a5 a5n c5).ownBlock) (hX : w1.heap.size ≤ X := by omega) : Below w1.heap.size w1 w6 := by
  have b1 : Below w1.heap.size w1 (((w1.alloc o0).alloc o1).drew) := (((Below.refl _ _).alloc (Nat.le_refl _) _).alloc (by simp) _).drew
  have b2 := b1.grown h5 b1.size (fun k e => by cases e; exact hX)
  exact b2.grown h6 b2.size (fun k e => (World.ownsRow.lt ho k e).1)
theorem below_mc {w1 w5 w6 : World} {o0 o1 : Obj} {X a5n : Nat} {a5 : Option Addr} {c5 : Nat} {l : List E8} (h5 : (((w1.alloc o0).alloc o1).drew).grownBy w5 (some X)) (ho : EO w5 w1.heap.size (.slice a5 a5n c5) l) (h6 : w5.grownBy w6 (Value.slice a5 a5n c5).ownBlock) (hX : w1.heap.size ≤ X := by omega) : Below w1.heap.size w1 w6 := below_mb h5 ho h6 hX


def layE (w : World) (b : Nat) (e : E8) : World := (((((((w.setCell ⟨b, 0, none⟩ (.string e.n)).setCell ⟨b, 1, none⟩ (.string e.v)).setCell ⟨b, 2, none⟩ (.int .i64 e.o)).setCell ⟨b, 3, none⟩ (.bool e.im)).setCell ⟨b, 4, none⟩ (.int .i64 e.a)).setCell ⟨b, 5, none⟩ (.int .i64 e.b)).setCell ⟨b, 6, none⟩ (.int .i64 e.c)).setCell ⟨b, 7, none⟩ (.int .i64 e.k)
set_option maxHeartbeats 2000000 in
theorem BoxE.layEs {w : World} {b : Nat} {t : TypeId} {e : E8} (h : BoxE w b t e) (e' : E8) : BoxE (layE w b e') b t e' := by
  obtain ⟨n, v, o, i, a, bb, c, k⟩ := e
  obtain ⟨n', v', o', i', a', b', c', k'⟩ := e'
  have h0 : BoxE (w.setCell ⟨b, 0, none⟩ (.string n')) b t ⟨n', v, o, i, a, bb, c, k⟩ := heap_setCell_same w b 0 _ t _ h
  have key : ∀ W, BoxE W b t ⟨n', v, o, i, a, bb, c, k⟩ → BoxE (((((((W.setCell ⟨b, 1, none⟩ (.string v')).setCell ⟨b, 2, none⟩ (.int .i64 o')).setCell ⟨b, 3, none⟩ (.bool i')).setCell ⟨b, 4, none⟩ (.int .i64 a')).setCell ⟨b, 5, none⟩ (.int .i64 b')).setCell ⟨b, 6, none⟩ (.int .i64 c')).setCell ⟨b, 7, none⟩ (.int .i64 k')) b t ⟨n', v', o', i', a', b', c', k'⟩ := fun W h => by
    have h1 : BoxE (W.setCell ⟨b, 1, none⟩ (.string v')) b t ⟨n', v', o, i, a, bb, c, k⟩ := heap_setCell_same W b 1 _ t _ h
    generalize W.setCell ⟨b, 1, none⟩ (.string v') = W1 at h1 ⊢
    have h2 : BoxE (W1.setCell ⟨b, 2, none⟩ (.int .i64 o')) b t ⟨n', v', o', i, a, bb, c, k⟩ := heap_setCell_same W1 b 2 _ t _ h1
    generalize W1.setCell ⟨b, 2, none⟩ (.int .i64 o') = W2 at h2 ⊢
    have h3 : BoxE (W2.setCell ⟨b, 3, none⟩ (.bool i')) b t ⟨n', v', o', i', a, bb, c, k⟩ := heap_setCell_same W2 b 3 _ t _ h2
    generalize W2.setCell ⟨b, 3, none⟩ (.bool i') = W3 at h3 ⊢
    have h4 : BoxE (W3.setCell ⟨b, 4, none⟩ (.int .i64 a')) b t ⟨n', v', o', i', a', bb, c, k⟩ := heap_setCell_same W3 b 4 _ t _ h3
    generalize W3.setCell ⟨b, 4, none⟩ (.int .i64 a') = W4 at h4 ⊢
    have h5 : BoxE (W4.setCell ⟨b, 5, none⟩ (.int .i64 b')) b t ⟨n', v', o', i', a', b', c, k⟩ := heap_setCell_same W4 b 5 _ t _ h4
    generalize W4.setCell ⟨b, 5, none⟩ (.int .i64 b') = W5 at h5 ⊢
    have h6 : BoxE (W5.setCell ⟨b, 6, none⟩ (.int .i64 c')) b t ⟨n', v', o', i', a', b', c', k⟩ := heap_setCell_same W5 b 6 _ t _ h5
    generalize W5.setCell ⟨b, 6, none⟩ (.int .i64 c') = W6 at h6 ⊢
    exact heap_setCell_same W6 b 7 _ t _ h6
  exact key _ h0
theorem BoxE.layE {w : World} {b b' : Nat} {t : TypeId} {e : E8} (h : BoxE w b t e) (hne : b ≠ b') (e' : E8) : BoxE (layE w b' e') b t e := by
  unfold C.layE BoxE at *
  simp only [Below.heap_setCell _ ⟨b', _, none⟩ _ b hne]
  exact h
theorem below_layE {n0 : Nat} {w w' : World} (h : Below n0 w w') {b : Nat} (hb : n0 ≤ b) (e : E8) : Below n0 w (layE w' b e) := by
  unfold C.layE
  exact (((((((h.setCell (p := ⟨b, 0, none⟩) hb _).setCell (p := ⟨b, 1, none⟩) hb _).setCell (p := ⟨b, 2, none⟩) hb _).setCell (p := ⟨b, 3, none⟩) hb _).setCell (p := ⟨b, 4, none⟩) hb _).setCell (p := ⟨b, 5, none⟩) hb _).setCell (p := ⟨b, 6, none⟩) hb _).setCell (p := ⟨b, 7, none⟩) hb _
theorem winner_at {W : World} {a : Option Addr} {c n : Nat} {l : List E8} (h : EsAt W a c l) (hn : n = l.length) (hL : n ≤ 900000) (name : ByteArray) {z : E8} {b : Bool} (hz : (winF (l.filter (nmd name)) none).getD zE = z) (hb : (winF (l.filter (nmd name)) none).isSome = b) : Calls Try.prog 18 #[.slice a n c, .string name] W fun e w' => e = .returned (.tuple #[z.val, .bool b]) ∧ Below W.heap.size W w' := by
  subst hn hz hb
  exact winner_any h hL name
set_option maxHeartbeats 8000000 in
theorem more_walk {w : World} {a : Option Addr} {c : Nat} {l : List E8} (h : EsAt w a c l) (hz : ∀ z ∈ l, Szd z) (hlb : l.length * 80 ≤ 140737488351232) {x : E8} (hx : Szd x) (name : ByteArray) : Calls Try.prog 6 #[.slice a l.length c, x.val, .string name] w fun e w' => e = .returned (.bool true) ∧ Below w.heap.size w w' := by
  obtain ⟨xn, xv, xo, xi, xa, xb, xc, xk⟩ := x
  unfold E8.val
  dsimp only
  obtain ⟨w1, hw1⟩ : ∃ w1, w1 = w.alloc (.cells #[.string xn, .string xv, .int .i64 xo, .bool xi, .int .i64 xa, .int .i64 xb, .int .i64 xc, .int .i64 xk] 26) := ⟨_, rfl⟩
  have hb1 : Below w.heap.size w w1 := by rw [hw1]; exact (Below.refl _ _).alloc (Nat.le_refl _) _
  have hx1 : BoxE w1 w.heap.size 26 ⟨xn, xv, xo, xi, xa, xb, xc, xk⟩ := by rw [hw1]; exact alloc_box w 26 ⟨xn, xv, xo, xi, xa, xb, xc, xk⟩
  obtain ⟨L, hL⟩ : ∃ L, L = l ++ [⟨xn, xv, xo, xi, xa, xb, xc, xk⟩] := ⟨_, rfl⟩
  obtain ⟨m, hm⟩ : ∃ m, m = L.length := ⟨_, rfl⟩
  obtain ⟨n, hn⟩ : ∃ n, n = l.length := ⟨_, rfl⟩
  have HL := hid_mk hL
  have HM := hid_mk hm
  have HN := hid_mk hn
  obtain ⟨lb, hlbz⟩ : ∃ lb, lb = lightZ L := ⟨_, rfl⟩
  have hzL : ∀ z ∈ L, Szd z := by
    rw [hL]
    intro z hzm
    rcases List.mem_append.1 hzm with hzm | hzm
    · exact hz z hzm
    · rw [List.mem_singleton.1 hzm]; exact hx
  have HLI : Hid (∀ w' a' c', EsAt w' a' c' L → Calls Try.prog 8 #[.slice a' m c'] w' fun e w'' => e = .returned (.bool lb) ∧ Below w'.heap.size w' w'') := fun w' a' c' he => by
    rw [hlbz, hm]
    exact light_is he hzL
  have HLZ := hid_mk hlbz
  have HLV : Hid (∀ W, Below w.heap.size w W → Calls Try.prog 9 #[] W fun e w' => e = .returned (.bool true) ∧ Below w.heap.size w w') := fun W hW => (lives_any W).mono fun _ _ k => ⟨k.1, hW.trans (k.2.mono hW.size)⟩
  have HH := hid_mk h
  have hes1 : EsAt w1 a c l := h.keep hb1
  have HB1 := hid_mk hb1
  have HX1 := hid_mk hx1
  have HW1 := hid_mk hw1
  have HXA : Hid ((w1.alloc (.cells #[] 26)).drew.heap[w1.heap.size]? = some (.cells #[] 26 (0, 0))) := heap_alloc_last w1 _
  have HEA : Hid (EsAt (w1.alloc (.cells #[] 26)).drew a c l) := hes1.keep ((((Below.refl w1.heap.size w1).alloc (Nat.le_refl _) _).drew))
  have q1 := two_boxes w1 (.cells #[] 26) (.cells #[.string xn, .string xv, .int .i64 xo, .bool xi, .int .i64 xa, .int .i64 xb, .int .i64 xc, .int .i64 xk] 26)
  have q2 := two_boxes w1 (.cells #[.string xn, .string xv, .int .i64 xo, .bool xi, .int .i64 xa, .int .i64 xb, .int .i64 xc, .int .i64 xk] 26) (.cells #[] 26)
  have HXB : Hid (((w1.alloc (.cells #[] 26)).alloc (.cells #[.string xn, .string xv, .int .i64 xo, .bool xi, .int .i64 xa, .int .i64 xb, .int .i64 xc, .int .i64 xk] 26)).drew.heap[w1.heap.size]? = some (.cells #[] 26 (0, 0))) := q1.1
  have HSB : Hid (Src ((w1.alloc (.cells #[] 26)).alloc (.cells #[.string xn, .string xv, .int .i64 xo, .bool xi, .int .i64 xa, .int .i64 xb, .int .i64 xc, .int .i64 xk] 26)).drew (w1.heap.size + 1) ⟨xn, xv, xo, xi, xa, xb, xc, xk⟩) := q1.2.1
  have HEB : Hid (EsAt ((w1.alloc (.cells #[] 26)).alloc (.cells #[.string xn, .string xv, .int .i64 xo, .bool xi, .int .i64 xa, .int .i64 xb, .int .i64 xc, .int .i64 xk] 26)).drew a c l) := hes1.keep q1.2.2
  have HXC : Hid (((w1.alloc (.cells #[.string xn, .string xv, .int .i64 xo, .bool xi, .int .i64 xa, .int .i64 xb, .int .i64 xc, .int .i64 xk] 26)).alloc (.cells #[] 26)).drew.heap[w1.heap.size + 1]? = some (.cells #[] 26 (0, 0))) := q2.2.1
  have HSC : Hid (Src ((w1.alloc (.cells #[.string xn, .string xv, .int .i64 xo, .bool xi, .int .i64 xa, .int .i64 xb, .int .i64 xc, .int .i64 xk] 26)).alloc (.cells #[] 26)).drew w1.heap.size ⟨xn, xv, xo, xi, xa, xb, xc, xk⟩) := q2.1
  have HEC : Hid (EsAt ((w1.alloc (.cells #[.string xn, .string xv, .int .i64 xo, .bool xi, .int .i64 xa, .int .i64 xb, .int .i64 xc, .int .i64 xk] 26)).alloc (.cells #[] 26)).drew a c l) := hes1.keep q2.2.2
  clear q1 q2

  obtain ⟨c0, c1, c2, c3, c4, c5, c6, c7⟩ := hx1.cells
  dsimp only at c0 c1 c2 c3 c4 c5 c6 c7
  have hlt1 := hx1.lt
  clear h hb1 hx1 hw1 hL hm hlbz hzL hes1 hn
  go_enter Try.func6, Try.ntmps6
  go_upto_region 1 with (fail)
  rw [← HW1.out]
  go_cut [25] (fun a25 wx => a25 = .bool (!lb || decide ((1000 : Int) < (name.size : Int))) ∧ Hid (Below w1.heap.size w1 wx))
  case first =>
    cases lb
    · clear HLZ
      first
        | (go_region_law
          ((first
            | (refine step_append_l (by rfl) _ _ (by rfl) (B := w1.heap.size) (X := w1.heap.size) (by rfl) (by rfl) (w := (w1.alloc (.cells #[] 26)).drew) HXA.out (Nat.le_refl _) HEA.out hlb ?_; intro v5 w5 ho5 hg5 ha5; have HS5 : Hid (True) := trivial; obtain ⟨e0, e1, e2, e3, e4, e5, e6, e7⟩ := (box_ma HX1.out hg5 (by omega)).cells; dsimp only at e0 e1 e2 e3 e4 e5 e6 e7; obtain ⟨a5, c5, rfl, hes5⟩ := ho5.es; have HO5 := hid_mk ho5; have HG5 := hid_mk hg5; clear ho5 hg5 ha5 hes5)
            | (refine step_append_l (by rfl) _ _ (by rfl) (B := w1.heap.size) (X := w1.heap.size) (by rfl) (by rfl) (w := ((w1.alloc (.cells #[] 26)).alloc (.cells #[.string xn, .string xv, .int .i64 xo, .bool xi, .int .i64 xa, .int .i64 xb, .int .i64 xc, .int .i64 xk] 26)).drew) HXB.out (Nat.le_refl _) HEB.out hlb ?_; intro v5 w5 ho5 hg5 ha5; have HS5 : Hid (Src w5 (w1.heap.size + 1) ⟨xn, xv, xo, xi, xa, xb, xc, xk⟩) := (hg5.block _ (by simp) (by simp)).trans HSB.out; obtain ⟨e0, e1, e2, e3, e4, e5, e6, e7⟩ := (box_mb HX1.out hg5 (by omega)).cells; dsimp only at e0 e1 e2 e3 e4 e5 e6 e7; obtain ⟨a5, c5, rfl, hes5⟩ := ho5.es; have HO5 := hid_mk ho5; have HG5 := hid_mk hg5; clear ho5 hg5 ha5 hes5)
            | (refine step_append_l (by rfl) _ _ (by rfl) (B := w1.heap.size) (X := w1.heap.size + 1) (by rfl) (by rfl) (w := ((w1.alloc (.cells #[.string xn, .string xv, .int .i64 xo, .bool xi, .int .i64 xa, .int .i64 xb, .int .i64 xc, .int .i64 xk] 26)).alloc (.cells #[] 26)).drew) HXC.out (Nat.le_succ _) HEC.out hlb ?_; intro v5 w5 ho5 hg5 ha5; have HS5 : Hid (Src w5 w1.heap.size ⟨xn, xv, xo, xi, xa, xb, xc, xk⟩) := (hg5.block _ (by simp; omega) (by simp)).trans HSC.out; obtain ⟨e0, e1, e2, e3, e4, e5, e6, e7⟩ := (box_mb HX1.out hg5 (by omega)).cells; dsimp only at e0 e1 e2 e3 e4 e5 e6 e7; obtain ⟨a5, c5, rfl, hes5⟩ := ho5.es; have HO5 := hid_mk ho5; have HG5 := hid_mk hg5; clear ho5 hg5 ha5 hes5)
            | (refine step_append_x (x := ⟨xn, xv, xo, xi, xa, xb, xc, xk⟩) (by rfl) _ _ (by rfl) (B := w1.heap.size) (b := w5.heap.size) (by rfl) (by rfl) (w := w5.alloc (.cells #[.string xn, .string xv, .int .i64 xo, .bool xi, .int .i64 xa, .int .i64 xb, .int .i64 xc, .int .i64 xk] 26)) (ownsRow_below HO5.out ((Below.refl _ _).alloc (Nat.le_refl _) _)) (heap_alloc_last w5 _) hlb (by have := HG5.out.size; simp at this ⊢; omega) ?_; intro v6 w6 ho6 hg6; rw [← HL.out] at ho6; obtain ⟨a6, c6, rfl, hes6⟩ := ho6.es; rw [← HM.out]; have HE6 := hid_mk hes6; have HB6 : Hid (Below w1.heap.size w1 w6) := below_ma HG5.out HO5.out hg6; clear ho6 hg6 hes6)
            | (refine step_append_x (x := ⟨xn, xv, xo, xi, xa, xb, xc, xk⟩) (by rfl) _ _ (by rfl) (B := w1.heap.size) (b := w1.heap.size + 1) (by rfl) (by rfl) (w := w5) HO5.out HS5.out hlb (by have := HG5.out.size; simp at this ⊢; omega) ?_; intro v6 w6 ho6 hg6; rw [← HL.out] at ho6; obtain ⟨a6, c6, rfl, hes6⟩ := ho6.es; rw [← HM.out]; have HE6 := hid_mk hes6; have HB6 : Hid (Below w1.heap.size w1 w6) := below_mb HG5.out HO5.out hg6; clear ho6 hg6 hes6)
            | (refine step_append_x (x := ⟨xn, xv, xo, xi, xa, xb, xc, xk⟩) (by rfl) _ _ (by rfl) (B := w1.heap.size) (b := w1.heap.size) (by rfl) (by rfl) (w := w5) HO5.out HS5.out hlb (by have := HG5.out.size; simp at this ⊢; omega) ?_; intro v6 w6 ho6 hg6; rw [← HL.out] at ho6; obtain ⟨a6, c6, rfl, hes6⟩ := ho6.es; rw [← HM.out]; have HE6 := hid_mk hes6; have HB6 : Hid (Below w1.heap.size w1 w6) := below_mc HG5.out HO5.out hg6; clear ho6 hg6 hes6)
            | (go_simp; go_at_call 8; refine (HLI.out w6 a6 c6 HE6.out).mono ?_; rintro e w7 ⟨rfl, hb7⟩; have HB7 : Hid (Below w1.heap.size w1 w7) := HB6.out.trans (hb7.mono HB6.out.size); clear hb7)))
           all_goals go_wp2_with fail
           all_goals go_meet
           all_goals exact ⟨rfl, HB7⟩)
        | fail
    · clear HLZ
      first
        | (go_region_law
          ((first
            | (refine step_append_l (by rfl) _ _ (by rfl) (B := w1.heap.size) (X := w1.heap.size) (by rfl) (by rfl) (w := (w1.alloc (.cells #[] 26)).drew) HXA.out (Nat.le_refl _) HEA.out hlb ?_; intro v5 w5 ho5 hg5 ha5; have HS5 : Hid (True) := trivial; obtain ⟨e0, e1, e2, e3, e4, e5, e6, e7⟩ := (box_ma HX1.out hg5 (by omega)).cells; dsimp only at e0 e1 e2 e3 e4 e5 e6 e7; obtain ⟨a5, c5, rfl, hes5⟩ := ho5.es; have HO5 := hid_mk ho5; have HG5 := hid_mk hg5; clear ho5 hg5 ha5 hes5)
            | (refine step_append_l (by rfl) _ _ (by rfl) (B := w1.heap.size) (X := w1.heap.size) (by rfl) (by rfl) (w := ((w1.alloc (.cells #[] 26)).alloc (.cells #[.string xn, .string xv, .int .i64 xo, .bool xi, .int .i64 xa, .int .i64 xb, .int .i64 xc, .int .i64 xk] 26)).drew) HXB.out (Nat.le_refl _) HEB.out hlb ?_; intro v5 w5 ho5 hg5 ha5; have HS5 : Hid (Src w5 (w1.heap.size + 1) ⟨xn, xv, xo, xi, xa, xb, xc, xk⟩) := (hg5.block _ (by simp) (by simp)).trans HSB.out; obtain ⟨e0, e1, e2, e3, e4, e5, e6, e7⟩ := (box_mb HX1.out hg5 (by omega)).cells; dsimp only at e0 e1 e2 e3 e4 e5 e6 e7; obtain ⟨a5, c5, rfl, hes5⟩ := ho5.es; have HO5 := hid_mk ho5; have HG5 := hid_mk hg5; clear ho5 hg5 ha5 hes5)
            | (refine step_append_l (by rfl) _ _ (by rfl) (B := w1.heap.size) (X := w1.heap.size + 1) (by rfl) (by rfl) (w := ((w1.alloc (.cells #[.string xn, .string xv, .int .i64 xo, .bool xi, .int .i64 xa, .int .i64 xb, .int .i64 xc, .int .i64 xk] 26)).alloc (.cells #[] 26)).drew) HXC.out (Nat.le_succ _) HEC.out hlb ?_; intro v5 w5 ho5 hg5 ha5; have HS5 : Hid (Src w5 w1.heap.size ⟨xn, xv, xo, xi, xa, xb, xc, xk⟩) := (hg5.block _ (by simp; omega) (by simp)).trans HSC.out; obtain ⟨e0, e1, e2, e3, e4, e5, e6, e7⟩ := (box_mb HX1.out hg5 (by omega)).cells; dsimp only at e0 e1 e2 e3 e4 e5 e6 e7; obtain ⟨a5, c5, rfl, hes5⟩ := ho5.es; have HO5 := hid_mk ho5; have HG5 := hid_mk hg5; clear ho5 hg5 ha5 hes5)
            | (refine step_append_x (x := ⟨xn, xv, xo, xi, xa, xb, xc, xk⟩) (by rfl) _ _ (by rfl) (B := w1.heap.size) (b := w5.heap.size) (by rfl) (by rfl) (w := w5.alloc (.cells #[.string xn, .string xv, .int .i64 xo, .bool xi, .int .i64 xa, .int .i64 xb, .int .i64 xc, .int .i64 xk] 26)) (ownsRow_below HO5.out ((Below.refl _ _).alloc (Nat.le_refl _) _)) (heap_alloc_last w5 _) hlb (by have := HG5.out.size; simp at this ⊢; omega) ?_; intro v6 w6 ho6 hg6; rw [← HL.out] at ho6; obtain ⟨a6, c6, rfl, hes6⟩ := ho6.es; rw [← HM.out]; have HE6 := hid_mk hes6; have HB6 : Hid (Below w1.heap.size w1 w6) := below_ma HG5.out HO5.out hg6; clear ho6 hg6 hes6)
            | (refine step_append_x (x := ⟨xn, xv, xo, xi, xa, xb, xc, xk⟩) (by rfl) _ _ (by rfl) (B := w1.heap.size) (b := w1.heap.size + 1) (by rfl) (by rfl) (w := w5) HO5.out HS5.out hlb (by have := HG5.out.size; simp at this ⊢; omega) ?_; intro v6 w6 ho6 hg6; rw [← HL.out] at ho6; obtain ⟨a6, c6, rfl, hes6⟩ := ho6.es; rw [← HM.out]; have HE6 := hid_mk hes6; have HB6 : Hid (Below w1.heap.size w1 w6) := below_mb HG5.out HO5.out hg6; clear ho6 hg6 hes6)
            | (refine step_append_x (x := ⟨xn, xv, xo, xi, xa, xb, xc, xk⟩) (by rfl) _ _ (by rfl) (B := w1.heap.size) (b := w1.heap.size) (by rfl) (by rfl) (w := w5) HO5.out HS5.out hlb (by have := HG5.out.size; simp at this ⊢; omega) ?_; intro v6 w6 ho6 hg6; rw [← HL.out] at ho6; obtain ⟨a6, c6, rfl, hes6⟩ := ho6.es; rw [← HM.out]; have HE6 := hid_mk hes6; have HB6 : Hid (Below w1.heap.size w1 w6) := below_mc HG5.out HO5.out hg6; clear ho6 hg6 hes6)
            | (go_simp; go_at_call 8; refine (HLI.out w6 a6 c6 HE6.out).mono ?_; rintro e w7 ⟨rfl, hb7⟩; have HB7 : Hid (Below w1.heap.size w1 w7) := HB6.out.trans (hb7.mono HB6.out.size); clear hb7)))
           all_goals go_wp2_with fail
           all_goals go_meet
           all_goals exact ⟨by simp, HB7⟩)
        | fail
  case rest =>
  obtain ⟨rfl, HBC⟩ := hcut
  have HBW : Hid (Below w.heap.size w wc) := HB1.out.trans (HBC.out.mono HB1.out.size)
  have HXC2 : Hid (BoxE wc w.heap.size 26 ⟨xn, xv, xo, xi, xa, xb, xc, xk⟩) := HX1.out.keep HBC.out
  clear c0 c1 c2 c3 c4 c5 c6 c7 hlt1 HXA HEA HXB HSB HEB HXC HSC HEC HLI HBC HX1 HW1 HB1
  by_cases hgo : (!lb || decide ((1000 : Int) < (name.size : Int))) = true
  · rw [hgo]
    have hlv := HBW.out
    go_wp2_with (go_at_call 9; fail)
    refine (HLV.out wc HBW.out).mono ?_
    rintro e wl ⟨rfl, hBl⟩
    have HBl := hid_mk hBl
    clear hBl
    go_wp2
    go_ret
    exact ⟨rfl, HBl.out⟩

  have hgo2 := Bool.eq_false_iff.2 hgo
  rw [hgo2]
  have hm100 : m ≤ 100 := by
    have h1 : lb = true := by cases lb <;> simp at hgo2 ⊢
    have h2 := HLZ.out
    rw [h1] at h2
    have h3 : wtL L ≤ 100 := of_decide_eq_true h2.symm
    have h4 := wtL_len L
    have := HM.out
    omega
  have hnm1 : n + 1 = m := by rw [HM.out, HL.out, HN.out]; simp
  have HNB : Hid (l.length ≤ 900000 ∧ m ≤ 900000) := ⟨by have := HN.out; omega, by omega⟩
  clear hgo hgo2 hm100 hnm1 HLZ
  have hesc : EsAt wc a c l := HH.out.keep HBW.out
  have HXA : Hid ((wc.alloc (.cells #[] 26)).drew.heap[wc.heap.size]? = some (.cells #[] 26 (0, 0))) := heap_alloc_last wc _
  have HEA : Hid (EsAt (wc.alloc (.cells #[] 26)).drew a c l) := hesc.keep ((((Below.refl wc.heap.size wc).alloc (Nat.le_refl _) _).drew))
  have q1 := two_boxes wc (.cells #[] 26) (.cells #[.string xn, .string xv, .int .i64 xo, .bool xi, .int .i64 xa, .int .i64 xb, .int .i64 xc, .int .i64 xk] 26)
  have q2 := two_boxes wc (.cells #[.string xn, .string xv, .int .i64 xo, .bool xi, .int .i64 xa, .int .i64 xb, .int .i64 xc, .int .i64 xk] 26) (.cells #[] 26)
  have HXB : Hid (((wc.alloc (.cells #[] 26)).alloc (.cells #[.string xn, .string xv, .int .i64 xo, .bool xi, .int .i64 xa, .int .i64 xb, .int .i64 xc, .int .i64 xk] 26)).drew.heap[wc.heap.size]? = some (.cells #[] 26 (0, 0))) := q1.1
  have HSB : Hid (Src ((wc.alloc (.cells #[] 26)).alloc (.cells #[.string xn, .string xv, .int .i64 xo, .bool xi, .int .i64 xa, .int .i64 xb, .int .i64 xc, .int .i64 xk] 26)).drew (wc.heap.size + 1) ⟨xn, xv, xo, xi, xa, xb, xc, xk⟩) := q1.2.1
  have HEB : Hid (EsAt ((wc.alloc (.cells #[] 26)).alloc (.cells #[.string xn, .string xv, .int .i64 xo, .bool xi, .int .i64 xa, .int .i64 xb, .int .i64 xc, .int .i64 xk] 26)).drew a c l) := hesc.keep q1.2.2
  have HXC : Hid (((wc.alloc (.cells #[.string xn, .string xv, .int .i64 xo, .bool xi, .int .i64 xa, .int .i64 xb, .int .i64 xc, .int .i64 xk] 26)).alloc (.cells #[] 26)).drew.heap[wc.heap.size + 1]? = some (.cells #[] 26 (0, 0))) := q2.2.1
  have HSC : Hid (Src ((wc.alloc (.cells #[.string xn, .string xv, .int .i64 xo, .bool xi, .int .i64 xa, .int .i64 xb, .int .i64 xc, .int .i64 xk] 26)).alloc (.cells #[] 26)).drew wc.heap.size ⟨xn, xv, xo, xi, xa, xb, xc, xk⟩) := q2.1
  have HEC : Hid (EsAt ((wc.alloc (.cells #[.string xn, .string xv, .int .i64 xo, .bool xi, .int .i64 xa, .int .i64 xb, .int .i64 xc, .int .i64 xk] 26)).alloc (.cells #[] 26)).drew a c l) := hesc.keep q2.2.2
  clear q1 q2

  obtain ⟨c0, c1, c2, c3, c4, c5, c6, c7⟩ := HXC2.out.cells
  dsimp only at c0 c1 c2 c3 c4 c5 c6 c7
  have hlt1 := HXC2.out.lt
  clear hesc
  generalize wc = w0 at *
  go_upto_region 3 with (fail)
  go_cut [7] (fun a7 wx => ∃ ra rc, a7 = .slice ra m rc ∧ Hid (EsAt wx ra rc L) ∧ Hid (Below w0.heap.size w0 wx))
  case first =>
    first
      | (go_region_law
        ((first
          | (refine step_append_l (by rfl) _ _ (by rfl) (B := w0.heap.size) (X := w0.heap.size) (by rfl) (by rfl) (w := (w0.alloc (.cells #[] 26)).drew) HXA.out (Nat.le_refl _) HEA.out hlb ?_; intro v5 w5 ho5 hg5 ha5; have HS5 : Hid (True) := trivial; obtain ⟨e0, e1, e2, e3, e4, e5, e6, e7⟩ := (box_ma HXC2.out hg5 (by omega)).cells; dsimp only at e0 e1 e2 e3 e4 e5 e6 e7; obtain ⟨a5, c5, rfl, hes5⟩ := ho5.es; have HO5 := hid_mk ho5; have HG5 := hid_mk hg5; clear ho5 hg5 ha5 hes5)
          | (refine step_append_l (by rfl) _ _ (by rfl) (B := w0.heap.size) (X := w0.heap.size) (by rfl) (by rfl) (w := ((w0.alloc (.cells #[] 26)).alloc (.cells #[.string xn, .string xv, .int .i64 xo, .bool xi, .int .i64 xa, .int .i64 xb, .int .i64 xc, .int .i64 xk] 26)).drew) HXB.out (Nat.le_refl _) HEB.out hlb ?_; intro v5 w5 ho5 hg5 ha5; have HS5 : Hid (Src w5 (w0.heap.size + 1) ⟨xn, xv, xo, xi, xa, xb, xc, xk⟩) := (hg5.block _ (by simp) (by simp)).trans HSB.out; obtain ⟨e0, e1, e2, e3, e4, e5, e6, e7⟩ := (box_mb HXC2.out hg5 (by omega)).cells; dsimp only at e0 e1 e2 e3 e4 e5 e6 e7; obtain ⟨a5, c5, rfl, hes5⟩ := ho5.es; have HO5 := hid_mk ho5; have HG5 := hid_mk hg5; clear ho5 hg5 ha5 hes5)
          | (refine step_append_l (by rfl) _ _ (by rfl) (B := w0.heap.size) (X := w0.heap.size + 1) (by rfl) (by rfl) (w := ((w0.alloc (.cells #[.string xn, .string xv, .int .i64 xo, .bool xi, .int .i64 xa, .int .i64 xb, .int .i64 xc, .int .i64 xk] 26)).alloc (.cells #[] 26)).drew) HXC.out (Nat.le_succ _) HEC.out hlb ?_; intro v5 w5 ho5 hg5 ha5; have HS5 : Hid (Src w5 w0.heap.size ⟨xn, xv, xo, xi, xa, xb, xc, xk⟩) := (hg5.block _ (by simp; omega) (by simp)).trans HSC.out; obtain ⟨e0, e1, e2, e3, e4, e5, e6, e7⟩ := (box_mb HXC2.out hg5 (by omega)).cells; dsimp only at e0 e1 e2 e3 e4 e5 e6 e7; obtain ⟨a5, c5, rfl, hes5⟩ := ho5.es; have HO5 := hid_mk ho5; have HG5 := hid_mk hg5; clear ho5 hg5 ha5 hes5)
          | (refine step_append_x (x := ⟨xn, xv, xo, xi, xa, xb, xc, xk⟩) (by rfl) _ _ (by rfl) (B := w0.heap.size) (b := w5.heap.size) (by rfl) (by rfl) (w := w5.alloc (.cells #[.string xn, .string xv, .int .i64 xo, .bool xi, .int .i64 xa, .int .i64 xb, .int .i64 xc, .int .i64 xk] 26)) (ownsRow_below HO5.out ((Below.refl _ _).alloc (Nat.le_refl _) _)) (heap_alloc_last w5 _) hlb (by have := HG5.out.size; simp at this ⊢; omega) ?_; intro v6 w6 ho6 hg6; rw [← HL.out] at ho6; obtain ⟨a6, c6, rfl, hes6⟩ := ho6.es; rw [← HM.out]; have HE6 := hid_mk hes6; have HB6 : Hid (Below w0.heap.size w0 w6) := below_ma HG5.out HO5.out hg6; clear ho6 hg6 hes6)
          | (refine step_append_x (x := ⟨xn, xv, xo, xi, xa, xb, xc, xk⟩) (by rfl) _ _ (by rfl) (B := w0.heap.size) (b := w0.heap.size + 1) (by rfl) (by rfl) (w := w5) HO5.out HS5.out hlb (by have := HG5.out.size; simp at this ⊢; omega) ?_; intro v6 w6 ho6 hg6; rw [← HL.out] at ho6; obtain ⟨a6, c6, rfl, hes6⟩ := ho6.es; rw [← HM.out]; have HE6 := hid_mk hes6; have HB6 : Hid (Below w0.heap.size w0 w6) := below_mb HG5.out HO5.out hg6; clear ho6 hg6 hes6)
          | (refine step_append_x (x := ⟨xn, xv, xo, xi, xa, xb, xc, xk⟩) (by rfl) _ _ (by rfl) (B := w0.heap.size) (b := w0.heap.size) (by rfl) (by rfl) (w := w5) HO5.out HS5.out hlb (by have := HG5.out.size; simp at this ⊢; omega) ?_; intro v6 w6 ho6 hg6; rw [← HL.out] at ho6; obtain ⟨a6, c6, rfl, hes6⟩ := ho6.es; rw [← HM.out]; have HE6 := hid_mk hes6; have HB6 : Hid (Below w0.heap.size w0 w6) := below_mc HG5.out HO5.out hg6; clear ho6 hg6 hes6)))
         all_goals go_wp2_with fail
         all_goals go_meet
         all_goals exact ⟨_, _, rfl, HE6, HB6⟩)
      | fail
  case rest =>
  obtain ⟨ra, rc, rfl, HE6, HBC⟩ := hcut
  have HB2 : Hid (Below w.heap.size w wc) := HBW.out.trans (HBC.out.mono HBW.out.size)
  have HX2 : Hid (BoxE wc w.heap.size 26 ⟨xn, xv, xo, xi, xa, xb, xc, xk⟩) := HXC2.out.keep HBC.out
  clear c0 c1 c2 c3 c4 c5 c6 c7 hlt1 HXA HEA HXB HSB HEB HXC HSC HEC HBC HXC2 HBW
  obtain ⟨zp, hzp⟩ : ∃ z, (winF (l.filter (nmd name)) none).getD zE = z := ⟨_, rfl⟩
  obtain ⟨bp, hbp⟩ : ∃ b, (winF (l.filter (nmd name)) none).isSome = b := ⟨_, rfl⟩
  obtain ⟨zq, hzq⟩ : ∃ z, (winF (L.filter (nmd name)) none).getD zE = z := ⟨_, rfl⟩
  obtain ⟨bq, hbq⟩ : ∃ b, (winF (L.filter (nmd name)) none).isSome = b := ⟨_, rfl⟩
  have HC1 : Hid (Calls Try.prog 18 #[.slice a l.length c, .string name] wc fun e w' => e = .returned (.tuple #[zp.val, .bool bp]) ∧ Below wc.heap.size wc w') := winner_at (HH.out.keep HB2.out) rfl HNB.out.1 name hzp hbp
  have HC2 : Hid (∀ W, Below wc.heap.size wc W → Calls Try.prog 18 #[.slice ra m rc, .string name] W fun e w' => e = .returned (.tuple #[zq.val, .bool bq]) ∧ Below W.heap.size W w') := fun W hW => winner_at (HE6.out.keep hW) HM.out HNB.out.2 name hzq hbq
  have HNE : Hid (nmd name ⟨xn, xv, xo, xi, xa, xb, xc, xk⟩ = false → zq = zp ∧ bq = bp) := fun hne => by
    have hf : L.filter (nmd name) = l.filter (nmd name) := by
      rw [HL.out, List.filter_append]
      have : ([⟨xn, xv, xo, xi, xa, xb, xc, xk⟩] : List E8).filter (nmd name) = [] := by simp only [List.filter_cons, List.filter_nil, hne, Bool.false_eq_true, if_false]
      rw [this, List.append_nil]
    rw [hf] at hzq hbq
    exact ⟨hzq.symm.trans hzp, hbq.symm.trans hbp⟩
  have HEQ : Hid (nmd name ⟨xn, xv, xo, xi, xa, xb, xc, xk⟩ = true → bq = true ∧ ((bp = true ∧ lessE ⟨xn, xv, xo, xi, xa, xb, xc, xk⟩ zp = true → zq = zp) ∧ (¬ (bp = true ∧ lessE ⟨xn, xv, xo, xi, xa, xb, xc, xk⟩ zp = true) → zq = ⟨xn, xv, xo, xi, xa, xb, xc, xk⟩))) := fun he => by
    have hf : L.filter (nmd name) = l.filter (nmd name) ++ [⟨xn, xv, xo, xi, xa, xb, xc, xk⟩] := by
      rw [HL.out, List.filter_append]
      have : ([⟨xn, xv, xo, xi, xa, xb, xc, xk⟩] : List E8).filter (nmd name) = [⟨xn, xv, xo, xi, xa, xb, xc, xk⟩] := by simp only [List.filter_cons, List.filter_nil, he, if_true]
      rw [this]
    rw [hf, winF_app] at hzq hbq
    cases hw : winF (l.filter (nmd name)) none with
    | none =>
      rw [hw] at hzq hbq hzp hbp
      refine ⟨hbq.symm, fun h => ?_, fun _ => hzq.symm⟩
      rw [← hbp] at h
      simp at h
    | some t =>
      rw [hw] at hzq hbq hzp hbp
      have ht : t = zp := hzp
      subst ht
      simp only [winF] at hzq hbq
      refine ⟨hbq.symm, fun h => ?_, fun h => ?_⟩
      · rw [if_pos h.2] at hzq
        exact hzq.symm
      · rw [if_neg (fun h2 => h ⟨hbp.symm, h2⟩)] at hzq
        exact hzq.symm
  have HLS : Hid (∀ W, Calls Try.prog 12 #[.agg #[.string xn, .string xv, .int .i64 xo, .bool xi, .int .i64 xa, .int .i64 xb, .int .i64 xc, .int .i64 xk], zp.val] W fun e w' => e = .returned (.bool (lessE ⟨xn, xv, xo, xi, xa, xb, xc, xk⟩ zp)) ∧ Below W.heap.size W w') := fun W => less_any W ⟨xn, xv, xo, xi, xa, xb, xc, xk⟩ zp
  obtain ⟨lx, hlx⟩ : ∃ lx, lx = lessE ⟨xn, xv, xo, xi, xa, xb, xc, xk⟩ zp := ⟨_, rfl⟩
  rw [← hlx] at HEQ HLS
  clear hzp hbp hzq hbq hlx
  obtain ⟨pn, pv, po, pi, qa, qb, pc, pk⟩ := zp
  obtain ⟨rn, rv, ro, ri, sa, sb, sc, rk⟩ := zq
  unfold E8.val at HC1 HC2 HLS
  dsimp only at HC1 HC2 HLS
  have hc1 := HC1.out
  go_wp2_with (go_at_call 18; fail)
  refine hc1.mono ?_
  rintro e w4 ⟨rfl, hB4⟩
  obtain ⟨w5, hw5⟩ : ∃ w5, w5 = w4.alloc (.cells #[.string pn, .string pv, .int .i64 po, .bool pi, .int .i64 qa, .int .i64 qb, .int .i64 pc, .int .i64 pk] 26) := ⟨_, rfl⟩
  have HX4 : Hid (Below wc.heap.size wc w5) := by rw [hw5]; exact hB4.alloc hB4.size _
  have HP4 : Hid (BoxE w5 w4.heap.size 26 ⟨pn, pv, po, pi, qa, qb, pc, pk⟩) := by rw [hw5]; exact alloc_box w4 26 ⟨pn, pv, po, pi, qa, qb, pc, pk⟩
  have HW5 := hid_mk hw5
  clear hc1 HC1 hw5 hB4
  go_upto_region 5 with (fail)
  rw [← HW5.out]
  obtain ⟨p8, hp8⟩ : ∃ p8, p8 = w4.heap.size := ⟨_, rfl⟩
  rw [← hp8] at HP4 ⊢
  clear hp8 HW5
  have hc2 := HC2.out w5 HX4.out
  go_wp2_with (go_at_call 18; fail)
  refine hc2.mono ?_
  rintro e w6 ⟨rfl, hB6⟩
  obtain ⟨w7, hw7⟩ : ∃ w7, w7 = w6.alloc (.cells #[.string rn, .string rv, .int .i64 ro, .bool ri, .int .i64 sa, .int .i64 sb, .int .i64 sc, .int .i64 rk] 26) := ⟨_, rfl⟩
  have hB57 : Below w5.heap.size w5 w7 := by rw [hw7]; exact hB6.alloc hB6.size _
  have HX7 : Hid (BoxE w7 w.heap.size 26 ⟨xn, xv, xo, xi, xa, xb, xc, xk⟩) := HX2.out.keep (HX4.out.trans (hB57.mono HX4.out.size))
  have HP7 : Hid (BoxE w7 p8 26 ⟨pn, pv, po, pi, qa, qb, pc, pk⟩) := HP4.out.keep hB57
  have HR7 : Hid (BoxE w7 w6.heap.size 26 ⟨rn, rv, ro, ri, sa, sb, sc, rk⟩) := by rw [hw7]; exact alloc_box w6 26 ⟨rn, rv, ro, ri, sa, sb, sc, rk⟩
  have HB7 : Hid (Below w.heap.size w w7) := HB2.out.trans ((HX4.out.trans (hB57.mono HX4.out.size)).mono HB2.out.size)
  have HW7 := hid_mk hw7
  clear hc2 HC2 hw7 hB57 hB6
  go_upto_region 6 with (fail)
  rw [← HW7.out]
  obtain ⟨p9, hp9⟩ : ∃ p9, p9 = w6.heap.size := ⟨_, rfl⟩
  rw [← hp9] at HR7 ⊢
  obtain ⟨p0, hp0⟩ : ∃ p0, p0 = w.heap.size := ⟨_, rfl⟩
  rw [← hp0] at HX7 ⊢
  have HP0 : Hid (p0 = w.heap.size) := hp0
  clear hp9 hp0 HW7 HP4 HX4 HX2 HB2 HE6
  obtain ⟨c0, c1, c2, c3, c4, c5, c6, c7⟩ := HX7.out.cells
  obtain ⟨d0, d1, d2, d3, d4, d5, d6, d7⟩ := HP7.out.cells
  obtain ⟨f0, f1, f2, f3, f4, f5, f6, f7⟩ := HR7.out.cells
  dsimp only at c0 c1 c2 c3 c4 c5 c6 c7 d0 d1 d2 d3 d4 d5 d6 d7 f0 f1 f2 f3 f4 f5 f6 f7
  cases hne : nmd name ⟨xn, xv, xo, xi, xa, xb, xc, xk⟩
  case true =>
    obtain ⟨rfl, hq1, hq2⟩ := HEQ.out hne
    have hnb1 : (xn.toList == name.toList) = true := hne
    have hnb2 : (name.toList == xn.toList) = true := by rw [BEq.comm]; exact hne
    clear hne
    clear HEQ HNE
    obtain ⟨w8, hw8⟩ : ∃ w8, w8 = w7.alloc (.cells #[.string xn, .string xv, .int .i64 xo, .bool xi, .int .i64 xa, .int .i64 xb, .int .i64 xc, .int .i64 xk] 26) := ⟨_, rfl⟩
    have hB8 : Below w7.heap.size w7 w8 := by rw [hw8]; exact (Below.refl _ _).alloc (Nat.le_refl _) _
    have HX8 : Hid (BoxE w8 p0 26 ⟨xn, xv, xo, xi, xa, xb, xc, xk⟩) := HX7.out.keep hB8
    have HP8 : Hid (BoxE w8 p8 26 ⟨pn, pv, po, pi, qa, qb, pc, pk⟩) := HP7.out.keep hB8
    have HR8 : Hid (BoxE w8 p9 26 ⟨rn, rv, ro, ri, sa, sb, sc, rk⟩) := HR7.out.keep hB8
    have HD8 : Hid (BoxE w8 w7.heap.size 26 ⟨xn, xv, xo, xi, xa, xb, xc, xk⟩) := by rw [hw8]; exact alloc_box w7 26 ⟨xn, xv, xo, xi, xa, xb, xc, xk⟩
    have HB8 : Hid (Below w.heap.size w w8) := HB7.out.trans (hB8.mono HB7.out.size)
    have HG : Hid (w.heap.size ≤ w7.heap.size ∧ p0 < w7.heap.size ∧ p8 < w7.heap.size ∧ p9 < w7.heap.size) := ⟨HB7.out.size, HX7.out.lt, HP7.out.lt, HR7.out.lt⟩
    have HW8 := hid_mk hw8
    clear hw8 hB8
    go_upto_region 9 with (fail)
    rw [← HW8.out]
    obtain ⟨p2, hp2⟩ : ∃ p2, p2 = w7.heap.size := ⟨_, rfl⟩
    rw [← hp2] at HD8 HG ⊢
    clear hp2 HW8 HB7 HX7 HP7 HR7 c0 c1 c2 c3 c4 c5 c6 c7 d0 d1 d2 d3 d4 d5 d6 d7 f0 f1 f2 f3 f4 f5 f6 f7
    obtain ⟨c0, c1, c2, c3, c4, c5, c6, c7⟩ := HX8.out.cells
    obtain ⟨d0, d1, d2, d3, d4, d5, d6, d7⟩ := HP8.out.cells
    dsimp only at c0 c1 c2 c3 c4 c5 c6 c7 d0 d1 d2 d3 d4 d5 d6 d7
    cases bp
    · have he := hq2 (by simp)
      have hfin : Hid (BoxE w8 p2 26 ⟨rn, rv, ro, ri, sa, sb, sc, rk⟩ ∧ BoxE w8 p9 26 ⟨rn, rv, ro, ri, sa, sb, sc, rk⟩ ∧ Below w.heap.size w w8) := by
        rw [he] at HR8 ⊢
        exact ⟨HD8.out, HR8.out, HB8.out⟩
      go_upto_region 11 with (fail)
      clear c0 c1 c2 c3 c4 c5 c6 c7 d0 d1 d2 d3 d4 d5 d6 d7 hq1 hq2 HX8 HP8 HR8 HD8 HB8
      obtain ⟨hd, hr, hb⟩ := hfin.out
      obtain ⟨c0, c1, c2, c3, c4, c5, c6, c7⟩ := hd.cells
      obtain ⟨d0, d1, d2, d3, d4, d5, d6, d7⟩ := hr.cells
      dsimp only at c0 c1 c2 c3 c4 c5 c6 c7 d0 d1 d2 d3 d4 d5 d6 d7
      have HBF := hid_mk hb
      clear hd hr hb hfin
      go_wp2_with (go_at_call 9; fail)
      refine (HLV.out w8 HBF.out).mono ?_
      rintro e wl ⟨rfl, hBl⟩
      have HBl := hid_mk hBl
      clear hBl
      go_wp2
      go_ret
      exact ⟨rfl, HBl.out⟩
    · go_wp2_with (go_at_call 12; fail)
      refine (HLS.out _).mono ?_
      rintro e w9 ⟨rfl, hB9⟩
      have HB9 : Hid (Below w.heap.size w w9) := HB8.out.trans (hB9.mono HB8.out.size)
      have HD9 : Hid (BoxE w9 p2 26 ⟨xn, xv, xo, xi, xa, xb, xc, xk⟩) := HD8.out.keep hB9
      have HP9 : Hid (BoxE w9 p8 26 ⟨pn, pv, po, pi, qa, qb, pc, pk⟩) := HP8.out.keep hB9
      have HR9 : Hid (BoxE w9 p9 26 ⟨rn, rv, ro, ri, sa, sb, sc, rk⟩) := HR8.out.keep hB9
      clear c0 c1 c2 c3 c4 c5 c6 c7 d0 d1 d2 d3 d4 d5 d6 d7 hB9
      cases lx
      · have he := hq2 (by simp)
        have hfin : Hid (BoxE w9 p2 26 ⟨rn, rv, ro, ri, sa, sb, sc, rk⟩ ∧ BoxE w9 p9 26 ⟨rn, rv, ro, ri, sa, sb, sc, rk⟩ ∧ Below w.heap.size w w9) := by
          rw [he] at HR9 ⊢
          exact ⟨HD9.out, HR9.out, HB9.out⟩
        go_upto_region 11 with (fail)
        clear hq1 hq2 HX8 HP8 HR8 HD8 HB8 HB9 HD9 HP9 HR9
        obtain ⟨hd, hr, hb⟩ := hfin.out
        obtain ⟨c0, c1, c2, c3, c4, c5, c6, c7⟩ := hd.cells
        obtain ⟨d0, d1, d2, d3, d4, d5, d6, d7⟩ := hr.cells
        dsimp only at c0 c1 c2 c3 c4 c5 c6 c7 d0 d1 d2 d3 d4 d5 d6 d7
        have HBF := hid_mk hb
        clear hd hr hb hfin
        go_wp2_with (go_at_call 9; fail)
        refine (HLV.out w9 HBF.out).mono ?_
        rintro e wl ⟨rfl, hBl⟩
        have HBl := hid_mk hBl
        clear hBl
        go_wp2
        go_ret
        exact ⟨rfl, HBl.out⟩
      · have he := hq1 (by simp)
        obtain ⟨wA, hwA⟩ : ∃ wA, wA = layE w9 p2 ⟨pn, pv, po, pi, qa, qb, pc, pk⟩ := ⟨_, rfl⟩
        have hfin : Hid (BoxE wA p2 26 ⟨rn, rv, ro, ri, sa, sb, sc, rk⟩ ∧ BoxE wA p9 26 ⟨rn, rv, ro, ri, sa, sb, sc, rk⟩ ∧ Below w.heap.size w wA) := by
          rw [hwA]
          refine ⟨?_, HR9.out.layE (by have := HG.out; omega) _, below_layE HB9.out HG.out.1 _⟩
          rw [he]
          exact HD9.out.layEs _
        have HWA := hid_mk hwA
        obtain ⟨c0, c1, c2, c3, c4, c5, c6, c7⟩ := HD9.out.cells
        obtain ⟨d0, d1, d2, d3, d4, d5, d6, d7⟩ := HP9.out.cells
        dsimp only at c0 c1 c2 c3 c4 c5 c6 c7 d0 d1 d2 d3 d4 d5 d6 d7
        have hfr := HD9.out.free
        have hn1 : ¬ p2 = p8 := by have := HG.out; omega
        have hn2 : ¬ p8 = p2 := by have := HG.out; omega
        unfold layE at HWA
        dsimp only at HWA
        clear hwA hq1 hq2
        go_upto_region 11 with (fail)
        rw [← HWA.out]
        clear c0 c1 c2 c3 c4 c5 c6 c7 d0 d1 d2 d3 d4 d5 d6 d7 hfr hn1 hn2 HWA HX8 HP8 HR8 HD8 HB8 HB9 HD9 HP9 HR9
        obtain ⟨hd, hr, hb⟩ := hfin.out
        obtain ⟨c0, c1, c2, c3, c4, c5, c6, c7⟩ := hd.cells
        obtain ⟨d0, d1, d2, d3, d4, d5, d6, d7⟩ := hr.cells
        dsimp only at c0 c1 c2 c3 c4 c5 c6 c7 d0 d1 d2 d3 d4 d5 d6 d7
        have HBF := hid_mk hb
        clear hd hr hb hfin
        go_wp2_with (go_at_call 9; fail)
        refine (HLV.out wA HBF.out).mono ?_
        rintro e wl ⟨rfl, hBl⟩
        have HBl := hid_mk hBl
        clear hBl
        go_wp2
        go_ret
        exact ⟨rfl, HBl.out⟩
  case false =>
    have hnb1 : (xn.toList == name.toList) = false := hne
    have hnb2 : (name.toList == xn.toList) = false := by rw [BEq.comm]; exact hne
    obtain ⟨he1, rfl⟩ := HNE.out hne
    cases he1
    clear HEQ HNE hne
    go_wp2_with (go_at_call 9; fail)
    refine (HLV.out w7 HB7.out).mono ?_
    rintro e wl ⟨rfl, hBl⟩
    have HBl := hid_mk hBl
    clear hBl
    go_wp2
    go_ret
    exact ⟨rfl, HBl.out⟩

end Go.Proofs.Ytmpppijgjbfolaa.C
