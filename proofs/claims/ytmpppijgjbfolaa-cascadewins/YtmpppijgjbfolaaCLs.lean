/- The pile's Len, Less and Swap. -/
import Derived.Test.YtmpppijgjbfolaaCPl
namespace Go.Proofs.Ytmpppijgjbfolaa.C
open Go.RowKit
set_option maxRecDepth 100000

/-- Is the first of two rows nearer to the top? -/
def bt (x y : R9) : Bool := if lessE x.1 y.1 = true then false else if lessE y.1 x.1 = true then true else decide (x.2 > y.2)
theorem plen_any (w : World) (a : Option Addr) (n c : Nat) : Calls Try.prog 32 #[.slice a n c] w fun e w' => e = .returned (.int .i64 n) ∧ w' = w := by
  go_enter Try.func32, Try.ntmps32
  go_wp2
  go_ret
  exact ⟨rfl, rfl⟩

/-- A block that holds a row. -/
def BoxR (w : World) (b : Nat) (t : TypeId) (r : R9) : Prop := w.heap[b]? = some (.cells #[.string r.1.n, .string r.1.v, .int .i64 r.1.o, .bool r.1.im, .int .i64 r.1.a, .int .i64 r.1.b, .int .i64 r.1.c, .int .i64 r.1.k, .int .i64 r.2] t (0, 0))
theorem BoxR.lt {w : World} {b : Nat} {t : TypeId} {e : R9} (h : BoxR w b t e) : b < w.heap.size := (Array.getElem?_eq_some_iff.1 h).1
theorem BoxR.keep {w w' : World} {b : Nat} {t : TypeId} {e : R9} (h : BoxR w b t e) (hb : Below w.heap.size w w') : BoxR w' b t e := (hb.block b h.lt).trans h
theorem BoxR.cells {w : World} {b : Nat} {t : TypeId} {e : R9} (h : BoxR w b t e) : w.cell? ⟨b, 0, none⟩ = some (.string e.1.n) ∧ w.cell? ⟨b, 1, none⟩ = some (.string e.1.v) ∧ w.cell? ⟨b, 2, none⟩ = some (.int .i64 e.1.o) ∧ w.cell? ⟨b, 3, none⟩ = some (.bool e.1.im) ∧ w.cell? ⟨b, 4, none⟩ = some (.int .i64 e.1.a) ∧ w.cell? ⟨b, 5, none⟩ = some (.int .i64 e.1.b) ∧ w.cell? ⟨b, 6, none⟩ = some (.int .i64 e.1.c) ∧ w.cell? ⟨b, 7, none⟩ = some (.int .i64 e.1.k) ∧ w.cell? ⟨b, 8, none⟩ = some (.int .i64 e.2) := by
  unfold BoxR at h
  refine ⟨?_, ?_, ?_, ?_, ?_, ?_, ?_, ?_, ?_⟩ <;> simp [World.cell?, h]
theorem two_boxes (w : World) (o1 o2 : Obj) : ((w.alloc o1).alloc o2).drew.heap[w.heap.size]? = some o1 ∧ ((w.alloc o1).alloc o2).drew.heap[w.heap.size + 1]? = some o2 ∧ Below w.heap.size w ((w.alloc o1).alloc o2).drew := by
  refine ⟨?_, ?_, (((Below.refl _ _).alloc (Nat.le_refl _) _).alloc (by simp) _).drew⟩
  · show ((w.alloc o1).alloc o2).heap[w.heap.size]? = _
    rw [Below.heap_alloc _ _ _ (by simp)]
    exact heap_alloc_last _ _
  · show ((w.alloc o1).alloc o2).heap[w.heap.size + 1]? = _
    have := heap_alloc_last (w.alloc o1) o2
    rwa [World.size_alloc] at this
/-- Two boxes: which was made first is left open. -/
def TwoB (w : World) (x y : R9) (p q : Value) (w' : World) : Prop := ∃ b1 b2, p = .pointer (some ⟨b1, 0, none⟩) ∧ q = .pointer (some ⟨b2, 0, none⟩) ∧ BoxR w' b1 69 x ∧ BoxR w' b2 69 y ∧ Below w.heap.size w w'

set_option maxHeartbeats 1000000 in
theorem pless_any {w : World} {n0 g cap : Nat} {L : List R9} (h : Pl w n0 g cap L) (i j : Nat) (hi : i < L.length) (hj : j < L.length) : Calls Try.prog 81 #[.slice (some ⟨g, 0, none⟩) L.length cap, .int .i64 (i : Int), .int .i64 (j : Int)] w fun e w' => e = .returned (.bool (bt L[i] L[j])) ∧ Below w.heap.size w w' := by
  have HL1 : Hid (∀ W, Calls Try.prog 12 #[L[i].1.val, L[j].1.val] W fun e w' => e = .returned (.bool (lessE L[i].1 L[j].1)) ∧ Below W.heap.size W w') := fun W => less_any W _ _
  have HL2 : Hid (∀ W, Calls Try.prog 12 #[L[j].1.val, L[i].1.val] W fun e w' => e = .returned (.bool (lessE L[j].1 L[i].1)) ∧ Below W.heap.size W w') := fun W => less_any W _ _
  have HE : Hid (bt L[i] L[j] = if lessE L[i].1 L[j].1 = true then false else if lessE L[j].1 L[i].1 = true then true else decide (L[i].2 > L[j].2)) := rfl
  obtain ⟨c0, c1, c2, c3, c4, c5, c6, c7, c8⟩ := h.at hi
  obtain ⟨d0, d1, d2, d3, d4, d5, d6, d7, d8⟩ := h.at hj
  have hg := h.cap_le.2.2.2
  have hcap := h.cap_le
  unfold maxLen at hcap
  generalize bt L[i] L[j] = r at *
  generalize lessE L[i].1 L[j].1 = l1 at *
  generalize lessE L[j].1 L[i].1 = l2 at *
  unfold E8.val at *
  generalize L[i] = x at *
  generalize L[j] = y at *
  obtain ⟨⟨xn, xv, xo, xi, xa, xb, xc, xk⟩, xp⟩ := x
  obtain ⟨⟨yn, yv, yo, yi, ya, yb, yc, yk⟩, yp⟩ := y
  dsimp only at *
  clear h
  generalize L.length = n at *
  go_enter Try.func81, Try.ntmps81
  go_upto_region 1 with (fail)
  go_cut [7, 8] (fun p q wx => TwoB w ⟨⟨xn, xv, xo, xi, xa, xb, xc, xk⟩, xp⟩ ⟨⟨yn, yv, yo, yi, ya, yb, yc, yk⟩, yp⟩ p q wx)
  case first =>
    go_region
    all_goals go_wp2_with fail
    all_goals go_meet
    · obtain ⟨k1, k2, k3⟩ := two_boxes w (.cells #[.string xn, .string xv, .int .i64 xo, .bool xi, .int .i64 xa, .int .i64 xb, .int .i64 xc, .int .i64 xk, .int .i64 xp] 69) (.cells #[.string yn, .string yv, .int .i64 yo, .bool yi, .int .i64 ya, .int .i64 yb, .int .i64 yc, .int .i64 yk, .int .i64 yp] 69)
      exact ⟨_, _, rfl, rfl, k1, k2, k3⟩
    · obtain ⟨k1, k2, k3⟩ := two_boxes w (.cells #[.string yn, .string yv, .int .i64 yo, .bool yi, .int .i64 ya, .int .i64 yb, .int .i64 yc, .int .i64 yk, .int .i64 yp] 69) (.cells #[.string xn, .string xv, .int .i64 xo, .bool xi, .int .i64 xa, .int .i64 xb, .int .i64 xc, .int .i64 xk, .int .i64 xp] 69)
      exact ⟨_, _, rfl, rfl, k2, k1, k3⟩
  case rest =>
    obtain ⟨b1, b2, rfl, rfl, hb1, hb2, hB⟩ := hcut
    have HB := hid_mk hB
    have HLA : Hid (∀ W, Below wc.heap.size wc W → Calls Try.prog 12 #[.agg #[.string xn, .string xv, .int .i64 xo, .bool xi, .int .i64 xa, .int .i64 xb, .int .i64 xc, .int .i64 xk], .agg #[.string yn, .string yv, .int .i64 yo, .bool yi, .int .i64 ya, .int .i64 yb, .int .i64 yc, .int .i64 yk]] W fun e w' => e = .returned (.bool l1) ∧ Below wc.heap.size wc w') := fun W hW => (HL1.out W).mono fun e w' h => ⟨h.1, hW.trans (h.2.mono hW.size)⟩
    have HLB : Hid (∀ W, Below wc.heap.size wc W → Calls Try.prog 12 #[.agg #[.string yn, .string yv, .int .i64 yo, .bool yi, .int .i64 ya, .int .i64 yb, .int .i64 yc, .int .i64 yk], .agg #[.string xn, .string xv, .int .i64 xo, .bool xi, .int .i64 xa, .int .i64 xb, .int .i64 xc, .int .i64 xk]] W fun e w' => e = .returned (.bool l2) ∧ Below wc.heap.size wc w') := fun W hW => (HL2.out W).mono fun e w' h => ⟨h.1, hW.trans (h.2.mono hW.size)⟩
    have HK : Hid (∀ W, Below wc.heap.size wc W → BoxR W b1 69 ⟨⟨xn, xv, xo, xi, xa, xb, xc, xk⟩, xp⟩ ∧ BoxR W b2 69 ⟨⟨yn, yv, yo, yi, ya, yb, yc, yk⟩, yp⟩) := fun W hW => ⟨hb1.keep hW, hb2.keep hW⟩
    obtain ⟨e0, e1, e2, e3, e4, e5, e6, e7, e8⟩ := hb1.cells
    obtain ⟨f0, f1, f2, f3, f4, f5, f6, f7, f8⟩ := hb2.cells
    clear c0 c1 c2 c3 c4 c5 c6 c7 c8 d0 d1 d2 d3 d4 d5 d6 d7 d8 hb1 hb2 hB HL1 HL2
    go_wp2_with (go_at_call 12; fail)
    refine (HLA.out _ (Below.refl _ _)).mono ?_
    rintro e wd ⟨rfl, gd⟩
    cases l1
    · obtain ⟨hb1, hb2⟩ := HK.out wd gd
      clear e0 e1 e2 e3 e4 e5 e6 e7 e8 f0 f1 f2 f3 f4 f5 f6 f7 f8
      obtain ⟨e0, e1, e2, e3, e4, e5, e6, e7, e8⟩ := hb1.cells
      obtain ⟨f0, f1, f2, f3, f4, f5, f6, f7, f8⟩ := hb2.cells
      clear hb1 hb2
      have HGD := hid_mk gd
      clear gd
      go_wp2_with (go_at_call 12; fail)
      refine (HLB.out _ HGD.out).mono ?_
      rintro e we ⟨rfl, ge⟩
      have HGE : Hid (Below w.heap.size w we) := HB.out.trans (ge.mono HB.out.size)
      cases l2
      · obtain ⟨hb1, hb2⟩ := HK.out we ge
        have p1 := hb1.cells.2.2.2.2.2.2.2.2
        have p2 := hb2.cells.2.2.2.2.2.2.2.2
        clear hb1 hb2 e0 e1 e2 e3 e4 e5 e6 e7 e8 f0 f1 f2 f3 f4 f5 f6 f7 f8 ge
        go_wp2
        go_ret
        exact ⟨by rw [HE.out]; rfl, HGE.out⟩
      · clear e0 e1 e2 e3 e4 e5 e6 e7 e8 f0 f1 f2 f3 f4 f5 f6 f7 f8 ge
        go_wp2
        go_ret
        exact ⟨by rw [HE.out]; rfl, HGE.out⟩
    · have HGD : Hid (Below w.heap.size w wd) := HB.out.trans (gd.mono HB.out.size)
      clear e0 e1 e2 e3 e4 e5 e6 e7 e8 f0 f1 f2 f3 f4 f5 f6 f7 f8 gd
      go_wp2
      go_ret
      exact ⟨by rw [HE.out]; rfl, HGD.out⟩

set_option maxHeartbeats 4000000 in
theorem pswap_any {w : World} {n0 g cap : Nat} {L : List R9} (h : Pl w n0 g cap L) (i j : Nat) (hi : i < L.length) (hj : j < L.length) (hij : i ≠ j) : Calls Try.prog 82 #[.slice (some ⟨g, 0, none⟩) L.length cap, .int .i64 (i : Int), .int .i64 (j : Int)] w fun e w' => (∃ v, e = .returned v) ∧ w' = (put9 (put9 w g (i * 9) L[j]) g (j * 9) L[i]).drew := by
  obtain ⟨c0, c1, c2, c3, c4, c5, c6, c7, c8⟩ := h.at hi
  obtain ⟨d0, d1, d2, d3, d4, d5, d6, d7, d8⟩ := h.at hj
  have hg := h.cap_le.2.2.2
  have hcap := h.cap_le
  have hfr := h.unfrozen
  unfold maxLen at hcap
  generalize L[i] = x at *
  generalize L[j] = y at *
  obtain ⟨⟨xn, xv, xo, xi, xa, xb, xc, xk⟩, xp⟩ := x
  obtain ⟨⟨yn, yv, yo, yi, ya, yb, yc, yk⟩, yp⟩ := y
  unfold put9
  dsimp only at *
  clear h
  generalize L.length = n at *
  go_enter Try.func82, Try.ntmps82
  go_upto_region 0 with (fail)
  go_region
  go_end0
  exact ⟨⟨_, rfl⟩, rfl⟩
set_option maxHeartbeats 4000000 in
theorem pswap_self {w : World} {n0 g cap : Nat} {L : List R9} (h : Pl w n0 g cap L) (i : Nat) (hi : i < L.length) : Calls Try.prog 82 #[.slice (some ⟨g, 0, none⟩) L.length cap, .int .i64 (i : Int), .int .i64 (i : Int)] w fun e w' => (∃ v, e = .returned v) ∧ w' = (put9 (put9 w g (i * 9) L[i]) g (i * 9) L[i]).drew := by
  obtain ⟨c0, c1, c2, c3, c4, c5, c6, c7, c8⟩ := h.at hi
  have hg := h.cap_le.2.2.2
  have hcap := h.cap_le
  have hfr := h.unfrozen
  unfold maxLen at hcap
  generalize L[i] = x at *
  obtain ⟨⟨xn, xv, xo, xi, xa, xb, xc, xk⟩, xp⟩ := x
  unfold put9
  dsimp only at *
  clear h
  generalize L.length = n at *
  go_enter Try.func82, Try.ntmps82
  go_upto_region 0 with (fail)
  go_region
  go_end0
  exact ⟨⟨_, rfl⟩, rfl⟩
end Go.Proofs.Ytmpppijgjbfolaa.C
