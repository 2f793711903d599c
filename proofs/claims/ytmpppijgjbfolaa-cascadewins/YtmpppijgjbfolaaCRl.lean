/- The document's ranks, and which of two wins. -/
import Derived.Test.YtmpppijgjbfolaaCPn
namespace Go.Proofs.Ytmpppijgjbfolaa.C
open Go.RowKit
set_option maxRecDepth 100000

theorem rank_impR {p : Int} (h1 : 1 ≤ p) (h2 : p ≤ 3) : rankZ p true = 7 - p ∧ rankZ p false = p := by
  unfold rankZ
  rcases (show p = 1 ∨ p = 2 ∨ p = 3 by omega) with rfl | rfl | rfl <;> simp
theorem rank_noneR {p : Int} (h : ¬ (1 ≤ p ∧ p ≤ 3)) (b : Bool) : rankZ p b = 0 := by
  unfold rankZ
  rw [if_neg (by omega), if_neg (by omega), if_neg (by omega)]
set_option maxHeartbeats 400000 in
theorem rrank_any (W : World) (e : E8) : Calls Try.prog 11 #[e.val] W fun x w' => x = .returned (.int .i64 (rankZ e.o e.im)) ∧ Below W.heap.size W w' := by
  obtain ⟨n, v, o, im, a, b, c, k⟩ := e
  have HB : Hid (Below W.heap.size W (W.alloc (.cells #[.string n, .string v, .int .i64 o, .bool im, .int .i64 a, .int .i64 b, .int .i64 c, .int .i64 k] 29))) := (Below.refl _ _).alloc (Nat.le_refl _) _
  unfold E8.val
  dsimp only
  by_cases h1 : o < 1
  · have HR : Hid (rankZ o im = 0) := rank_noneR (by omega) im
    have hd : decide (o < 1) = true := decide_eq_true h1
    generalize rankZ o im = r at *
    go_enter Try.func11, Try.ntmps11
    go_wp2
    go_ret
    exact ⟨by rw [HR.out]; rfl, HB.out⟩
  · have hd : decide (o < 1) = false := decide_eq_false h1
    by_cases h2 : 3 < o
    · have HR : Hid (rankZ o im = 0) := rank_noneR (by omega) im
      have hd2 : decide (3 < o) = true := decide_eq_true h2
      generalize rankZ o im = r at *
      go_enter Try.func11, Try.ntmps11
      go_wp2
      go_ret
      exact ⟨by rw [HR.out]; rfl, HB.out⟩
    · have hd2 : decide (3 < o) = false := decide_eq_false h2
      have hr := rank_impR (p := o) (by omega) (by omega)
      cases im
      · have HR : Hid (rankZ o false = o) := hr.2
        generalize rankZ o false = r at *
        clear hr
        go_enter Try.func11, Try.ntmps11
        go_wp2
        go_ret
        exact ⟨by rw [HR.out]; rfl, HB.out⟩
      · have HR : Hid (rankZ o true = 7 - o) := hr.1
        generalize rankZ o true = r at *
        clear hr
        have hw : IntKind.i64.wrap (7 - o) = 7 - o := by rw [IntKind.wrap_i64] <;> omega
        go_enter Try.func11, Try.ntmps11
        go_wp2
        go_ret
        exact ⟨by rw [HR.out]; rfl, HB.out⟩
set_option maxHeartbeats 400000 in
theorem rsel_less (W : World) (x y : E8) : Calls Try.prog 25 #[.agg #[.int .i64 x.a, .int .i64 x.b, .int .i64 x.c], .agg #[.int .i64 y.a, .int .i64 y.b, .int .i64 y.c]] W fun e w' => e = .returned (.bool (specLt x y)) ∧ Below W.heap.size W w' := by
  have HE : Hid (specLt x y = if (x.a != y.a) = true then decide (x.a < y.a) else if (x.b != y.b) = true then decide (x.b < y.b) else decide (x.c < y.c)) := rfl
  generalize specLt x y = r at *
  obtain ⟨xn, xv, xo, xi, xa, xb, xc, xk⟩ := x
  obtain ⟨yn, yv, yo, yi, ya, yb, yc, yk⟩ := y
  have HB : Hid (Below W.heap.size W ((W.alloc (.cells #[.int .i64 xa, .int .i64 xb, .int .i64 xc] 24)).alloc (.cells #[.int .i64 ya, .int .i64 yb, .int .i64 yc] 24))) := ((Below.refl _ _).alloc (Nat.le_refl _) _).alloc (by simp) _
  dsimp only at *
  cases ha : (xa != ya)
  · cases hb : (xb != yb)
    · have HR : Hid (r = decide (xc < yc)) := by rw [Hid, HE.out, ha, hb]; rfl
      clear HE
      go_enter Try.func25, Try.ntmps25
      go_wp2
      go_ret
      exact ⟨by rw [HR.out]; rfl, HB.out⟩
    · have HR : Hid (r = decide (xb < yb)) := by rw [Hid, HE.out, ha, hb]; rfl
      clear HE
      go_enter Try.func25, Try.ntmps25
      go_wp2
      go_ret
      exact ⟨by rw [HR.out]; rfl, HB.out⟩
  · have HR : Hid (r = decide (xa < ya)) := by rw [Hid, HE.out, ha]; rfl
    clear HE
    go_enter Try.func25, Try.ntmps25
    go_wp2
    go_ret
    exact ⟨by rw [HR.out]; rfl, HB.out⟩

set_option maxHeartbeats 1000000 in
theorem rless_any (W : World) (x y : E8) : Calls Try.prog 13 #[x.val, y.val] W fun e w' => e = .returned (.bool (lessE x y)) ∧ Below W.heap.size W w' := by
  have HSL : Hid (∀ w, Calls Try.prog 25 #[.agg #[.int .i64 x.a, .int .i64 x.b, .int .i64 x.c], .agg #[.int .i64 y.a, .int .i64 y.b, .int .i64 y.c]] w fun e w' => e = .returned (.bool (specLt x y)) ∧ Below w.heap.size w w') := fun w => rsel_less w x y
  have HR1 : Hid (∀ w, Calls Try.prog 11 #[x.val] w fun e w' => e = .returned (.int .i64 (rankZ x.o x.im)) ∧ Below w.heap.size w w') := fun w => rrank_any w x
  have HR2 : Hid (∀ w, Calls Try.prog 11 #[y.val] w fun e w' => e = .returned (.int .i64 (rankZ y.o y.im)) ∧ Below w.heap.size w w') := fun w => rrank_any w y
  have HE : Hid (lessE x y = if (rankZ x.o x.im != rankZ y.o y.im) = true then decide (rankZ x.o x.im < rankZ y.o y.im) else if specNe x y = true then specLt x y else decide (x.k < y.k)) := rfl
  have HN : Hid (specNe x y = (x.a != y.a || x.b != y.b || x.c != y.c)) := rfl
  have h1 := alloc_box W 29 x
  have h2 := alloc_box (W.alloc (.cells #[.string x.n, .string x.v, .int .i64 x.o, .bool x.im, .int .i64 x.a, .int .i64 x.b, .int .i64 x.c, .int .i64 x.k] 29)) 29 y
  replace h1 := h1.keep ((Below.refl _ _).alloc (Nat.le_refl _) (.cells #[.string y.n, .string y.v, .int .i64 y.o, .bool y.im, .int .i64 y.a, .int .i64 y.b, .int .i64 y.c, .int .i64 y.k] 29))
  have hB : Below W.heap.size W ((W.alloc (.cells #[.string x.n, .string x.v, .int .i64 x.o, .bool x.im, .int .i64 x.a, .int .i64 x.b, .int .i64 x.c, .int .i64 x.k] 29)).alloc (.cells #[.string y.n, .string y.v, .int .i64 y.o, .bool y.im, .int .i64 y.a, .int .i64 y.b, .int .i64 y.c, .int .i64 y.k] 29)) := ((Below.refl _ _).alloc (Nat.le_refl _) _).alloc (by simp) _
  rw [World.size_alloc] at h2
  unfold E8.val at *
  generalize lessE x y = r at *
  generalize specLt x y = sl at *
  generalize specNe x y = sn at *
  generalize rankZ x.o x.im = rx at *
  generalize rankZ y.o y.im = ry at *
  obtain ⟨xn, xv, xo, xi, xa, xb, xc, xk⟩ := x
  obtain ⟨yn, yv, yo, yi, ya, yb, yc, yk⟩ := y
  dsimp only at *
  go_enter Try.func13, Try.ntmps13
  go_upto_region 1 with (fail)
  generalize ((W.alloc (.cells #[.string xn, .string xv, .int .i64 xo, .bool xi, .int .i64 xa, .int .i64 xb, .int .i64 xc, .int .i64 xk] 29)).alloc (.cells #[.string yn, .string yv, .int .i64 yo, .bool yi, .int .i64 ya, .int .i64 yb, .int .i64 yc, .int .i64 yk] 29)) = w1 at *
  have HC : Hid (∀ w, Below w1.heap.size w1 w → BxC w W.heap.size xn xv xo xi xa xb xc xk ∧ BxC w (W.heap.size + 1) yn yv yo yi ya yb yc yk) := fun w hw => ⟨(h1.keep hw).cells, (h2.keep hw).cells⟩
  have HB := hid_mk hB
  clear h1 h2 hB
  have gd : Below w1.heap.size w1 w1 := Below.refl _ _
  have ge : Below w1.heap.size w1 w1.drew := gd.drew
  have HR1b : Hid (∀ w, Below w1.heap.size w1 w → Calls Try.prog 11 #[.agg #[.string xn, .string xv, .int .i64 xo, .bool xi, .int .i64 xa, .int .i64 xb, .int .i64 xc, .int .i64 xk]] w fun e w' => e = .returned (.int .i64 rx) ∧ Below w1.heap.size w1 w') := fun w hw => (HR1.out w).mono fun e w' h => ⟨h.1, hw.trans (h.2.mono hw.size)⟩
  have HR2b : Hid (∀ w, Below w1.heap.size w1 w → Calls Try.prog 11 #[.agg #[.string yn, .string yv, .int .i64 yo, .bool yi, .int .i64 ya, .int .i64 yb, .int .i64 yc, .int .i64 yk]] w fun e w' => e = .returned (.int .i64 ry) ∧ Below w1.heap.size w1 w') := fun w hw => (HR2.out w).mono fun e w' h => ⟨h.1, hw.trans (h.2.mono hw.size)⟩
  clear HR1 HR2
  have HCC : Hid (∀ w, Below w1.heap.size w1 w → (w.cell? ⟨W.heap.size, 0, none⟩ = some (.string xn) ∧ w.cell? ⟨W.heap.size, 1, none⟩ = some (.string xv) ∧ w.cell? ⟨W.heap.size, 2, none⟩ = some (.int .i64 xo) ∧ w.cell? ⟨W.heap.size, 3, none⟩ = some (.bool xi) ∧ w.cell? ⟨W.heap.size, 4, none⟩ = some (.int .i64 xa) ∧ w.cell? ⟨W.heap.size, 5, none⟩ = some (.int .i64 xb) ∧ w.cell? ⟨W.heap.size, 6, none⟩ = some (.int .i64 xc) ∧ w.cell? ⟨W.heap.size, 7, none⟩ = some (.int .i64 xk)) ∧
      (w.cell? ⟨W.heap.size + 1, 0, none⟩ = some (.string yn) ∧ w.cell? ⟨W.heap.size + 1, 1, none⟩ = some (.string yv) ∧ w.cell? ⟨W.heap.size + 1, 2, none⟩ = some (.int .i64 yo) ∧ w.cell? ⟨W.heap.size + 1, 3, none⟩ = some (.bool yi) ∧ w.cell? ⟨W.heap.size + 1, 4, none⟩ = some (.int .i64 ya) ∧ w.cell? ⟨W.heap.size + 1, 5, none⟩ = some (.int .i64 yb) ∧ w.cell? ⟨W.heap.size + 1, 6, none⟩ = some (.int .i64 yc) ∧ w.cell? ⟨W.heap.size + 1, 7, none⟩ = some (.int .i64 yk))) := HC.out
  clear HC
  go_region_held3 (fun w => (w.cell? ⟨W.heap.size, 0, none⟩ = some (.string xn) ∧ w.cell? ⟨W.heap.size, 1, none⟩ = some (.string xv) ∧ w.cell? ⟨W.heap.size, 2, none⟩ = some (.int .i64 xo) ∧ w.cell? ⟨W.heap.size, 3, none⟩ = some (.bool xi) ∧ w.cell? ⟨W.heap.size, 4, none⟩ = some (.int .i64 xa) ∧ w.cell? ⟨W.heap.size, 5, none⟩ = some (.int .i64 xb) ∧ w.cell? ⟨W.heap.size, 6, none⟩ = some (.int .i64 xc) ∧ w.cell? ⟨W.heap.size, 7, none⟩ = some (.int .i64 xk)) ∧
      (w.cell? ⟨W.heap.size + 1, 0, none⟩ = some (.string yn) ∧ w.cell? ⟨W.heap.size + 1, 1, none⟩ = some (.string yv) ∧ w.cell? ⟨W.heap.size + 1, 2, none⟩ = some (.int .i64 yo) ∧ w.cell? ⟨W.heap.size + 1, 3, none⟩ = some (.bool yi) ∧ w.cell? ⟨W.heap.size + 1, 4, none⟩ = some (.int .i64 ya) ∧ w.cell? ⟨W.heap.size + 1, 5, none⟩ = some (.int .i64 yb) ∧ w.cell? ⟨W.heap.size + 1, 6, none⟩ = some (.int .i64 yc) ∧ w.cell? ⟨W.heap.size + 1, 7, none⟩ = some (.int .i64 yk)))
    (first | with_reducible exact HCC.out _ gd | with_reducible exact HCC.out _ ge | with_reducible exact HCC.out _ ga | with_reducible exact HCC.out _ gb)
    (first
      | (go_at_call 11; with_reducible refine (HR1b.out _ ge).mono ?_; rintro e wa ⟨rfl, ga⟩)
      | (go_at_call 11; with_reducible refine (HR2b.out _ ga).mono ?_; rintro e wb ⟨rfl, gb⟩))
  have HB2 : Hid (Below W.heap.size W wb) := HB.out.trans (gb.mono HB.out.size)
  have HC3 : Hid _ := HCC.out wb gb
  have HSL2 : Hid (∀ w, Below wb.heap.size wb w → Calls Try.prog 25 #[.agg #[.int .i64 xa, .int .i64 xb, .int .i64 xc], .agg #[.int .i64 ya, .int .i64 yb, .int .i64 yc]] w fun e w' => e = .returned (.bool sl) ∧ Below w1.heap.size w1 w') := fun w hw => (HSL.out w).mono fun e w' h => ⟨h.1, (gb.trans (hw.mono gb.size)).trans (h.2.mono (Nat.le_trans gb.size hw.size))⟩
  have HBW : Hid (∀ w, Below w1.heap.size w1 w → Below W.heap.size W w) := fun w hw => HB.out.trans (hw.mono HB.out.size)
  clear gd ge ga HSL
  obtain ⟨⟨c0, c1, c2, c3, c4, c5, c6, c7⟩, d0, d1, d2, d3, d4, d5, d6, d7⟩ := HC3.out
  clear c0 c1 c2 c3 d0 d1 d2 d3
  cases hr : (rx != ry)
  · cases hsn : sn
    · have HR : Hid (r = decide (xk < yk)) := by rw [Hid, HE.out, hr, hsn]; rfl
      have h3 : (xa = ya ∧ xb = yb) ∧ xc = yc := by
        have := HN.out
        rw [hsn] at this
        simpa using this.symm
      obtain ⟨⟨rfl, rfl⟩, rfl⟩ := h3
      clear HE HN HSL2 hsn
      go_wp2
      go_ret
      exact ⟨by rw [HR.out]; rfl, HB2.out⟩
    · have HR : Hid (r = sl) := by rw [Hid, HE.out, hr, hsn]; rfl
      clear HE
      have hx : xa = ya → xb = yb → ¬ xc = yc := by
        intro h1 h2 h3
        have := HN.out
        rw [hsn, h1, h2, h3] at this
        simp at this
      clear HN hsn
      by_cases ea : xa = ya
      · subst ea
        have hx := hx rfl
        by_cases eb : xb = yb
        · subst eb
          have ec := hx rfl
          have ecb : (xc == yc) = false := by simpa using ec
          clear hx
          go_wp2_with (go_at_call 25; refine (HSL2.out _ (Below.refl _ _)).mono ?_; rintro e wd ⟨rfl, gd⟩)
          go_ret
          exact ⟨by rw [HR.out]; rfl, HBW.out _ gd⟩
        · have ebb : (xb == yb) = false := by simpa using eb
          clear hx
          go_wp2_with (go_at_call 25; refine (HSL2.out _ (Below.refl _ _)).mono ?_; rintro e wd ⟨rfl, gd⟩)
          go_ret
          exact ⟨by rw [HR.out]; rfl, HBW.out _ gd⟩
      · have eab : (xa == ya) = false := by simpa using ea
        clear hx
        go_wp2_with (go_at_call 25; refine (HSL2.out _ (Below.refl _ _)).mono ?_; rintro e wd ⟨rfl, gd⟩)
        go_ret
        exact ⟨by rw [HR.out]; rfl, HBW.out _ gd⟩
  · have HR : Hid (r = decide (rx < ry)) := by rw [Hid, HE.out, hr]; rfl
    clear HE HN HSL2 c4 c5 c6 c7 d4 d5 d6 d7
    have ge2 : Below w1.heap.size w1 wb.drew := gb.drew
    go_upto_region 2 with (fail)
    go_region_held3 (fun w => (w.cell? ⟨W.heap.size, 0, none⟩ = some (.string xn) ∧ w.cell? ⟨W.heap.size, 1, none⟩ = some (.string xv) ∧ w.cell? ⟨W.heap.size, 2, none⟩ = some (.int .i64 xo) ∧ w.cell? ⟨W.heap.size, 3, none⟩ = some (.bool xi) ∧ w.cell? ⟨W.heap.size, 4, none⟩ = some (.int .i64 xa) ∧ w.cell? ⟨W.heap.size, 5, none⟩ = some (.int .i64 xb) ∧ w.cell? ⟨W.heap.size, 6, none⟩ = some (.int .i64 xc) ∧ w.cell? ⟨W.heap.size, 7, none⟩ = some (.int .i64 xk)) ∧
      (w.cell? ⟨W.heap.size + 1, 0, none⟩ = some (.string yn) ∧ w.cell? ⟨W.heap.size + 1, 1, none⟩ = some (.string yv) ∧ w.cell? ⟨W.heap.size + 1, 2, none⟩ = some (.int .i64 yo) ∧ w.cell? ⟨W.heap.size + 1, 3, none⟩ = some (.bool yi) ∧ w.cell? ⟨W.heap.size + 1, 4, none⟩ = some (.int .i64 ya) ∧ w.cell? ⟨W.heap.size + 1, 5, none⟩ = some (.int .i64 yb) ∧ w.cell? ⟨W.heap.size + 1, 6, none⟩ = some (.int .i64 yc) ∧ w.cell? ⟨W.heap.size + 1, 7, none⟩ = some (.int .i64 yk)))
      (first | with_reducible exact HCC.out _ gb | with_reducible exact HCC.out _ ge2 | with_reducible exact HCC.out _ gc | with_reducible exact HCC.out _ gq)
      (first
        | (go_at_call 11; with_reducible refine (HR1b.out _ ge2).mono ?_; rintro e wc ⟨rfl, gc⟩)
        | (go_at_call 11; with_reducible refine (HR2b.out _ gc).mono ?_; rintro e wq ⟨rfl, gq⟩))
    have HB4 : Hid (Below W.heap.size W wq) := HB.out.trans (gq.mono HB.out.size)
    clear gb ge2 gc gq HCC HR1b HR2b
    go_wp2
    go_ret
    exact ⟨by rw [HR.out]; rfl, HB4.out⟩
end Go.Proofs.Ytmpppijgjbfolaa.C
