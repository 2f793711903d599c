/- Which of two entries wins: the program's and the document's. -/
import Derived.Test.YtmpppijgjbfolaaCBa
import Derived.Deep.RegionHeld3
namespace Go.Proofs.Ytmpppijgjbfolaa.C
open Go.RowKit
set_option maxRecDepth 100000

set_option maxHeartbeats 400000 in
theorem sel_less (W : World) (x y : E8) : Calls Try.prog 24 #[.agg #[.int .i64 x.a, .int .i64 x.b, .int .i64 x.c], .agg #[.int .i64 y.a, .int .i64 y.b, .int .i64 y.c]] W fun e w' => e = .returned (.bool (specLt x y)) ∧ Below W.heap.size W w' := by
  have HE : Hid (specLt x y = if (x.a != y.a) = true then decide (x.a < y.a) else if (x.b != y.b) = true then decide (x.b < y.b) else decide (x.c < y.c)) := rfl
  generalize specLt x y = r at *
  obtain ⟨xn, xv, xo, xi, xa, xb, xc, xk⟩ := x
  obtain ⟨yn, yv, yo, yi, ya, yb, yc, yk⟩ := y
  have HB : Hid (Below W.heap.size W ((W.alloc (.cells #[.int .i64 xa, .int .i64 xb, .int .i64 xc] 24)).alloc (.cells #[.int .i64 ya, .int .i64 yb, .int .i64 yc] 24))) := ((Below.refl _ _).alloc (Nat.le_refl _) _).alloc (by simp) _
  dsimp only at *
  cases ha : (xa != ya)
  · cases hb : (xb != yb)
    · have HR : Hid (r = decide (xc < yc)) := by rw [Hid, HE.out, ha, hb]; rfl
      clear HE
      go_enter Try.func24, Try.ntmps24
      go_wp2
      go_ret
      exact ⟨by rw [HR.out]; rfl, HB.out⟩
    · have HR : Hid (r = decide (xb < yb)) := by rw [Hid, HE.out, ha, hb]; rfl
      clear HE
      go_enter Try.func24, Try.ntmps24
      go_wp2
      go_ret
      exact ⟨by rw [HR.out]; rfl, HB.out⟩
  · have HR : Hid (r = decide (xa < ya)) := by rw [Hid, HE.out, ha]; rfl
    clear HE
    go_enter Try.func24, Try.ntmps24
    go_wp2
    go_ret
    exact ⟨by rw [HR.out]; rfl, HB.out⟩

/-- A block that holds an entry. -/
def BoxE (w : World) (b : Nat) (t : TypeId) (e : E8) : Prop := w.heap[b]? = some (.cells #[.string e.n, .string e.v, .int .i64 e.o, .bool e.im, .int .i64 e.a, .int .i64 e.b, .int .i64 e.c, .int .i64 e.k] t (0, 0))
theorem BoxE.lt {w : World} {b : Nat} {t : TypeId} {e : E8} (h : BoxE w b t e) : b < w.heap.size := (Array.getElem?_eq_some_iff.1 h).1
theorem BoxE.keep {w w' : World} {b : Nat} {t : TypeId} {e : E8} (h : BoxE w b t e) (hb : Below w.heap.size w w') : BoxE w' b t e := (hb.block b h.lt).trans h
theorem BoxE.cells {w : World} {b : Nat} {t : TypeId} {e : E8} (h : BoxE w b t e) : w.cell? ⟨b, 0, none⟩ = some (.string e.n) ∧ w.cell? ⟨b, 1, none⟩ = some (.string e.v) ∧ w.cell? ⟨b, 2, none⟩ = some (.int .i64 e.o) ∧ w.cell? ⟨b, 3, none⟩ = some (.bool e.im) ∧ w.cell? ⟨b, 4, none⟩ = some (.int .i64 e.a) ∧ w.cell? ⟨b, 5, none⟩ = some (.int .i64 e.b) ∧ w.cell? ⟨b, 6, none⟩ = some (.int .i64 e.c) ∧ w.cell? ⟨b, 7, none⟩ = some (.int .i64 e.k) := by
  unfold BoxE at h
  refine ⟨?_, ?_, ?_, ?_, ?_, ?_, ?_, ?_⟩ <;> simp [World.cell?, h]
theorem alloc_box (w : World) (t : TypeId) (e : E8) : BoxE (w.alloc (.cells #[.string e.n, .string e.v, .int .i64 e.o, .bool e.im, .int .i64 e.a, .int .i64 e.b, .int .i64 e.c, .int .i64 e.k] t)) w.heap.size t e := heap_alloc_last w _
/-- Cells of a box, in a letter's words. -/
def BxC (w : World) (b : Nat) (n v : ByteArray) (o : Int) (im : Bool) (a b' c k : Int) : Prop := w.cell? ⟨b, 0, none⟩ = some (.string n) ∧ w.cell? ⟨b, 1, none⟩ = some (.string v) ∧ w.cell? ⟨b, 2, none⟩ = some (.int .i64 o) ∧ w.cell? ⟨b, 3, none⟩ = some (.bool im) ∧ w.cell? ⟨b, 4, none⟩ = some (.int .i64 a) ∧ w.cell? ⟨b, 5, none⟩ = some (.int .i64 b') ∧ w.cell? ⟨b, 6, none⟩ = some (.int .i64 c) ∧ w.cell? ⟨b, 7, none⟩ = some (.int .i64 k)

set_option maxHeartbeats 1000000 in
theorem less_any (W : World) (x y : E8) : Calls Try.prog 12 #[x.val, y.val] W fun e w' => e = .returned (.bool (lessE x y)) ∧ Below W.heap.size W w' := by
  have HSL : Hid (∀ w, Calls Try.prog 24 #[.agg #[.int .i64 x.a, .int .i64 x.b, .int .i64 x.c], .agg #[.int .i64 y.a, .int .i64 y.b, .int .i64 y.c]] w fun e w' => e = .returned (.bool (specLt x y)) ∧ Below w.heap.size w w') := fun w => sel_less w x y
  have HR1 : Hid (∀ w, Calls Try.prog 10 #[x.val] w fun e w' => e = .returned (.int .i64 (rankZ x.o x.im)) ∧ Below w.heap.size w w') := fun w => rank_any w x
  have HR2 : Hid (∀ w, Calls Try.prog 10 #[y.val] w fun e w' => e = .returned (.int .i64 (rankZ y.o y.im)) ∧ Below w.heap.size w w') := fun w => rank_any w y
  have HE : Hid (lessE x y = if (rankZ x.o x.im != rankZ y.o y.im) = true then decide (rankZ x.o x.im < rankZ y.o y.im) else if specNe x y = true then specLt x y else decide (x.k < y.k)) := rfl
  have HN : Hid (specNe x y = (x.a != y.a || x.b != y.b || x.c != y.c)) := rfl
  have h1 := alloc_box W 26 x
  have h2 := alloc_box (W.alloc (.cells #[.string x.n, .string x.v, .int .i64 x.o, .bool x.im, .int .i64 x.a, .int .i64 x.b, .int .i64 x.c, .int .i64 x.k] 26)) 26 y
  replace h1 := h1.keep ((Below.refl _ _).alloc (Nat.le_refl _) (.cells #[.string y.n, .string y.v, .int .i64 y.o, .bool y.im, .int .i64 y.a, .int .i64 y.b, .int .i64 y.c, .int .i64 y.k] 26))
  have hB : Below W.heap.size W ((W.alloc (.cells #[.string x.n, .string x.v, .int .i64 x.o, .bool x.im, .int .i64 x.a, .int .i64 x.b, .int .i64 x.c, .int .i64 x.k] 26)).alloc (.cells #[.string y.n, .string y.v, .int .i64 y.o, .bool y.im, .int .i64 y.a, .int .i64 y.b, .int .i64 y.c, .int .i64 y.k] 26)) := ((Below.refl _ _).alloc (Nat.le_refl _) _).alloc (by simp) _
  rw [World.size_alloc] at h2
  unfold E8.val at *
  generalize lessE x y = r at *
  generalize specLt x y = sl at *
  generalize specNe x y = sn at *
  generalize rankZ x.o x.im = rx at *
  generalize rankZ y.o y.im = ry at *
  obtain ⟨xn, xv, xo, xi, xa, xb, xc, xk⟩ := x
  obtain ⟨yn, yv, yo, yi, ya, yb, yc, yk⟩ := y
  dsimp only at *
  go_enter Try.func12, Try.ntmps12
  go_upto_region 1 with (fail)
  generalize ((W.alloc (.cells #[.string xn, .string xv, .int .i64 xo, .bool xi, .int .i64 xa, .int .i64 xb, .int .i64 xc, .int .i64 xk] 26)).alloc (.cells #[.string yn, .string yv, .int .i64 yo, .bool yi, .int .i64 ya, .int .i64 yb, .int .i64 yc, .int .i64 yk] 26)) = w1 at *
  have HC : Hid (∀ w, Below w1.heap.size w1 w → BxC w W.heap.size xn xv xo xi xa xb xc xk ∧ BxC w (W.heap.size + 1) yn yv yo yi ya yb yc yk) := fun w hw => ⟨(h1.keep hw).cells, (h2.keep hw).cells⟩
  have HB := hid_mk hB
  clear h1 h2 hB
  have gd : Below w1.heap.size w1 w1 := Below.refl _ _
  have ge : Below w1.heap.size w1 w1.drew := gd.drew
  have HR1b : Hid (∀ w, Below w1.heap.size w1 w → Calls Try.prog 10 #[.agg #[.string xn, .string xv, .int .i64 xo, .bool xi, .int .i64 xa, .int .i64 xb, .int .i64 xc, .int .i64 xk]] w fun e w' => e = .returned (.int .i64 rx) ∧ Below w1.heap.size w1 w') := fun w hw => (HR1.out w).mono fun e w' h => ⟨h.1, hw.trans (h.2.mono hw.size)⟩
  have HR2b : Hid (∀ w, Below w1.heap.size w1 w → Calls Try.prog 10 #[.agg #[.string yn, .string yv, .int .i64 yo, .bool yi, .int .i64 ya, .int .i64 yb, .int .i64 yc, .int .i64 yk]] w fun e w' => e = .returned (.int .i64 ry) ∧ Below w1.heap.size w1 w') := fun w hw => (HR2.out w).mono fun e w' h => ⟨h.1, hw.trans (h.2.mono hw.size)⟩
  clear HR1 HR2
  have HCC : Hid (∀ w, Below w1.heap.size w1 w → (w.cell? ⟨W.heap.size, 0, none⟩ = some (.string xn) ∧ w.cell? ⟨W.heap.size, 1, none⟩ = some (.string xv) ∧ w.cell? ⟨W.heap.size, 2, none⟩ = some (.int .i64 xo) ∧ w.cell? ⟨W.heap.size, 3, none⟩ = some (.bool xi) ∧ w.cell? ⟨W.heap.size, 4, none⟩ = some (.int .i64 xa) ∧ w.cell? ⟨W.heap.size, 5, none⟩ = some (.int .i64 xb) ∧ w.cell? ⟨W.heap.size, 6, none⟩ = some (.int .i64 xc) ∧ w.cell? ⟨W.heap.size, 7, none⟩ = some (.int .i64 xk)) ∧
      (w.cell? ⟨W.heap.size + 1, 0, none⟩ = some (.string yn) ∧ w.cell? ⟨W.heap.size + 1, 1, none⟩ = some (.string yv) ∧ w.cell? ⟨W.heap.size + 1, 2, none⟩ = some (.int .i64 yo) ∧ w.cell? ⟨W.heap.size + 1, 3, none⟩ = some (.bool yi) ∧ w.cell? ⟨W.heap.size + 1, 4, none⟩ = some (.int .i64 ya) ∧ w.cell? ⟨W.heap.size + 1, 5, none⟩ = some (.int .i64 yb) ∧ w.cell? ⟨W.heap.size + 1, 6, none⟩ = some (.int .i64 yc) ∧ w.cell? ⟨W.heap.size + 1, 7, none⟩ = some (.int .i64 yk))) := HC.out
  clear HC
  go_region_held3 (fun w => (w.cell? ⟨W.heap.size, 0, none⟩ = some (.string xn) ∧ w.cell? ⟨W.heap.size, 1, none⟩ = some (.string xv) ∧ w.cell? ⟨W.heap.size, 2, none⟩ = some (.int .i64 xo) ∧ w.cell? ⟨W.heap.size, 3, none⟩ = some (.bool xi) ∧ w.cell? ⟨W.heap.size, 4, none⟩ = some (.int .i64 xa) ∧ w.cell? ⟨W.heap.size, 5, none⟩ = some (.int .i64 xb) ∧ w.cell? ⟨W.heap.size, 6, none⟩ = some (.int .i64 xc) ∧ w.cell? ⟨W.heap.size, 7, none⟩ = some (.int .i64 xk)) ∧
      (w.cell? ⟨W.heap.size + 1, 0, none⟩ = some (.string yn) ∧ w.cell? ⟨W.heap.size + 1, 1, none⟩ = some (.string yv) ∧ w.cell? ⟨W.heap.size + 1, 2, none⟩ = some (.int .i64 yo) ∧ w.cell? ⟨W.heap.size + 1, 3, none⟩ = some (.bool yi) ∧ w.cell? ⟨W.heap.size + 1, 4, none⟩ = some (.int .i64 ya) ∧ w.cell? ⟨W.heap.size + 1, 5, none⟩ = some (.int .i64 yb) ∧ w.cell? ⟨W.heap.size + 1, 6, none⟩ = some (.int .i64 yc) ∧ w.cell? ⟨W.heap.size + 1, 7, none⟩ = some (.int .i64 yk)))
    (first | with_reducible exact HCC.out _ gd | with_reducible exact HCC.out _ ge | with_reducible exact HCC.out _ ga | with_reducible exact HCC.out _ gb)
    (first
      | (go_at_call 10; with_reducible refine (HR1b.out _ ge).mono ?_; rintro e wa ⟨rfl, ga⟩)
      | (go_at_call 10; with_reducible refine (HR2b.out _ ga).mono ?_; rintro e wb ⟨rfl, gb⟩))
  have HB2 : Hid (Below W.heap.size W wb) := HB.out.trans (gb.mono HB.out.size)
  have HC3 : Hid _ := HCC.out wb gb
  have HSL2 : Hid (∀ w, Below wb.heap.size wb w → Calls Try.prog 24 #[.agg #[.int .i64 xa, .int .i64 xb, .int .i64 xc], .agg #[.int .i64 ya, .int .i64 yb, .int .i64 yc]] w fun e w' => e = .returned (.bool sl) ∧ Below w1.heap.size w1 w') := fun w hw => (HSL.out w).mono fun e w' h => ⟨h.1, (gb.trans (hw.mono gb.size)).trans (h.2.mono (Nat.le_trans gb.size hw.size))⟩
  have HBW : Hid (∀ w, Below w1.heap.size w1 w → Below W.heap.size W w) := fun w hw => HB.out.trans (hw.mono HB.out.size)
  clear gd ge ga gb HCC HR1b HR2b HSL
  obtain ⟨⟨c0, c1, c2, c3, c4, c5, c6, c7⟩, d0, d1, d2, d3, d4, d5, d6, d7⟩ := HC3.out
  clear c0 c1 c2 c3 d0 d1 d2 d3
  cases hr : (rx != ry)
  · cases hsn : sn
    · have HR : Hid (r = decide (xk < yk)) := by rw [Hid, HE.out, hr, hsn]; rfl
      have h3 : (xa = ya ∧ xb = yb) ∧ xc = yc := by
        have := HN.out
        rw [hsn] at this
        simpa using this.symm
      obtain ⟨⟨rfl, rfl⟩, rfl⟩ := h3
      clear HE HN HSL2 hsn
      go_wp2
      go_ret
      exact ⟨by rw [HR.out]; rfl, HB2.out⟩
    · have HR : Hid (r = sl) := by rw [Hid, HE.out, hr, hsn]; rfl
      clear HE
      have hx : xa = ya → xb = yb → ¬ xc = yc := by
        intro h1 h2 h3
        have := HN.out
        rw [hsn, h1, h2, h3] at this
        simp at this
      clear HN hsn
      by_cases ea : xa = ya
      · subst ea
        have hx := hx rfl
        by_cases eb : xb = yb
        · subst eb
          have ec := hx rfl
          have ecb : (xc == yc) = false := by simpa using ec
          clear hx
          go_wp2_with (go_at_call 24; refine (HSL2.out _ (Below.refl _ _)).mono ?_; rintro e wd ⟨rfl, gd⟩)
          go_ret
          exact ⟨by rw [HR.out]; rfl, HBW.out _ gd⟩
        · have ebb : (xb == yb) = false := by simpa using eb
          clear hx
          go_wp2_with (go_at_call 24; refine (HSL2.out _ (Below.refl _ _)).mono ?_; rintro e wd ⟨rfl, gd⟩)
          go_ret
          exact ⟨by rw [HR.out]; rfl, HBW.out _ gd⟩
      · have eab : (xa == ya) = false := by simpa using ea
        clear hx
        go_wp2_with (go_at_call 24; refine (HSL2.out _ (Below.refl _ _)).mono ?_; rintro e wd ⟨rfl, gd⟩)
        go_ret
        exact ⟨by rw [HR.out]; rfl, HBW.out _ gd⟩
  · have HR : Hid (r = decide (rx < ry)) := by rw [Hid, HE.out, hr]; rfl
    clear HE HN
    go_wp2
    go_ret
    exact ⟨by rw [HR.out]; rfl, HB2.out⟩
end Go.Proofs.Ytmpppijgjbfolaa.C
