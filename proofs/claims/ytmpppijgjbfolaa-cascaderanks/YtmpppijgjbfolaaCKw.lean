/- The law CascadeRanks: the walk. -/
import Derived.Test.YtmpppijgjbfolaaCPn
namespace Go.Proofs.Ytmpppijgjbfolaa.C
open Go.RowKit
set_option maxRecDepth 100000

theorem less_atK {W : World} (x y : E8) (w : World) (h : Below W.heap.size W w) : Calls Try.prog 12 #[x.val, y.val] w fun e w' => e = .returned (.bool (lessE x y)) ∧ Below W.heap.size W w' := (less_any w x y).mono fun _ _ k => ⟨k.1, h.trans (k.2.mono h.size)⟩
/-- Are both origins known? -/
def knw (p q : Int) : Bool := decide (1 ≤ p) && decide (p ≤ 3) && decide (1 ≤ q) && decide (q ≤ 3)
theorem rank_imp {p : Int} (h1 : 1 ≤ p) (h2 : p ≤ 3) : rankZ p true = 7 - p ∧ rankZ p false = p := by
  unfold rankZ
  rcases (show p = 1 ∨ p = 2 ∨ p = 3 by omega) with rfl | rfl | rfl <;> simp
theorem rank_none {p : Int} (h : ¬ (1 ≤ p ∧ p ≤ 3)) (b : Bool) : rankZ p b = 0 := by
  unfold rankZ
  rw [if_neg (by omega), if_neg (by omega), if_neg (by omega)]
theorem knw_true {p q : Int} (h : knw p q = true) : (1 ≤ p ∧ p ≤ 3) ∧ 1 ≤ q ∧ q ≤ 3 := by
  unfold knw at h
  simp at h
  omega
theorem knw_false {p q : Int} (h : knw p q = false) (hp : 1 ≤ p ∧ p ≤ 3) : ¬ (1 ≤ q ∧ q ≤ 3) := by
  unfold knw at h
  simp at h
  omega
theorem imp_wins {p q : Int} (h : knw p q = true) {xn xv yn yv : ByteArray} {xa xb xc xk ya yb yc yk : Int} : lessE ⟨yn, yv, q, false, ya, yb, yc, yk⟩ ⟨xn, xv, p, true, xa, xb, xc, xk⟩ = true ∧ lessE ⟨xn, xv, p, true, xa, xb, xc, xk⟩ ⟨yn, yv, q, false, ya, yb, yc, yk⟩ = false := by
  obtain ⟨⟨h1, h2⟩, h3, h4⟩ := knw_true h
  have e1 := (rank_imp h1 h2).1
  have e2 := (rank_imp h3 h4).2
  have k : lessE ⟨yn, yv, q, false, ya, yb, yc, yk⟩ ⟨xn, xv, p, true, xa, xb, xc, xk⟩ = true := by
    rw [lessE_iff]
    dsimp only
    omega
  exact ⟨k, lessE_asym k⟩
theorem turn_around {p q : Int} (h : knw p q = true) (hne : p ≠ q) {xn xv yn yv : ByteArray} {xa xb xc xk ya yb yc yk : Int} : (lessE ⟨xn, xv, p, true, xa, xb, xc, xk⟩ ⟨yn, yv, q, true, ya, yb, yc, yk⟩ == lessE ⟨xn, xv, p, false, xa, xb, xc, xk⟩ ⟨yn, yv, q, false, ya, yb, yc, yk⟩) = false := by
  obtain ⟨⟨h1, h2⟩, h3, h4⟩ := knw_true h
  obtain ⟨e1, e2⟩ := rank_imp h1 h2
  obtain ⟨e3, e4⟩ := rank_imp h3 h4
  rcases Int.lt_or_gt_of_ne hne with hlt | hgt
  · have k1 : lessE ⟨xn, xv, p, true, xa, xb, xc, xk⟩ ⟨yn, yv, q, true, ya, yb, yc, yk⟩ = false := by
      rw [false_iff (lessE_iff _ _)]
      dsimp only
      omega
    have k2 : lessE ⟨xn, xv, p, false, xa, xb, xc, xk⟩ ⟨yn, yv, q, false, ya, yb, yc, yk⟩ = true := by
      rw [lessE_iff]
      dsimp only
      omega
    rw [k1, k2]
    rfl
  · have k1 : lessE ⟨xn, xv, p, true, xa, xb, xc, xk⟩ ⟨yn, yv, q, true, ya, yb, yc, yk⟩ = true := by
      rw [lessE_iff]
      dsimp only
      omega
    have k2 : lessE ⟨xn, xv, p, false, xa, xb, xc, xk⟩ ⟨yn, yv, q, false, ya, yb, yc, yk⟩ = false := by
      rw [false_iff (lessE_iff _ _)]
      dsimp only
      omega
    rw [k1, k2]
    rfl
theorem BoxE.setIm {w : World} {b : Nat} {t : TypeId} {e : E8} (h : BoxE w b t e) (v : Bool) : BoxE (w.setCell ⟨b, 3, none⟩ (.bool v)) b t { e with im := v } := heap_setCell_same w b 3 _ t (.bool v) h
theorem BoxE.setOther {w : World} {b b' : Nat} {t : TypeId} {e : E8} (h : BoxE w b t e) (hne : b ≠ b') (o : Nat) (u : Value) : BoxE (w.setCell ⟨b', o, none⟩ u) b t e := (Below.heap_setCell w ⟨b', o, none⟩ u b hne).trans h

set_option maxHeartbeats 8000000 in
theorem ranks_walk {w : World} {a : Option Addr} {c : Nat} {l : List E8} (h : EsAt w a c l) (hz : ∀ z ∈ l, Szd z) (x y : E8) : Calls Try.prog 7 #[x.val, y.val, .slice a l.length c] w fun e w' => e = .returned (.bool true) ∧ Below w.heap.size w w' := by
  obtain ⟨xn, xv, xo, xi, xa, xb, xc, xk⟩ := x
  obtain ⟨yn, yv, yo, yi, ya, yb, yc, yk⟩ := y
  unfold E8.val
  dsimp only
  obtain ⟨w1, hw1⟩ : ∃ w1, w1 = (w.alloc (.cells #[.string xn, .string xv, .int .i64 xo, .bool xi, .int .i64 xa, .int .i64 xb, .int .i64 xc, .int .i64 xk] 26)).alloc (.cells #[.string yn, .string yv, .int .i64 yo, .bool yi, .int .i64 ya, .int .i64 yb, .int .i64 yc, .int .i64 yk] 26) := ⟨_, rfl⟩
  have hb1 : Below w.heap.size w w1 := by rw [hw1]; exact ((Below.refl _ _).alloc (Nat.le_refl _) _).alloc (by simp) _
  have hxa : BoxE w1 w.heap.size 26 ⟨xn, xv, xo, xi, xa, xb, xc, xk⟩ := by
    rw [hw1]
    exact (Below.heap_alloc _ _ _ (by simp)).trans (alloc_box w 26 ⟨xn, xv, xo, xi, xa, xb, xc, xk⟩)
  have hya : BoxE w1 (w.heap.size + 1) 26 ⟨yn, yv, yo, yi, ya, yb, yc, yk⟩ := by
    have := alloc_box (w.alloc (.cells #[.string xn, .string xv, .int .i64 xo, .bool xi, .int .i64 xa, .int .i64 xb, .int .i64 xc, .int .i64 xk] 26)) 26 ⟨yn, yv, yo, yi, ya, yb, yc, yk⟩
    rw [World.size_alloc] at this
    rw [hw1]
    exact this
  have hlt := light_any (h.keep hb1) hz
  have HH := hid_mk h
  have HB1 := hid_mk hb1
  have HXA := hid_mk hxa
  have HYA := hid_mk hya
  have HLV : Hid (∀ W, Below w.heap.size w W → Calls Try.prog 9 #[] W fun e w' => e = .returned (.bool true) ∧ Below w.heap.size w w') := fun W hW => (lives_any W).mono fun _ _ k => ⟨k.1, hW.trans (k.2.mono hW.size)⟩
  obtain ⟨n, hn⟩ : ∃ n, n = l.length := ⟨_, rfl⟩
  have HN := hid_mk hn
  rw [← hn] at hlt ⊢
  have HW1 := hid_mk hw1
  clear h hz hn hb1 hxa hya hw1
  go_enter Try.func7, Try.ntmps7
  go_wp2_with (go_at_call 8; fail)
  rw [← HW1.out]
  refine hlt.mono ?_
  rintro e w2 ⟨⟨b, rfl, hb⟩, hB2⟩
  have HB2 : Hid (Below w.heap.size w w2) := HB1.out.trans (hB2.mono HB1.out.size)
  have HX2 : Hid (BoxE w2 w.heap.size 26 ⟨xn, xv, xo, xi, xa, xb, xc, xk⟩) := HXA.out.keep hB2
  have HY2 : Hid (BoxE w2 (w.heap.size + 1) 26 ⟨yn, yv, yo, yi, ya, yb, yc, yk⟩) := HYA.out.keep hB2
  clear hlt hB2 HXA HYA HW1
  cases b
  · clear hb
    have hlv := HLV.out w2 HB2.out
    go_wp2_with (go_at_call 9; fail)
    refine hlv.mono ?_
    rintro e w3 ⟨rfl, hB3⟩
    have HB3 := hid_mk hB3
    clear hlv hB3
    go_wp2
    go_ret
    exact ⟨rfl, HB3.out⟩
  have hn100 : n ≤ 100 := hb rfl
  clear hb
  obtain ⟨pa, hpa⟩ : ∃ pa, pa = w.heap.size := ⟨_, rfl⟩
  obtain ⟨pb, hpb⟩ : ∃ pb, pb = w.heap.size + 1 := ⟨_, rfl⟩
  rw [← hpb, ← hpa]
  rw [← hpa] at HX2
  rw [← hpb] at HY2
  have hab : pa ≠ pb := by omega
  have HAB : Hid (w.heap.size ≤ pa ∧ w.heap.size ≤ pb) := ⟨by omega, by omega⟩
  clear hpa hpb
  obtain ⟨c0, c1, c2, c3, c4, c5, c6, c7⟩ := HX2.out.cells
  obtain ⟨d0, d1, d2, d3, d4, d5, d6, d7⟩ := HY2.out.cells
  have hfa := HX2.out.free
  have hfb := HY2.out.free
  obtain ⟨w3, hw3⟩ : ∃ w3, w3 = (w2.setCell ⟨pa, 3, none⟩ (.bool true)).setCell ⟨pb, 3, none⟩ (.bool false) := ⟨_, rfl⟩
  have HX3 : Hid (BoxE w3 pa 26 ⟨xn, xv, xo, true, xa, xb, xc, xk⟩) := by rw [hw3]; exact (HX2.out.setIm true).setOther hab _ _
  have HY3 : Hid (BoxE w3 pb 26 ⟨yn, yv, yo, false, ya, yb, yc, yk⟩) := by rw [hw3]; exact (HY2.out.setOther (Ne.symm hab) _ _).setIm false
  have HB3 : Hid (Below w.heap.size w w3) := by rw [hw3]; exact (HB2.out.setCell (p := ⟨pa, 3, none⟩) HAB.out.1 _).setCell (p := ⟨pb, 3, none⟩) HAB.out.2 _
  have HW3 := hid_mk hw3
  clear hw3
  go_upto_region 4 with (fail)
  rw [← HW3.out]
  clear HW3 c0 c1 c2 c3 c4 c5 c6 c7 d0 d1 d2 d3 d4 d5 d6 d7 hfa hfb HX2 HY2 HB2
  obtain ⟨c0, c1, c2, c3, c4, c5, c6, c7⟩ := HX3.out.cells
  obtain ⟨d0, d1, d2, d3, d4, d5, d6, d7⟩ := HY3.out.cells
  dsimp only at c0 c1 c2 c3 c4 c5 c6 c7 d0 d1 d2 d3 d4 d5 d6 d7
  obtain ⟨kn, hkn⟩ : ∃ kn, kn = knw xo yo := ⟨_, rfl⟩
  go_cut [7] (fun a7 wx => a7 = .bool kn ∧ wx = w3)
  case first =>
    have HK := hid_mk hkn
    clear hkn
    by_cases k1 : 1 ≤ xo
    · by_cases k2 : xo ≤ 3
      · by_cases k3 : 1 ≤ yo
        · by_cases k4 : yo ≤ 3
          · go_wp2_with fail
            go_meet
            exact ⟨by rw [HK.out]; simp [knw, k1, k2, k3, k4], rfl⟩
          · go_wp2_with fail
            go_meet
            exact ⟨by rw [HK.out, show knw xo yo = false by unfold knw; simp <;> omega], rfl⟩
        · go_wp2_with fail
          go_meet
          exact ⟨by rw [HK.out, show knw xo yo = false by unfold knw; simp <;> omega], rfl⟩
      · go_wp2_with fail
        go_meet
        exact ⟨by rw [HK.out, show knw xo yo = false by unfold knw; simp <;> omega], rfl⟩
    · go_wp2_with fail
      go_meet
      exact ⟨by rw [HK.out, show knw xo yo = false by unfold knw; simp <;> omega], rfl⟩
  case rest =>
  obtain ⟨rfl, hwc⟩ := hcut
  rw [hwc]
  clear hwc
  have HK := hid_mk hkn
  clear hkn
  cases kn
  · obtain ⟨pc, hpc⟩ : ∃ pc, pc = w3.heap.size := ⟨_, rfl⟩
    obtain ⟨pd, hpd⟩ : ∃ pd, pd = w3.heap.size + 1 := ⟨_, rfl⟩
    obtain ⟨wq, hwq⟩ : ∃ wq, wq = (w3.alloc (.cells #[.string yn, .string yv, .int .i64 yo, .bool true, .int .i64 ya, .int .i64 yb, .int .i64 yc, .int .i64 yk] 26)).alloc (.cells #[.string xn, .string xv, .int .i64 xo, .bool false, .int .i64 xa, .int .i64 xb, .int .i64 xc, .int .i64 xk] 26) := ⟨_, rfl⟩
    have hbq : Below w3.heap.size w3 wq := by rw [hwq]; exact ((Below.refl _ _).alloc (Nat.le_refl _) _).alloc (by simp) _
    have hcq : BoxE wq pc 26 ⟨yn, yv, yo, true, ya, yb, yc, yk⟩ := by
      rw [hwq, hpc]
      exact (Below.heap_alloc _ _ _ (by simp)).trans (alloc_box w3 26 ⟨yn, yv, yo, true, ya, yb, yc, yk⟩)
    have hdq : BoxE wq pd 26 ⟨xn, xv, xo, false, xa, xb, xc, xk⟩ := by
      have := alloc_box (w3.alloc (.cells #[.string yn, .string yv, .int .i64 yo, .bool true, .int .i64 ya, .int .i64 yb, .int .i64 yc, .int .i64 yk] 26)) 26 ⟨xn, xv, xo, false, xa, xb, xc, xk⟩
      rw [World.size_alloc] at this
      rw [hwq, hpd]
      exact this
    have HXQ : Hid (BoxE wq pa 26 ⟨xn, xv, xo, true, xa, xb, xc, xk⟩) := HX3.out.keep hbq
    have HYQ : Hid (BoxE wq pb 26 ⟨yn, yv, yo, false, ya, yb, yc, yk⟩) := HY3.out.keep hbq
    have HBQ : Hid (Below w.heap.size w wq) := HB3.out.trans (hbq.mono HB3.out.size)
    have HS : Hid (∀ w, Below wq.heap.size wq w → (w.cell? ⟨pa, 0, none⟩ = some (.string xn) ∧ w.cell? ⟨pa, 1, none⟩ = some (.string xv) ∧ w.cell? ⟨pa, 2, none⟩ = some (.int .i64 xo) ∧ w.cell? ⟨pa, 3, none⟩ = some (.bool true) ∧ w.cell? ⟨pa, 4, none⟩ = some (.int .i64 xa) ∧ w.cell? ⟨pa, 5, none⟩ = some (.int .i64 xb) ∧ w.cell? ⟨pa, 6, none⟩ = some (.int .i64 xc) ∧ w.cell? ⟨pa, 7, none⟩ = some (.int .i64 xk)) ∧ (w.cell? ⟨pb, 0, none⟩ = some (.string yn) ∧ w.cell? ⟨pb, 1, none⟩ = some (.string yv) ∧ w.cell? ⟨pb, 2, none⟩ = some (.int .i64 yo) ∧ w.cell? ⟨pb, 3, none⟩ = some (.bool false) ∧ w.cell? ⟨pb, 4, none⟩ = some (.int .i64 ya) ∧ w.cell? ⟨pb, 5, none⟩ = some (.int .i64 yb) ∧ w.cell? ⟨pb, 6, none⟩ = some (.int .i64 yc) ∧ w.cell? ⟨pb, 7, none⟩ = some (.int .i64 yk)) ∧ (w.cell? ⟨pc, 0, none⟩ = some (.string yn) ∧ w.cell? ⟨pc, 1, none⟩ = some (.string yv) ∧ w.cell? ⟨pc, 2, none⟩ = some (.int .i64 yo) ∧ w.cell? ⟨pc, 3, none⟩ = some (.bool true) ∧ w.cell? ⟨pc, 4, none⟩ = some (.int .i64 ya) ∧ w.cell? ⟨pc, 5, none⟩ = some (.int .i64 yb) ∧ w.cell? ⟨pc, 6, none⟩ = some (.int .i64 yc) ∧ w.cell? ⟨pc, 7, none⟩ = some (.int .i64 yk)) ∧ (w.cell? ⟨pd, 0, none⟩ = some (.string xn) ∧ w.cell? ⟨pd, 1, none⟩ = some (.string xv) ∧ w.cell? ⟨pd, 2, none⟩ = some (.int .i64 xo) ∧ w.cell? ⟨pd, 3, none⟩ = some (.bool false) ∧ w.cell? ⟨pd, 4, none⟩ = some (.int .i64 xa) ∧ w.cell? ⟨pd, 5, none⟩ = some (.int .i64 xb) ∧ w.cell? ⟨pd, 6, none⟩ = some (.int .i64 xc) ∧ w.cell? ⟨pd, 7, none⟩ = some (.int .i64 xk))) := fun W hW => ⟨(HXQ.out.keep hW).cells, (HYQ.out.keep hW).cells, (hcq.keep hW).cells, (hdq.keep hW).cells⟩
    have HWQ := hid_mk hwq
    have hpal := HX3.out.lt
    have hpbl := HY3.out.lt
    clear hwq hbq hcq hdq
    go_upto_region 11 with (fail)
    rw [← HWQ.out, ← hpd, ← hpc]
    clear hpc hpd HX3 HY3 HB3 hpal hpbl c0 c1 c2 c3 c4 c5 c6 c7 d0 d1 d2 d3 d4 d5 d6 d7
    have gd : Below wq.heap.size wq wq := Below.refl _ _
    have ge : Below wq.heap.size wq wq.drew := gd.drew
    go_cut [67] (fun a67 wx => a67 = .bool false ∧ Hid (Below wq.heap.size wq wx))
    case first =>
      refine wp_region_held_drew (S := (fun w => (w.cell? ⟨pa, 0, none⟩ = some (.string xn) ∧ w.cell? ⟨pa, 1, none⟩ = some (.string xv) ∧ w.cell? ⟨pa, 2, none⟩ = some (.int .i64 xo) ∧ w.cell? ⟨pa, 3, none⟩ = some (.bool true) ∧ w.cell? ⟨pa, 4, none⟩ = some (.int .i64 xa) ∧ w.cell? ⟨pa, 5, none⟩ = some (.int .i64 xb) ∧ w.cell? ⟨pa, 6, none⟩ = some (.int .i64 xc) ∧ w.cell? ⟨pa, 7, none⟩ = some (.int .i64 xk)) ∧ (w.cell? ⟨pb, 0, none⟩ = some (.string yn) ∧ w.cell? ⟨pb, 1, none⟩ = some (.string yv) ∧ w.cell? ⟨pb, 2, none⟩ = some (.int .i64 yo) ∧ w.cell? ⟨pb, 3, none⟩ = some (.bool false) ∧ w.cell? ⟨pb, 4, none⟩ = some (.int .i64 ya) ∧ w.cell? ⟨pb, 5, none⟩ = some (.int .i64 yb) ∧ w.cell? ⟨pb, 6, none⟩ = some (.int .i64 yc) ∧ w.cell? ⟨pb, 7, none⟩ = some (.int .i64 yk)) ∧ (w.cell? ⟨pc, 0, none⟩ = some (.string yn) ∧ w.cell? ⟨pc, 1, none⟩ = some (.string yv) ∧ w.cell? ⟨pc, 2, none⟩ = some (.int .i64 yo) ∧ w.cell? ⟨pc, 3, none⟩ = some (.bool true) ∧ w.cell? ⟨pc, 4, none⟩ = some (.int .i64 ya) ∧ w.cell? ⟨pc, 5, none⟩ = some (.int .i64 yb) ∧ w.cell? ⟨pc, 6, none⟩ = some (.int .i64 yc) ∧ w.cell? ⟨pc, 7, none⟩ = some (.int .i64 yk)) ∧ (w.cell? ⟨pd, 0, none⟩ = some (.string xn) ∧ w.cell? ⟨pd, 1, none⟩ = some (.string xv) ∧ w.cell? ⟨pd, 2, none⟩ = some (.int .i64 xo) ∧ w.cell? ⟨pd, 3, none⟩ = some (.bool false) ∧ w.cell? ⟨pd, 4, none⟩ = some (.int .i64 xa) ∧ w.cell? ⟨pd, 5, none⟩ = some (.int .i64 xb) ∧ w.cell? ⟨pd, 6, none⟩ = some (.int .i64 xc) ∧ w.cell? ⟨pd, 7, none⟩ = some (.int .i64 xk)))) (by kernel_rfl) (HS.out _ ge) (fun hHeld => ?_)
      refine wpAnyH_take (i := 0) (oi := { dst := some 51, op := Op.move (Operand.tmp 7), type := 4, pos := "law.go:117", after := #[], guard := none }) (v := ?_) rfl (by kernel_rfl) (by kernel_rfl) (by kernel_rfl) (fun _ _ _ h => h) (Or.inl ⟨by rfl, ?_⟩) (by assumption) ?_
      rotate_left
      · intro w hSw
        (try dsimp only at hSw)
        go_simp
        try with_reducible rfl
      try simp only [Act.put, List.setIfInBounds_toArray, List.set_cons_zero, List.set_cons_succ]
      refine wpAnyH_take (i := 1) (oi := { dst := some 52, op := Op.move (Operand.tmp 51), type := 4, pos := "law.go:117", after := #[{ on := 0, ground := Ground.data }], guard := none }) (v := ?_) rfl (by kernel_rfl) (by kernel_rfl) (by kernel_rfl) (fun _ _ _ h => h) (Or.inl ⟨by rfl, ?_⟩) (by assumption) ?_
      rotate_left
      · intro w hSw
        (try dsimp only at hSw)
        go_simp
        try with_reducible rfl
      try simp only [Act.put, List.setIfInBounds_toArray, List.set_cons_zero, List.set_cons_succ]
      refine wpAnyH_take (i := 2) (oi := { dst := some 53, op := Op.fieldAddr 26 (Operand.tmp 3) 2, type := 0, pos := "law.go:117", after := #[{ on := 1, ground := Ground.guard }], guard := some (1, true) }) (v := undef) rfl (by kernel_rfl) (by kernel_rfl) (by kernel_rfl) (fun _ _ _ h => h) (Or.inr ⟨by rfl, rfl⟩) (by assumption) ?_
      try simp only [Act.put, List.setIfInBounds_toArray, List.set_cons_zero, List.set_cons_succ]
      refine wpAnyH_take (i := 3) (oi := { dst := some 54, op := Op.load 3 (Operand.tmp 53), type := 3, pos := "law.go:117", after := #[{ on := 2, ground := Ground.data }, { on := 1, ground := Ground.guard }], guard := some (1, true) }) (v := undef) rfl (by kernel_rfl) (by kernel_rfl) (by kernel_rfl) (fun _ _ _ h => h) (Or.inr ⟨by rfl, rfl⟩) (by assumption) ?_
      try simp only [Act.put, List.setIfInBounds_toArray, List.set_cons_zero, List.set_cons_succ]
      refine wpAnyH_take (i := 4) (oi := { dst := some 55, op := Op.fieldAddr 26 (Operand.tmp 4) 2, type := 0, pos := "law.go:117", after := #[{ on := 1, ground := Ground.guard }], guard := some (1, true) }) (v := undef) rfl (by kernel_rfl) (by kernel_rfl) (by kernel_rfl) (fun _ _ _ h => h) (Or.inr ⟨by rfl, rfl⟩) (by assumption) ?_
      try simp only [Act.put, List.setIfInBounds_toArray, List.set_cons_zero, List.set_cons_succ]
      refine wpAnyH_take (i := 5) (oi := { dst := some 56, op := Op.load 3 (Operand.tmp 55), type := 3, pos := "law.go:117", after := #[{ on := 4, ground := Ground.data }, { on := 1, ground := Ground.guard }], guard := some (1, true) }) (v := undef) rfl (by kernel_rfl) (by kernel_rfl) (by kernel_rfl) (fun _ _ _ h => h) (Or.inr ⟨by rfl, rfl⟩) (by assumption) ?_
      try simp only [Act.put, List.setIfInBounds_toArray, List.set_cons_zero, List.set_cons_succ]
      refine wpAnyH_take (i := 6) (oi := { dst := some 57, op := Op.binOp BinOp.neq 3 (Operand.tmp 54) (Operand.tmp 56) 3, type := 4, pos := "law.go:117", after := #[{ on := 3, ground := Ground.data }, { on := 5, ground := Ground.data }, { on := 1, ground := Ground.guard }], guard := some (1, true) }) (v := undef) rfl (by kernel_rfl) (by kernel_rfl) (by kernel_rfl) (fun _ _ _ h => h) (Or.inr ⟨by rfl, rfl⟩) (by assumption) ?_
      try simp only [Act.put, List.setIfInBounds_toArray, List.set_cons_zero, List.set_cons_succ]
      refine wpAnyH_take (i := 7) (oi := { dst := some 58, op := Op.pick (Operand.tmp 52) (Operand.tmp 57) (Operand.const (Value.bool false)), type := 4, pos := "law.go:117", after := #[{ on := 1, ground := Ground.data }, { on := 6, ground := Ground.data }], guard := none }) (v := ?_) rfl (by kernel_rfl) (by kernel_rfl) (by kernel_rfl) (fun _ _ _ h => h) (Or.inl ⟨by rfl, ?_⟩) (by assumption) ?_
      rotate_left
      · intro w hSw
        (try dsimp only at hSw)
        go_simp
        try with_reducible rfl
      try simp only [Act.put, List.setIfInBounds_toArray, List.set_cons_zero, List.set_cons_succ]
      refine wpAnyH_take (i := 8) (oi := { dst := some 59, op := Op.move (Operand.tmp 58), type := 4, pos := "law.go:117", after := #[{ on := 7, ground := Ground.data }, { on := 1, ground := Ground.chain }], guard := none }) (v := ?_) rfl (by kernel_rfl) (by kernel_rfl) (by kernel_rfl) (fun _ _ _ h => h) (Or.inl ⟨by rfl, ?_⟩) (by assumption) ?_
      rotate_left
      · intro w hSw
        (try dsimp only at hSw)
        go_simp
        try with_reducible rfl
      try simp only [Act.put, List.setIfInBounds_toArray, List.set_cons_zero, List.set_cons_succ]
      refine wpAnyH_take (i := 9) (oi := { dst := some 60, op := Op.load 26 (Operand.tmp 3), type := 26, pos := "law.go:117", after := #[{ on := 8, ground := Ground.guard }], guard := some (8, true) }) (v := undef) rfl (by kernel_rfl) (by kernel_rfl) (by kernel_rfl) (fun _ _ _ h => h) (Or.inr ⟨by rfl, rfl⟩) (by assumption) ?_
      try simp only [Act.put, List.setIfInBounds_toArray, List.set_cons_zero, List.set_cons_succ]
      refine wpAnyH_take (i := 10) (oi := { dst := some 61, op := Op.load 26 (Operand.tmp 8), type := 26, pos := "law.go:117", after := #[{ on := 8, ground := Ground.guard }], guard := some (8, true) }) (v := undef) rfl (by kernel_rfl) (by kernel_rfl) (by kernel_rfl) (fun _ _ _ h => h) (Or.inr ⟨by rfl, rfl⟩) (by assumption) ?_
      try simp only [Act.put, List.setIfInBounds_toArray, List.set_cons_zero, List.set_cons_succ]
      refine wpAnyH_take (i := 11) (oi := { dst := some 62, op := Op.call { callee := Callee.value (Operand.func 12), args := #[Operand.tmp 60, Operand.tmp 61], argTypes := #[26, 26] }, type := 4, pos := "law.go:117", after := #[{ on := 9, ground := Ground.data }, { on := 10, ground := Ground.data }, { on := 8, ground := Ground.chain }, { on := 8, ground := Ground.guard }], guard := some (8, true) }) (v := undef) rfl (by kernel_rfl) (by kernel_rfl) (by kernel_rfl) (fun _ _ _ h => h) (Or.inr ⟨by rfl, rfl⟩) (by assumption) ?_
      try simp only [Act.put, List.setIfInBounds_toArray, List.set_cons_zero, List.set_cons_succ]
      refine wpAnyH_take (i := 12) (oi := { dst := some 63, op := Op.load 26 (Operand.tmp 9), type := 26, pos := "law.go:117", after := #[{ on := 8, ground := Ground.guard }], guard := some (8, true) }) (v := undef) rfl (by kernel_rfl) (by kernel_rfl) (by kernel_rfl) (fun _ _ _ h => h) (Or.inr ⟨by rfl, rfl⟩) (by assumption) ?_
      try simp only [Act.put, List.setIfInBounds_toArray, List.set_cons_zero, List.set_cons_succ]
      refine wpAnyH_take (i := 13) (oi := { dst := some 64, op := Op.load 26 (Operand.tmp 4), type := 26, pos := "law.go:117", after := #[{ on := 8, ground := Ground.guard }], guard := some (8, true) }) (v := undef) rfl (by kernel_rfl) (by kernel_rfl) (by kernel_rfl) (fun _ _ _ h => h) (Or.inr ⟨by rfl, rfl⟩) (by assumption) ?_
      try simp only [Act.put, List.setIfInBounds_toArray, List.set_cons_zero, List.set_cons_succ]
      refine wpAnyH_take (i := 14) (oi := { dst := some 65, op := Op.call { callee := Callee.value (Operand.func 12), args := #[Operand.tmp 63, Operand.tmp 64], argTypes := #[26, 26] }, type := 4, pos := "law.go:117", after := #[{ on := 12, ground := Ground.data }, { on := 13, ground := Ground.data }, { on := 11, ground := Ground.chain }, { on := 8, ground := Ground.guard }], guard := some (8, true) }) (v := undef) rfl (by kernel_rfl) (by kernel_rfl) (by kernel_rfl) (fun _ _ _ h => h) (Or.inr ⟨by rfl, rfl⟩) (by assumption) ?_
      try simp only [Act.put, List.setIfInBounds_toArray, List.set_cons_zero, List.set_cons_succ]
      refine wpAnyH_take (i := 15) (oi := { dst := some 66, op := Op.binOp BinOp.eql 4 (Operand.tmp 62) (Operand.tmp 65) 4, type := 4, pos := "law.go:117", after := #[{ on := 11, ground := Ground.data }, { on := 14, ground := Ground.data }, { on := 8, ground := Ground.guard }], guard := some (8, true) }) (v := undef) rfl (by kernel_rfl) (by kernel_rfl) (by kernel_rfl) (fun _ _ _ h => h) (Or.inr ⟨by rfl, rfl⟩) (by assumption) ?_
      try simp only [Act.put, List.setIfInBounds_toArray, List.set_cons_zero, List.set_cons_succ]
      refine wpAnyH_take (i := 16) (oi := { dst := some 67, op := Op.pick (Operand.tmp 59) (Operand.tmp 66) (Operand.const (Value.bool false)), type := 4, pos := "law.go:117", after := #[{ on := 8, ground := Ground.data }, { on := 15, ground := Ground.data }], guard := none }) (v := ?_) rfl (by kernel_rfl) (by kernel_rfl) (by kernel_rfl) (fun _ _ _ h => h) (Or.inl ⟨by rfl, ?_⟩) (by assumption) ?_
      rotate_left
      · intro w hSw
        (try dsimp only at hSw)
        go_simp
        try with_reducible rfl
      try simp only [Act.put, List.setIfInBounds_toArray, List.set_cons_zero, List.set_cons_succ]
      refine wpAnyH_done (by kernel_rfl) ?_ _
      go_wp2_with fail
      go_meet
      exact ⟨rfl, ge⟩
    case rest =>
    obtain ⟨rfl, HBC⟩ := hcut
    have HXC : Hid (BoxE wc pa 26 ⟨xn, xv, xo, true, xa, xb, xc, xk⟩) := HXQ.out.keep HBC.out
    have HYC : Hid (BoxE wc pb 26 ⟨yn, yv, yo, false, ya, yb, yc, yk⟩) := HYQ.out.keep HBC.out
    have HBW : Hid (Below w.heap.size w wc) := HBQ.out.trans (HBC.out.mono HBQ.out.size)
    have hn9 : l.length ≤ 900000 := by rw [← HN.out]; omega
    have hso := sort_any (HH.out.keep HBW.out) hn9
    rw [← HN.out] at hso
    clear gd ge HS HXQ HYQ HBQ HBC
    go_wp2_with (go_at_call 16; fail)
    refine hso.mono ?_
    rintro e w6 ⟨v6, es, rfl, hE6, hF6, hB6⟩
    have HX6 : Hid (BoxE w6 pa 26 ⟨xn, xv, xo, true, xa, xb, xc, xk⟩) := HXC.out.keep hB6
    have HY6 : Hid (BoxE w6 pb 26 ⟨yn, yv, yo, false, ya, yb, yc, yk⟩) := HYC.out.keep hB6
    have HB6 : Hid (Below w.heap.size w w6) := HBW.out.trans (hB6.mono HBW.out.size)
    have hel : es.reverse.length = n := by rw [List.length_reverse, hF6.len, tagF_len, ← HN.out]
    obtain ⟨va, vc, rfl, hes⟩ := hE6.es
    have hso2 := sort_any hes (by rw [hel]; omega)
    have HES : Hid (EsAt w6 va vc es.reverse) := hes
    have HF6 := hid_mk hF6
    rw [hel] at hso2 ⊢
    have HEL := hid_mk hel
    clear hso hE6 hF6 hB6 hes hel HXC HYC HBW hn9
    go_wp2_with (go_at_call 16; fail)
    refine hso2.mono ?_
    rintro e w7 ⟨v7, es', rfl, hE7, hF7, hB7⟩
    have htw := sort_twice HF6.out hF7
    rw [htw] at hE7
    have HX7 : Hid (BoxE w7 pa 26 ⟨xn, xv, xo, true, xa, xb, xc, xk⟩) := HX6.out.keep hB7
    have HY7 : Hid (BoxE w7 pb 26 ⟨yn, yv, yo, false, ya, yb, yc, yk⟩) := HY6.out.keep hB7
    have HB7 : Hid (Below w.heap.size w w7) := HB6.out.trans (hB7.mono HB6.out.size)
    have HES7 : Hid (EsAt w7 va vc es.reverse) := HES.out.keep hB7
    obtain ⟨va7, vc7, rfl, hes7⟩ := hE7.es
    have hpl := plain_any hes7 (by rw [HEL.out]; omega)
    rw [HEL.out] at hpl ⊢
    clear hso2 hE7 hF7 hB7 htw hes7 HX6 HY6 HB6 HES
    go_wp2_with (go_at_call 15; fail)
    refine hpl.mono ?_
    rintro e w8 ⟨⟨v8, rfl, hP8⟩, hB8⟩
    have HX8 : Hid (BoxE w8 pa 26 ⟨xn, xv, xo, true, xa, xb, xc, xk⟩) := HX7.out.keep hB8
    have HY8 : Hid (BoxE w8 pb 26 ⟨yn, yv, yo, false, ya, yb, yc, yk⟩) := HY7.out.keep hB8
    have HB8 : Hid (Below w.heap.size w w8) := HB7.out.trans (hB8.mono HB7.out.size)
    have hpl2 := plain_any (HES7.out.keep hB8) (by rw [HEL.out]; omega)
    obtain ⟨va8, vc8, rfl, hes8⟩ := hP8.es
    have HS8 := hid_mk hes8
    rw [HEL.out] at hpl2 ⊢
    clear hpl hP8 hB8 hes8 HX7 HY7 HB7 HES7
    go_wp2_with (go_at_call 15; fail)
    refine hpl2.mono ?_
    rintro e w9 ⟨⟨v9, rfl, hP9⟩, hB9⟩
    have HX9 : Hid (BoxE w9 pa 26 ⟨xn, xv, xo, true, xa, xb, xc, xk⟩) := HX8.out.keep hB9
    have HY9 : Hid (BoxE w9 pb 26 ⟨yn, yv, yo, false, ya, yb, yc, yk⟩) := HY8.out.keep hB9
    have HB9 : Hid (Below w.heap.size w w9) := HB8.out.trans (hB9.mono HB8.out.size)
    obtain ⟨va9, vc9, rfl, hes9⟩ := hP9.es
    have hsm := rsame_yes (HS8.out.keep hB9) hes9
    rw [HEL.out] at hsm ⊢
    clear hpl2 hP9 hB9 hes9 HX8 HY8 HB8 HS8
    go_wp2_with (go_at_call 14; fail)
    refine hsm.mono ?_
    rintro e w10 ⟨rfl, hB10⟩
    have HXT : Hid (BoxE w10 pa 26 ⟨xn, xv, xo, true, xa, xb, xc, xk⟩) := HX9.out.keep hB10
    have HYT : Hid (BoxE w10 pb 26 ⟨yn, yv, yo, false, ya, yb, yc, yk⟩) := HY9.out.keep hB10
    have HBT : Hid (Below w.heap.size w w10) := HB9.out.trans (hB10.mono HB9.out.size)
    clear hsm hB10 HX9 HY9 HB9
    have HR1 : Hid (∀ W, Calls Try.prog 10 #[.agg #[.string xn, .string xv, .int .i64 xo, .bool true, .int .i64 xa, .int .i64 xb, .int .i64 xc, .int .i64 xk]] W fun e w' => e = .returned (.int .i64 (rankZ xo true)) ∧ Below W.heap.size W w') := fun W => rank_any W ⟨xn, xv, xo, true, xa, xb, xc, xk⟩
    have HR2 : Hid (∀ W, Calls Try.prog 10 #[.agg #[.string yn, .string yv, .int .i64 yo, .bool false, .int .i64 ya, .int .i64 yb, .int .i64 yc, .int .i64 yk]] W fun e w' => e = .returned (.int .i64 (rankZ yo false)) ∧ Below W.heap.size W w') := fun W => rank_any W ⟨yn, yv, yo, false, ya, yb, yc, yk⟩
    obtain ⟨c0, c1, c2, c3, c4, c5, c6, c7⟩ := HXT.out.cells
    dsimp only at c0 c1 c2 c3 c4 c5 c6 c7
    go_wp2_with (go_at_call 10; fail)
    refine (HR1.out _).mono ?_
    rintro e w11 ⟨rfl, hB11⟩
    have HY11 : Hid (BoxE w11 pb 26 ⟨yn, yv, yo, false, ya, yb, yc, yk⟩) := HYT.out.keep hB11
    have HBS : Hid (Below w.heap.size w w11) := HBT.out.trans (hB11.mono HBT.out.size)
    clear c0 c1 c2 c3 c4 c5 c6 c7 hB11 HXT HYT HBT HR1
    by_cases hkx : 1 ≤ xo ∧ xo ≤ 3
    · have hz2 : rankZ yo false = 0 := rank_none (knw_false HK.out.symm hkx) false
      have hrx : (rankZ xo true == 0) = false := by
        rw [(rank_imp hkx.1 hkx.2).1, beq_eq_false_iff_ne]
        omega
      have HR3 : Hid (∀ W, Calls Try.prog 10 #[.agg #[.string yn, .string yv, .int .i64 yo, .bool false, .int .i64 ya, .int .i64 yb, .int .i64 yc, .int .i64 yk]] W fun e w' => e = .returned (.int .i64 0) ∧ Below W.heap.size W w') := by
        have := HR2.out
        rw [hz2] at this
        exact this
      clear hz2 hkx HR2
      obtain ⟨d0, d1, d2, d3, d4, d5, d6, d7⟩ := HY11.out.cells
      dsimp only at d0 d1 d2 d3 d4 d5 d6 d7
      generalize rankZ xo true = rx at *
      go_wp2_with (go_at_call 10; fail)
      refine (HR3.out _).mono ?_
      rintro e w12 ⟨rfl, hB12⟩
      have HBT : Hid (Below w.heap.size w w12) := HBS.out.trans (hB12.mono HBS.out.size)
      clear d0 d1 d2 d3 d4 d5 d6 d7 hB12 HR3
      have hlv := HLV.out w12 HBT.out
      go_wp2_with (go_at_call 9; fail)
      refine hlv.mono ?_
      rintro e w13 ⟨rfl, hB13⟩
      have HB13 := hid_mk hB13
      clear hlv hB13
      go_wp2
      go_ret
      exact ⟨rfl, HB13.out⟩
    · rw [rank_none hkx true]
      have HBT := HBS
      clear hkx HR2
      have hlv := HLV.out w11 HBT.out
      go_wp2_with (go_at_call 9; fail)
      refine hlv.mono ?_
      rintro e w13 ⟨rfl, hB13⟩
      have HB13 := hid_mk hB13
      clear hlv hB13
      go_wp2
      go_ret
      exact ⟨rfl, HB13.out⟩
  · have HL1 : Hid (∀ W, Calls Try.prog 12 #[.agg #[.string yn, .string yv, .int .i64 yo, .bool false, .int .i64 ya, .int .i64 yb, .int .i64 yc, .int .i64 yk], .agg #[.string xn, .string xv, .int .i64 xo, .bool true, .int .i64 xa, .int .i64 xb, .int .i64 xc, .int .i64 xk]] W fun e w' => e = .returned (.bool true) ∧ Below W.heap.size W w') := fun W => by
      have := less_any W ⟨yn, yv, yo, false, ya, yb, yc, yk⟩ ⟨xn, xv, xo, true, xa, xb, xc, xk⟩
      rwa [(imp_wins HK.out.symm).1] at this
    have HL2 : Hid (∀ W, Calls Try.prog 12 #[.agg #[.string xn, .string xv, .int .i64 xo, .bool true, .int .i64 xa, .int .i64 xb, .int .i64 xc, .int .i64 xk], .agg #[.string yn, .string yv, .int .i64 yo, .bool false, .int .i64 ya, .int .i64 yb, .int .i64 yc, .int .i64 yk]] W fun e w' => e = .returned (.bool false) ∧ Below W.heap.size W w') := fun W => by
      have := less_any W ⟨xn, xv, xo, true, xa, xb, xc, xk⟩ ⟨yn, yv, yo, false, ya, yb, yc, yk⟩
      rwa [(imp_wins HK.out.symm).2] at this
    go_wp2_with (go_at_call 12; fail)
    refine (HL1.out _).mono ?_
    rintro e w4 ⟨rfl, hB4⟩
    have HX4 : Hid (BoxE w4 pa 26 ⟨xn, xv, xo, true, xa, xb, xc, xk⟩) := HX3.out.keep hB4
    have HY4 : Hid (BoxE w4 pb 26 ⟨yn, yv, yo, false, ya, yb, yc, yk⟩) := HY3.out.keep hB4
    have HB4 : Hid (Below w.heap.size w w4) := HB3.out.trans (hB4.mono HB3.out.size)
    clear c0 c1 c2 c3 c4 c5 c6 c7 d0 d1 d2 d3 d4 d5 d6 d7 hB4 HL1 HX3 HY3 HB3
    obtain ⟨c0, c1, c2, c3, c4, c5, c6, c7⟩ := HX4.out.cells
    obtain ⟨d0, d1, d2, d3, d4, d5, d6, d7⟩ := HY4.out.cells
    dsimp only at c0 c1 c2 c3 c4 c5 c6 c7 d0 d1 d2 d3 d4 d5 d6 d7
    go_wp2_with (go_at_call 12; fail)
    refine (HL2.out _).mono ?_
    rintro e w5 ⟨rfl, hB5⟩
    have HX3 : Hid (BoxE w5 pa 26 ⟨xn, xv, xo, true, xa, xb, xc, xk⟩) := HX4.out.keep hB5
    have HY3 : Hid (BoxE w5 pb 26 ⟨yn, yv, yo, false, ya, yb, yc, yk⟩) := HY4.out.keep hB5
    have HB3 : Hid (Below w.heap.size w w5) := HB4.out.trans (hB5.mono HB4.out.size)
    clear c0 c1 c2 c3 c4 c5 c6 c7 d0 d1 d2 d3 d4 d5 d6 d7 hB5 HL2 HX4 HY4 HB4
    obtain ⟨c0, c1, c2, c3, c4, c5, c6, c7⟩ := HX3.out.cells
    obtain ⟨d0, d1, d2, d3, d4, d5, d6, d7⟩ := HY3.out.cells
    dsimp only at c0 c1 c2 c3 c4 c5 c6 c7 d0 d1 d2 d3 d4 d5 d6 d7
    obtain ⟨pc, hpc⟩ : ∃ pc, pc = w5.heap.size := ⟨_, rfl⟩
    obtain ⟨pd, hpd⟩ : ∃ pd, pd = w5.heap.size + 1 := ⟨_, rfl⟩
    obtain ⟨wq, hwq⟩ : ∃ wq, wq = (w5.alloc (.cells #[.string yn, .string yv, .int .i64 yo, .bool true, .int .i64 ya, .int .i64 yb, .int .i64 yc, .int .i64 yk] 26)).alloc (.cells #[.string xn, .string xv, .int .i64 xo, .bool false, .int .i64 xa, .int .i64 xb, .int .i64 xc, .int .i64 xk] 26) := ⟨_, rfl⟩
    have hbq : Below w5.heap.size w5 wq := by rw [hwq]; exact ((Below.refl _ _).alloc (Nat.le_refl _) _).alloc (by simp) _
    have hcq : BoxE wq pc 26 ⟨yn, yv, yo, true, ya, yb, yc, yk⟩ := by
      rw [hwq, hpc]
      exact (Below.heap_alloc _ _ _ (by simp)).trans (alloc_box w5 26 ⟨yn, yv, yo, true, ya, yb, yc, yk⟩)
    have hdq : BoxE wq pd 26 ⟨xn, xv, xo, false, xa, xb, xc, xk⟩ := by
      have := alloc_box (w5.alloc (.cells #[.string yn, .string yv, .int .i64 yo, .bool true, .int .i64 ya, .int .i64 yb, .int .i64 yc, .int .i64 yk] 26)) 26 ⟨xn, xv, xo, false, xa, xb, xc, xk⟩
      rw [World.size_alloc] at this
      rw [hwq, hpd]
      exact this
    have HXQ : Hid (BoxE wq pa 26 ⟨xn, xv, xo, true, xa, xb, xc, xk⟩) := HX3.out.keep hbq
    have HYQ : Hid (BoxE wq pb 26 ⟨yn, yv, yo, false, ya, yb, yc, yk⟩) := HY3.out.keep hbq
    have HBQ : Hid (Below w.heap.size w wq) := HB3.out.trans (hbq.mono HB3.out.size)
    have HS : Hid (∀ w, Below wq.heap.size wq w → (w.cell? ⟨pa, 0, none⟩ = some (.string xn) ∧ w.cell? ⟨pa, 1, none⟩ = some (.string xv) ∧ w.cell? ⟨pa, 2, none⟩ = some (.int .i64 xo) ∧ w.cell? ⟨pa, 3, none⟩ = some (.bool true) ∧ w.cell? ⟨pa, 4, none⟩ = some (.int .i64 xa) ∧ w.cell? ⟨pa, 5, none⟩ = some (.int .i64 xb) ∧ w.cell? ⟨pa, 6, none⟩ = some (.int .i64 xc) ∧ w.cell? ⟨pa, 7, none⟩ = some (.int .i64 xk)) ∧ (w.cell? ⟨pb, 0, none⟩ = some (.string yn) ∧ w.cell? ⟨pb, 1, none⟩ = some (.string yv) ∧ w.cell? ⟨pb, 2, none⟩ = some (.int .i64 yo) ∧ w.cell? ⟨pb, 3, none⟩ = some (.bool false) ∧ w.cell? ⟨pb, 4, none⟩ = some (.int .i64 ya) ∧ w.cell? ⟨pb, 5, none⟩ = some (.int .i64 yb) ∧ w.cell? ⟨pb, 6, none⟩ = some (.int .i64 yc) ∧ w.cell? ⟨pb, 7, none⟩ = some (.int .i64 yk)) ∧ (w.cell? ⟨pc, 0, none⟩ = some (.string yn) ∧ w.cell? ⟨pc, 1, none⟩ = some (.string yv) ∧ w.cell? ⟨pc, 2, none⟩ = some (.int .i64 yo) ∧ w.cell? ⟨pc, 3, none⟩ = some (.bool true) ∧ w.cell? ⟨pc, 4, none⟩ = some (.int .i64 ya) ∧ w.cell? ⟨pc, 5, none⟩ = some (.int .i64 yb) ∧ w.cell? ⟨pc, 6, none⟩ = some (.int .i64 yc) ∧ w.cell? ⟨pc, 7, none⟩ = some (.int .i64 yk)) ∧ (w.cell? ⟨pd, 0, none⟩ = some (.string xn) ∧ w.cell? ⟨pd, 1, none⟩ = some (.string xv) ∧ w.cell? ⟨pd, 2, none⟩ = some (.int .i64 xo) ∧ w.cell? ⟨pd, 3, none⟩ = some (.bool false) ∧ w.cell? ⟨pd, 4, none⟩ = some (.int .i64 xa) ∧ w.cell? ⟨pd, 5, none⟩ = some (.int .i64 xb) ∧ w.cell? ⟨pd, 6, none⟩ = some (.int .i64 xc) ∧ w.cell? ⟨pd, 7, none⟩ = some (.int .i64 xk))) := fun W hW => ⟨(HXQ.out.keep hW).cells, (HYQ.out.keep hW).cells, (hcq.keep hW).cells, (hdq.keep hW).cells⟩
    have HWQ := hid_mk hwq
    have hpal := HX3.out.lt
    have hpbl := HY3.out.lt
    clear hwq hbq hcq hdq
    go_upto_region 11 with (fail)
    rw [← HWQ.out, ← hpd, ← hpc]
    clear hpc hpd HX3 HY3 HB3 hpal hpbl c0 c1 c2 c3 c4 c5 c6 c7 d0 d1 d2 d3 d4 d5 d6 d7
    have gd : Below wq.heap.size wq wq := Below.refl _ _
    have ge : Below wq.heap.size wq wq.drew := gd.drew
    go_cut [67] (fun a67 wx => a67 = .bool false ∧ Hid (Below wq.heap.size wq wx))
    case first =>
      by_cases hxy : xo = yo
      · have hne : (xo != yo) = false := by simp [hxy]
        have hxy2 : (xo == yo) = true := by simp [hxy]
        refine wp_region_held_drew (S := (fun w => (w.cell? ⟨pa, 0, none⟩ = some (.string xn) ∧ w.cell? ⟨pa, 1, none⟩ = some (.string xv) ∧ w.cell? ⟨pa, 2, none⟩ = some (.int .i64 xo) ∧ w.cell? ⟨pa, 3, none⟩ = some (.bool true) ∧ w.cell? ⟨pa, 4, none⟩ = some (.int .i64 xa) ∧ w.cell? ⟨pa, 5, none⟩ = some (.int .i64 xb) ∧ w.cell? ⟨pa, 6, none⟩ = some (.int .i64 xc) ∧ w.cell? ⟨pa, 7, none⟩ = some (.int .i64 xk)) ∧ (w.cell? ⟨pb, 0, none⟩ = some (.string yn) ∧ w.cell? ⟨pb, 1, none⟩ = some (.string yv) ∧ w.cell? ⟨pb, 2, none⟩ = some (.int .i64 yo) ∧ w.cell? ⟨pb, 3, none⟩ = some (.bool false) ∧ w.cell? ⟨pb, 4, none⟩ = some (.int .i64 ya) ∧ w.cell? ⟨pb, 5, none⟩ = some (.int .i64 yb) ∧ w.cell? ⟨pb, 6, none⟩ = some (.int .i64 yc) ∧ w.cell? ⟨pb, 7, none⟩ = some (.int .i64 yk)) ∧ (w.cell? ⟨pc, 0, none⟩ = some (.string yn) ∧ w.cell? ⟨pc, 1, none⟩ = some (.string yv) ∧ w.cell? ⟨pc, 2, none⟩ = some (.int .i64 yo) ∧ w.cell? ⟨pc, 3, none⟩ = some (.bool true) ∧ w.cell? ⟨pc, 4, none⟩ = some (.int .i64 ya) ∧ w.cell? ⟨pc, 5, none⟩ = some (.int .i64 yb) ∧ w.cell? ⟨pc, 6, none⟩ = some (.int .i64 yc) ∧ w.cell? ⟨pc, 7, none⟩ = some (.int .i64 yk)) ∧ (w.cell? ⟨pd, 0, none⟩ = some (.string xn) ∧ w.cell? ⟨pd, 1, none⟩ = some (.string xv) ∧ w.cell? ⟨pd, 2, none⟩ = some (.int .i64 xo) ∧ w.cell? ⟨pd, 3, none⟩ = some (.bool false) ∧ w.cell? ⟨pd, 4, none⟩ = some (.int .i64 xa) ∧ w.cell? ⟨pd, 5, none⟩ = some (.int .i64 xb) ∧ w.cell? ⟨pd, 6, none⟩ = some (.int .i64 xc) ∧ w.cell? ⟨pd, 7, none⟩ = some (.int .i64 xk)))) (by kernel_rfl) (HS.out _ ge) (fun hHeld => ?_)
        refine wpAnyH_take (i := 0) (oi := { dst := some 51, op := Op.move (Operand.tmp 7), type := 4, pos := "law.go:117", after := #[], guard := none }) (v := ?_) rfl (by kernel_rfl) (by kernel_rfl) (by kernel_rfl) (fun _ _ _ h => h) (Or.inl ⟨by rfl, ?_⟩) (by assumption) ?_
        rotate_left
        · intro w hSw
          (try dsimp only at hSw)
          go_simp
          try with_reducible rfl
        try simp only [Act.put, List.setIfInBounds_toArray, List.set_cons_zero, List.set_cons_succ]
        refine wpAnyH_take (i := 1) (oi := { dst := some 52, op := Op.move (Operand.tmp 51), type := 4, pos := "law.go:117", after := #[{ on := 0, ground := Ground.data }], guard := none }) (v := ?_) rfl (by kernel_rfl) (by kernel_rfl) (by kernel_rfl) (fun _ _ _ h => h) (Or.inl ⟨by rfl, ?_⟩) (by assumption) ?_
        rotate_left
        · intro w hSw
          (try dsimp only at hSw)
          go_simp
          try with_reducible rfl
        try simp only [Act.put, List.setIfInBounds_toArray, List.set_cons_zero, List.set_cons_succ]
        refine wpAnyH_take (i := 2) (oi := { dst := some 53, op := Op.fieldAddr 26 (Operand.tmp 3) 2, type := 0, pos := "law.go:117", after := #[{ on := 1, ground := Ground.guard }], guard := some (1, true) }) (v := ?_) rfl (by kernel_rfl) (by kernel_rfl) (by kernel_rfl) (fun _ _ _ h => h) (Or.inl ⟨by rfl, ?_⟩) (by assumption) ?_
        rotate_left
        · intro w hSw
          (try dsimp only at hSw)
          go_simp
          try with_reducible rfl
        try simp only [Act.put, List.setIfInBounds_toArray, List.set_cons_zero, List.set_cons_succ]
        refine wpAnyH_take (i := 3) (oi := { dst := some 54, op := Op.load 3 (Operand.tmp 53), type := 3, pos := "law.go:117", after := #[{ on := 2, ground := Ground.data }, { on := 1, ground := Ground.guard }], guard := some (1, true) }) (v := ?_) rfl (by kernel_rfl) (by kernel_rfl) (by kernel_rfl) (fun _ _ _ h => h) (Or.inl ⟨by rfl, ?_⟩) (by assumption) ?_
        rotate_left
        · intro w hSw
          (try dsimp only at hSw)
          go_simp
          try with_reducible rfl
        try simp only [Act.put, List.setIfInBounds_toArray, List.set_cons_zero, List.set_cons_succ]
        refine wpAnyH_take (i := 4) (oi := { dst := some 55, op := Op.fieldAddr 26 (Operand.tmp 4) 2, type := 0, pos := "law.go:117", after := #[{ on := 1, ground := Ground.guard }], guard := some (1, true) }) (v := ?_) rfl (by kernel_rfl) (by kernel_rfl) (by kernel_rfl) (fun _ _ _ h => h) (Or.inl ⟨by rfl, ?_⟩) (by assumption) ?_
        rotate_left
        · intro w hSw
          (try dsimp only at hSw)
          go_simp
          try with_reducible rfl
        try simp only [Act.put, List.setIfInBounds_toArray, List.set_cons_zero, List.set_cons_succ]
        refine wpAnyH_take (i := 5) (oi := { dst := some 56, op := Op.load 3 (Operand.tmp 55), type := 3, pos := "law.go:117", after := #[{ on := 4, ground := Ground.data }, { on := 1, ground := Ground.guard }], guard := some (1, true) }) (v := ?_) rfl (by kernel_rfl) (by kernel_rfl) (by kernel_rfl) (fun _ _ _ h => h) (Or.inl ⟨by rfl, ?_⟩) (by assumption) ?_
        rotate_left
        · intro w hSw
          (try dsimp only at hSw)
          go_simp
          try with_reducible rfl
        try simp only [Act.put, List.setIfInBounds_toArray, List.set_cons_zero, List.set_cons_succ]
        refine wpAnyH_take (i := 6) (oi := { dst := some 57, op := Op.binOp BinOp.neq 3 (Operand.tmp 54) (Operand.tmp 56) 3, type := 4, pos := "law.go:117", after := #[{ on := 3, ground := Ground.data }, { on := 5, ground := Ground.data }, { on := 1, ground := Ground.guard }], guard := some (1, true) }) (v := ?_) rfl (by kernel_rfl) (by kernel_rfl) (by kernel_rfl) (fun _ _ _ h => h) (Or.inl ⟨by rfl, ?_⟩) (by assumption) ?_
        rotate_left
        · intro w hSw
          (try dsimp only at hSw)
          go_simp
          try with_reducible rfl
        try simp only [Act.put, List.setIfInBounds_toArray, List.set_cons_zero, List.set_cons_succ]
        refine wpAnyH_take (i := 7) (oi := { dst := some 58, op := Op.pick (Operand.tmp 52) (Operand.tmp 57) (Operand.const (Value.bool false)), type := 4, pos := "law.go:117", after := #[{ on := 1, ground := Ground.data }, { on := 6, ground := Ground.data }], guard := none }) (v := ?_) rfl (by kernel_rfl) (by kernel_rfl) (by kernel_rfl) (fun _ _ _ h => h) (Or.inl ⟨by rfl, ?_⟩) (by assumption) ?_
        rotate_left
        · intro w hSw
          (try dsimp only at hSw)
          go_simp
          try with_reducible rfl
        try simp only [Act.put, List.setIfInBounds_toArray, List.set_cons_zero, List.set_cons_succ]
        refine wpAnyH_take (i := 8) (oi := { dst := some 59, op := Op.move (Operand.tmp 58), type := 4, pos := "law.go:117", after := #[{ on := 7, ground := Ground.data }, { on := 1, ground := Ground.chain }], guard := none }) (v := ?_) rfl (by kernel_rfl) (by kernel_rfl) (by kernel_rfl) (fun _ _ _ h => h) (Or.inl ⟨by rfl, ?_⟩) (by assumption) ?_
        rotate_left
        · intro w hSw
          (try dsimp only at hSw)
          go_simp
          try with_reducible rfl
        try simp only [Act.put, List.setIfInBounds_toArray, List.set_cons_zero, List.set_cons_succ]
        refine wpAnyH_take (i := 9) (oi := { dst := some 60, op := Op.load 26 (Operand.tmp 3), type := 26, pos := "law.go:117", after := #[{ on := 8, ground := Ground.guard }], guard := some (8, true) }) (v := undef) rfl (by kernel_rfl) (by kernel_rfl) (by kernel_rfl) (fun _ _ _ h => h) (Or.inr ⟨by rfl, rfl⟩) (by assumption) ?_
        try simp only [Act.put, List.setIfInBounds_toArray, List.set_cons_zero, List.set_cons_succ]
        refine wpAnyH_take (i := 10) (oi := { dst := some 61, op := Op.load 26 (Operand.tmp 8), type := 26, pos := "law.go:117", after := #[{ on := 8, ground := Ground.guard }], guard := some (8, true) }) (v := undef) rfl (by kernel_rfl) (by kernel_rfl) (by kernel_rfl) (fun _ _ _ h => h) (Or.inr ⟨by rfl, rfl⟩) (by assumption) ?_
        try simp only [Act.put, List.setIfInBounds_toArray, List.set_cons_zero, List.set_cons_succ]
        refine wpAnyH_take (i := 11) (oi := { dst := some 62, op := Op.call { callee := Callee.value (Operand.func 12), args := #[Operand.tmp 60, Operand.tmp 61], argTypes := #[26, 26] }, type := 4, pos := "law.go:117", after := #[{ on := 9, ground := Ground.data }, { on := 10, ground := Ground.data }, { on := 8, ground := Ground.chain }, { on := 8, ground := Ground.guard }], guard := some (8, true) }) (v := undef) rfl (by kernel_rfl) (by kernel_rfl) (by kernel_rfl) (fun _ _ _ h => h) (Or.inr ⟨by rfl, rfl⟩) (by assumption) ?_
        try simp only [Act.put, List.setIfInBounds_toArray, List.set_cons_zero, List.set_cons_succ]
        refine wpAnyH_take (i := 12) (oi := { dst := some 63, op := Op.load 26 (Operand.tmp 9), type := 26, pos := "law.go:117", after := #[{ on := 8, ground := Ground.guard }], guard := some (8, true) }) (v := undef) rfl (by kernel_rfl) (by kernel_rfl) (by kernel_rfl) (fun _ _ _ h => h) (Or.inr ⟨by rfl, rfl⟩) (by assumption) ?_
        try simp only [Act.put, List.setIfInBounds_toArray, List.set_cons_zero, List.set_cons_succ]
        refine wpAnyH_take (i := 13) (oi := { dst := some 64, op := Op.load 26 (Operand.tmp 4), type := 26, pos := "law.go:117", after := #[{ on := 8, ground := Ground.guard }], guard := some (8, true) }) (v := undef) rfl (by kernel_rfl) (by kernel_rfl) (by kernel_rfl) (fun _ _ _ h => h) (Or.inr ⟨by rfl, rfl⟩) (by assumption) ?_
        try simp only [Act.put, List.setIfInBounds_toArray, List.set_cons_zero, List.set_cons_succ]
        refine wpAnyH_take (i := 14) (oi := { dst := some 65, op := Op.call { callee := Callee.value (Operand.func 12), args := #[Operand.tmp 63, Operand.tmp 64], argTypes := #[26, 26] }, type := 4, pos := "law.go:117", after := #[{ on := 12, ground := Ground.data }, { on := 13, ground := Ground.data }, { on := 11, ground := Ground.chain }, { on := 8, ground := Ground.guard }], guard := some (8, true) }) (v := undef) rfl (by kernel_rfl) (by kernel_rfl) (by kernel_rfl) (fun _ _ _ h => h) (Or.inr ⟨by rfl, rfl⟩) (by assumption) ?_
        try simp only [Act.put, List.setIfInBounds_toArray, List.set_cons_zero, List.set_cons_succ]
        refine wpAnyH_take (i := 15) (oi := { dst := some 66, op := Op.binOp BinOp.eql 4 (Operand.tmp 62) (Operand.tmp 65) 4, type := 4, pos := "law.go:117", after := #[{ on := 11, ground := Ground.data }, { on := 14, ground := Ground.data }, { on := 8, ground := Ground.guard }], guard := some (8, true) }) (v := undef) rfl (by kernel_rfl) (by kernel_rfl) (by kernel_rfl) (fun _ _ _ h => h) (Or.inr ⟨by rfl, rfl⟩) (by assumption) ?_
        try simp only [Act.put, List.setIfInBounds_toArray, List.set_cons_zero, List.set_cons_succ]
        refine wpAnyH_take (i := 16) (oi := { dst := some 67, op := Op.pick (Operand.tmp 59) (Operand.tmp 66) (Operand.const (Value.bool false)), type := 4, pos := "law.go:117", after := #[{ on := 8, ground := Ground.data }, { on := 15, ground := Ground.data }], guard := none }) (v := ?_) rfl (by kernel_rfl) (by kernel_rfl) (by kernel_rfl) (fun _ _ _ h => h) (Or.inl ⟨by rfl, ?_⟩) (by assumption) ?_
        rotate_left
        · intro w hSw
          (try dsimp only at hSw)
          go_simp
          try with_reducible rfl
        try simp only [Act.put, List.setIfInBounds_toArray, List.set_cons_zero, List.set_cons_succ]
        refine wpAnyH_done (by kernel_rfl) ?_ _
        go_wp2_with fail
        go_meet
        exact ⟨rfl, ge⟩
      · have hne : (xo != yo) = true := by simp [hxy]
        have hxy2 : (xo == yo) = false := by simp [hxy]
        obtain ⟨r1, hr1⟩ : ∃ r1, r1 = lessE ⟨xn, xv, xo, true, xa, xb, xc, xk⟩ ⟨yn, yv, yo, true, ya, yb, yc, yk⟩ := ⟨_, rfl⟩
        obtain ⟨r2, hr2⟩ : ∃ r2, r2 = lessE ⟨xn, xv, xo, false, xa, xb, xc, xk⟩ ⟨yn, yv, yo, false, ya, yb, yc, yk⟩ := ⟨_, rfl⟩
        have hrr : (r1 == r2) = false := by
          rw [hr1, hr2]
          exact turn_around HK.out.symm hxy
        have HC1 : Hid (∀ W, Below wq.heap.size wq W → Calls Try.prog 12 #[.agg #[.string xn, .string xv, .int .i64 xo, .bool true, .int .i64 xa, .int .i64 xb, .int .i64 xc, .int .i64 xk], .agg #[.string yn, .string yv, .int .i64 yo, .bool true, .int .i64 ya, .int .i64 yb, .int .i64 yc, .int .i64 yk]] W fun e w' => e = .returned (.bool r1) ∧ Below wq.heap.size wq w') := fun W hW => by rw [hr1]; exact less_atK ⟨xn, xv, xo, true, xa, xb, xc, xk⟩ ⟨yn, yv, yo, true, ya, yb, yc, yk⟩ W hW
        have HC2 : Hid (∀ W, Below wq.heap.size wq W → Calls Try.prog 12 #[.agg #[.string xn, .string xv, .int .i64 xo, .bool false, .int .i64 xa, .int .i64 xb, .int .i64 xc, .int .i64 xk], .agg #[.string yn, .string yv, .int .i64 yo, .bool false, .int .i64 ya, .int .i64 yb, .int .i64 yc, .int .i64 yk]] W fun e w' => e = .returned (.bool r2) ∧ Below wq.heap.size wq w') := fun W hW => by rw [hr2]; exact less_atK ⟨xn, xv, xo, false, xa, xb, xc, xk⟩ ⟨yn, yv, yo, false, ya, yb, yc, yk⟩ W hW
        clear hr1 hr2
        go_region_held3 (fun w => (w.cell? ⟨pa, 0, none⟩ = some (.string xn) ∧ w.cell? ⟨pa, 1, none⟩ = some (.string xv) ∧ w.cell? ⟨pa, 2, none⟩ = some (.int .i64 xo) ∧ w.cell? ⟨pa, 3, none⟩ = some (.bool true) ∧ w.cell? ⟨pa, 4, none⟩ = some (.int .i64 xa) ∧ w.cell? ⟨pa, 5, none⟩ = some (.int .i64 xb) ∧ w.cell? ⟨pa, 6, none⟩ = some (.int .i64 xc) ∧ w.cell? ⟨pa, 7, none⟩ = some (.int .i64 xk)) ∧ (w.cell? ⟨pb, 0, none⟩ = some (.string yn) ∧ w.cell? ⟨pb, 1, none⟩ = some (.string yv) ∧ w.cell? ⟨pb, 2, none⟩ = some (.int .i64 yo) ∧ w.cell? ⟨pb, 3, none⟩ = some (.bool false) ∧ w.cell? ⟨pb, 4, none⟩ = some (.int .i64 ya) ∧ w.cell? ⟨pb, 5, none⟩ = some (.int .i64 yb) ∧ w.cell? ⟨pb, 6, none⟩ = some (.int .i64 yc) ∧ w.cell? ⟨pb, 7, none⟩ = some (.int .i64 yk)) ∧ (w.cell? ⟨pc, 0, none⟩ = some (.string yn) ∧ w.cell? ⟨pc, 1, none⟩ = some (.string yv) ∧ w.cell? ⟨pc, 2, none⟩ = some (.int .i64 yo) ∧ w.cell? ⟨pc, 3, none⟩ = some (.bool true) ∧ w.cell? ⟨pc, 4, none⟩ = some (.int .i64 ya) ∧ w.cell? ⟨pc, 5, none⟩ = some (.int .i64 yb) ∧ w.cell? ⟨pc, 6, none⟩ = some (.int .i64 yc) ∧ w.cell? ⟨pc, 7, none⟩ = some (.int .i64 yk)) ∧ (w.cell? ⟨pd, 0, none⟩ = some (.string xn) ∧ w.cell? ⟨pd, 1, none⟩ = some (.string xv) ∧ w.cell? ⟨pd, 2, none⟩ = some (.int .i64 xo) ∧ w.cell? ⟨pd, 3, none⟩ = some (.bool false) ∧ w.cell? ⟨pd, 4, none⟩ = some (.int .i64 xa) ∧ w.cell? ⟨pd, 5, none⟩ = some (.int .i64 xb) ∧ w.cell? ⟨pd, 6, none⟩ = some (.int .i64 xc) ∧ w.cell? ⟨pd, 7, none⟩ = some (.int .i64 xk)))
          (first | with_reducible exact HS.out _ gd | with_reducible exact HS.out _ ge | with_reducible exact HS.out _ ga | with_reducible exact HS.out _ gb)
          (first
            | (go_at_call 12; with_reducible refine (HC1.out _ ge).mono ?_; rintro e wa ⟨rfl, ga⟩)
            | (go_at_call 12; with_reducible refine (HC2.out _ ga).mono ?_; rintro e wb ⟨rfl, gb⟩))
        go_wp2_with fail
        go_meet
        exact ⟨rfl, gb⟩
    case rest =>
    obtain ⟨rfl, HBC⟩ := hcut
    have HXC : Hid (BoxE wc pa 26 ⟨xn, xv, xo, true, xa, xb, xc, xk⟩) := HXQ.out.keep HBC.out
    have HYC : Hid (BoxE wc pb 26 ⟨yn, yv, yo, false, ya, yb, yc, yk⟩) := HYQ.out.keep HBC.out
    have HBW : Hid (Below w.heap.size w wc) := HBQ.out.trans (HBC.out.mono HBQ.out.size)
    have hn9 : l.length ≤ 900000 := by rw [← HN.out]; omega
    have hso := sort_any (HH.out.keep HBW.out) hn9
    rw [← HN.out] at hso
    clear gd ge HS HXQ HYQ HBQ HBC
    go_wp2_with (go_at_call 16; fail)
    refine hso.mono ?_
    rintro e w6 ⟨v6, es, rfl, hE6, hF6, hB6⟩
    have HX6 : Hid (BoxE w6 pa 26 ⟨xn, xv, xo, true, xa, xb, xc, xk⟩) := HXC.out.keep hB6
    have HY6 : Hid (BoxE w6 pb 26 ⟨yn, yv, yo, false, ya, yb, yc, yk⟩) := HYC.out.keep hB6
    have HB6 : Hid (Below w.heap.size w w6) := HBW.out.trans (hB6.mono HBW.out.size)
    have hel : es.reverse.length = n := by rw [List.length_reverse, hF6.len, tagF_len, ← HN.out]
    obtain ⟨va, vc, rfl, hes⟩ := hE6.es
    have hso2 := sort_any hes (by rw [hel]; omega)
    have HES : Hid (EsAt w6 va vc es.reverse) := hes
    have HF6 := hid_mk hF6
    rw [hel] at hso2 ⊢
    have HEL := hid_mk hel
    clear hso hE6 hF6 hB6 hes hel HXC HYC HBW hn9
    go_wp2_with (go_at_call 16; fail)
    refine hso2.mono ?_
    rintro e w7 ⟨v7, es', rfl, hE7, hF7, hB7⟩
    have htw := sort_twice HF6.out hF7
    rw [htw] at hE7
    have HX7 : Hid (BoxE w7 pa 26 ⟨xn, xv, xo, true, xa, xb, xc, xk⟩) := HX6.out.keep hB7
    have HY7 : Hid (BoxE w7 pb 26 ⟨yn, yv, yo, false, ya, yb, yc, yk⟩) := HY6.out.keep hB7
    have HB7 : Hid (Below w.heap.size w w7) := HB6.out.trans (hB7.mono HB6.out.size)
    have HES7 : Hid (EsAt w7 va vc es.reverse) := HES.out.keep hB7
    obtain ⟨va7, vc7, rfl, hes7⟩ := hE7.es
    have hpl := plain_any hes7 (by rw [HEL.out]; omega)
    rw [HEL.out] at hpl ⊢
    clear hso2 hE7 hF7 hB7 htw hes7 HX6 HY6 HB6 HES
    go_wp2_with (go_at_call 15; fail)
    refine hpl.mono ?_
    rintro e w8 ⟨⟨v8, rfl, hP8⟩, hB8⟩
    have HX8 : Hid (BoxE w8 pa 26 ⟨xn, xv, xo, true, xa, xb, xc, xk⟩) := HX7.out.keep hB8
    have HY8 : Hid (BoxE w8 pb 26 ⟨yn, yv, yo, false, ya, yb, yc, yk⟩) := HY7.out.keep hB8
    have HB8 : Hid (Below w.heap.size w w8) := HB7.out.trans (hB8.mono HB7.out.size)
    have hpl2 := plain_any (HES7.out.keep hB8) (by rw [HEL.out]; omega)
    obtain ⟨va8, vc8, rfl, hes8⟩ := hP8.es
    have HS8 := hid_mk hes8
    rw [HEL.out] at hpl2 ⊢
    clear hpl hP8 hB8 hes8 HX7 HY7 HB7 HES7
    go_wp2_with (go_at_call 15; fail)
    refine hpl2.mono ?_
    rintro e w9 ⟨⟨v9, rfl, hP9⟩, hB9⟩
    have HX9 : Hid (BoxE w9 pa 26 ⟨xn, xv, xo, true, xa, xb, xc, xk⟩) := HX8.out.keep hB9
    have HY9 : Hid (BoxE w9 pb 26 ⟨yn, yv, yo, false, ya, yb, yc, yk⟩) := HY8.out.keep hB9
    have HB9 : Hid (Below w.heap.size w w9) := HB8.out.trans (hB9.mono HB8.out.size)
    obtain ⟨va9, vc9, rfl, hes9⟩ := hP9.es
    have hsm := rsame_yes (HS8.out.keep hB9) hes9
    rw [HEL.out] at hsm ⊢
    clear hpl2 hP9 hB9 hes9 HX8 HY8 HB8 HS8
    go_wp2_with (go_at_call 14; fail)
    refine hsm.mono ?_
    rintro e w10 ⟨rfl, hB10⟩
    have HXT : Hid (BoxE w10 pa 26 ⟨xn, xv, xo, true, xa, xb, xc, xk⟩) := HX9.out.keep hB10
    have HYT : Hid (BoxE w10 pb 26 ⟨yn, yv, yo, false, ya, yb, yc, yk⟩) := HY9.out.keep hB10
    have HBT : Hid (Below w.heap.size w w10) := HB9.out.trans (hB10.mono HB9.out.size)
    clear hsm hB10 HX9 HY9 HB9
    have hlv := HLV.out w10 HBT.out
    go_wp2_with (go_at_call 9; fail)
    refine hlv.mono ?_
    rintro e w13 ⟨rfl, hB13⟩
    have HB13 := hid_mk hB13
    clear hlv hB13
    go_wp2
    go_ret
    exact ⟨rfl, HB13.out⟩
end Go.Proofs.Ytmpppijgjbfolaa.C
