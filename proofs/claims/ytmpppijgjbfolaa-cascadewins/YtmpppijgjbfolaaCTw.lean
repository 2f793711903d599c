/- The law CascadeSorts: the walk. -/
import Derived.Test.YtmpppijgjbfolaaCRs
namespace Go.Proofs.Ytmpppijgjbfolaa.C
open Go.RowKit
set_option maxRecDepth 100000

/-- A row of n. -/
def EsN (w : World) (a : Option Addr) (n c : Nat) (l : List E8) : Prop := l.length = n ∧ EsAt w a c l
theorem EsN.keep {w w' : World} {a : Option Addr} {n c : Nat} {l : List E8} (h : EsN w a n c l) (hb : Below w.heap.size w w') : EsN w' a n c l := ⟨h.1, h.2.keep hb⟩
/-- Two boxes: which was made first is left open. -/
def TwoE (w : World) (x y : E8) (p q : Value) (w' : World) : Prop := ∃ b1 b2, p = .pointer (some ⟨b1, 0, none⟩) ∧ q = .pointer (some ⟨b2, 0, none⟩) ∧ BoxE w' b1 29 x ∧ BoxE w' b2 29 y ∧ Below w.heap.size w w'
theorem sort_n {w : World} {a : Option Addr} {n c : Nat} {l : List E8} (h : EsN w a n c l) (hL : n ≤ 100) : Calls Try.prog 16 #[.slice a n c] w fun e w' => ∃ a1 c1 es, e = .returned (.slice a1 n c1) ∧ Hid (Fall (tagF l 0) es ∧ EsN w' a1 n c1 es.reverse) ∧ Below w.heap.size w w' := by
  obtain ⟨rfl, h⟩ := h
  refine (sort_any h (by omega)).mono ?_
  rintro e w' ⟨v, es, rfl, hE, hF, hB⟩
  have hlen : es.reverse.length = l.length := by
    obtain ⟨ys, rfl, hp, _⟩ := hF
    have := hp.length_eq
    rw [tagF_len] at this
    simpa using this
  obtain ⟨a1, c1, rfl, hA⟩ := hE.es
  rw [hlen]
  exact ⟨a1, c1, es, rfl, ⟨hF, hlen, hA⟩, hB⟩
theorem plain_n {w : World} {a : Option Addr} {n c : Nat} {l : List E8} (h : EsN w a n c l) (hL : n ≤ 100) : Calls Try.prog 15 #[.slice a n c] w fun e w' => ∃ a1 c1, e = .returned (.slice a1 n c1) ∧ Hid (EsN w' a1 n c1 l) ∧ Below w.heap.size w w' := by
  obtain ⟨rfl, h⟩ := h
  refine (plain_any h (by omega)).mono ?_
  rintro e w' ⟨⟨v, rfl, hE⟩, hB⟩
  obtain ⟨a1, c1, rfl, hA⟩ := hE.es
  exact ⟨a1, c1, rfl, ⟨rfl, hA⟩, hB⟩
theorem rsort_n {w : World} {a : Option Addr} {n c : Nat} {l : List E8} (h : EsN w a n c l) (hL : n ≤ 100) : Calls Try.prog 17 #[.slice a n c] w fun e w' => ∃ a1 c1 s, e = .returned (.slice a1 n c1) ∧ Hid (Fall (tagF l 0) s.reverse ∧ EsN w' a1 n c1 s) ∧ Below w.heap.size w w' := by
  obtain ⟨rfl, h⟩ := h
  refine (rsort_any h (by omega)).mono ?_
  rintro e w' ⟨⟨v, s, rfl, hlen, hE, hF⟩, hB⟩
  obtain ⟨a1, c1, rfl, hA⟩ := hE.es
  rw [hlen]
  exact ⟨a1, c1, s, rfl, ⟨hF, hlen, hA⟩, hB⟩
theorem rsame_n {w : World} {a a' : Option Addr} {n c c' : Nat} {l : List E8} (h : EsN w a n c l) (h' : EsN w a' n c' l) : Calls Try.prog 14 #[.slice a n c, .slice a' n c'] w fun e w' => e = .returned (.bool true) ∧ Below w.heap.size w w' := by
  obtain ⟨rfl, h⟩ := h
  exact rsame_yes h h'.2
theorem k5b_of {p q : Prop} (h : Hid (p ∧ q)) : Hid q := h.out.2
theorem k9_of {p q : Prop} {v6 v7 v8 : World} {a : Option Addr} {n c : Nat} {m : List E8} (h : Hid (p ∧ q)) (h6 : Hid (EsN v6 a n c m)) (j7 : Hid (Below v6.heap.size v6 v7)) (j8 : Hid (Below v7.heap.size v7 v8)) : Hid (p ∧ EsN v8 a n c m) := ⟨h.out.1, (h6.out.keep j7.out).keep j8.out⟩

set_option maxHeartbeats 8000000 in
theorem sorts_walk {w : World} {a : Option Addr} {c : Nat} {l : List E8} (h : EsAt w a c l) (hz : ∀ z ∈ l, Szd z) (x y : E8) : Calls Try.prog 3 #[.slice a l.length c, x.val, y.val] w fun e w' => e = .returned (.bool true) ∧ Below w.heap.size w w' := by
  obtain ⟨xn, xv, xo, xi, xa, xb, xc, xk⟩ := x
  obtain ⟨yn, yv, yo, yi, ya, yb, yc, yk⟩ := y
  unfold E8.val
  dsimp only
  obtain ⟨w1, hw1⟩ : ∃ w1, w1 = (w.alloc (.cells #[.string xn, .string xv, .int .i64 xo, .bool xi, .int .i64 xa, .int .i64 xb, .int .i64 xc, .int .i64 xk] 26)).alloc (.cells #[.string yn, .string yv, .int .i64 yo, .bool yi, .int .i64 ya, .int .i64 yb, .int .i64 yc, .int .i64 yk] 26) := ⟨_, rfl⟩
  have hb1 : Below w.heap.size w w1 := by rw [hw1]; exact ((Below.refl _ _).alloc (Nat.le_refl _) _).alloc (by simp) _
  have hxa : BoxE w1 w.heap.size 26 ⟨xn, xv, xo, xi, xa, xb, xc, xk⟩ := by
    rw [hw1]
    exact (Below.heap_alloc _ _ _ (by simp)).trans (alloc_box w 26 ⟨xn, xv, xo, xi, xa, xb, xc, xk⟩)
  have hya : BoxE w1 (w.heap.size + 1) 26 ⟨yn, yv, yo, yi, ya, yb, yc, yk⟩ := by
    have := alloc_box (w.alloc (.cells #[.string xn, .string xv, .int .i64 xo, .bool xi, .int .i64 xa, .int .i64 xb, .int .i64 xc, .int .i64 xk] 26)) 26 ⟨yn, yv, yo, yi, ya, yb, yc, yk⟩
    rw [World.size_alloc] at this
    rw [hw1]
    exact this
  have hlt := light_any (h.keep hb1) hz
  have HH := hid_mk h
  have HB1 := hid_mk hb1
  have HXA := hid_mk hxa
  have HYA := hid_mk hya
  have HLV : Hid (∀ W, Below w.heap.size w W → Calls Try.prog 9 #[] W fun e w' => e = .returned (.bool true) ∧ Below w.heap.size w w') := fun W hW => (lives_any W).mono fun _ _ k => ⟨k.1, hW.trans (k.2.mono hW.size)⟩
  obtain ⟨n, hn⟩ : ∃ n, n = l.length := ⟨_, rfl⟩
  have HN := hid_mk hn
  rw [← hn] at hlt ⊢
  have HW1 := hid_mk hw1
  clear h hz hn hb1 hxa hya hw1
  go_enter Try.func3, Try.ntmps3
  go_wp2_with (go_at_call 8; fail)
  rw [← HW1.out]
  refine hlt.mono ?_
  rintro e w2 ⟨⟨b, rfl, hb⟩, hB2⟩
  have HB2 : Hid (Below w.heap.size w w2) := HB1.out.trans (hB2.mono HB1.out.size)
  have HX2 : Hid (BoxE w2 w.heap.size 26 ⟨xn, xv, xo, xi, xa, xb, xc, xk⟩) := HXA.out.keep hB2
  have HY2 : Hid (BoxE w2 (w.heap.size + 1) 26 ⟨yn, yv, yo, yi, ya, yb, yc, yk⟩) := HYA.out.keep hB2
  clear hlt hB2 HXA HYA HW1
  cases b
  · clear hb
    have hlv := HLV.out w2 HB2.out
    go_wp2_with (go_at_call 9; fail)
    refine hlv.mono ?_
    rintro e w3 ⟨rfl, hB3⟩
    have HB3 := hid_mk hB3
    clear hlv hB3
    go_wp2
    go_ret
    exact ⟨rfl, HB3.out⟩
  have hn100 : n ≤ 100 := hb rfl
  clear hb
  obtain ⟨pa, hpa⟩ : ∃ pa, pa = w.heap.size := ⟨_, rfl⟩
  obtain ⟨pb, hpb⟩ : ∃ pb, pb = w.heap.size + 1 := ⟨_, rfl⟩
  rw [← hpb, ← hpa]
  rw [← hpa] at HX2
  rw [← hpb] at HY2
  clear hpa hpb
  obtain ⟨c0, c1, c2, c3, c4, c5, c6, c7⟩ := HX2.out.cells
  obtain ⟨d0, d1, d2, d3, d4, d5, d6, d7⟩ := HY2.out.cells
  dsimp only at c0 c1 c2 c3 c4 c5 c6 c7 d0 d1 d2 d3 d4 d5 d6 d7
  have npa : ¬ w2.heap.size = pa := fun h => by have := HX2.out.lt; omega
  have npb : ¬ w2.heap.size = pb := fun h => by have := HY2.out.lt; omega
  have npa1 : ¬ w2.heap.size + 1 = pa := fun h => by have := HX2.out.lt; omega
  have npb1 : ¬ w2.heap.size + 1 = pb := fun h => by have := HY2.out.lt; omega
  have lpa : pa < w2.heap.size := HX2.out.lt
  have lpb : pb < w2.heap.size := HY2.out.lt
  have lpa1 : pa < w2.heap.size + 1 := by omega
  have lpb1 : pb < w2.heap.size + 1 := by omega
  go_upto_region 3 with (fail)
  go_cut [7, 8] (fun p q wx => TwoE w2 ⟨xn, xv, xo, xi, xa, xb, xc, xk⟩ ⟨yn, yv, yo, yi, ya, yb, yc, yk⟩ p q wx)
  case first =>
    go_region
    all_goals go_wp2_with fail
    all_goals go_meet
    · obtain ⟨k1, k2, k3⟩ := two_boxes w2 (.cells #[.string xn, .string xv, .int .i64 xo, .bool xi, .int .i64 xa, .int .i64 xb, .int .i64 xc, .int .i64 xk] 29) (.cells #[.string yn, .string yv, .int .i64 yo, .bool yi, .int .i64 ya, .int .i64 yb, .int .i64 yc, .int .i64 yk] 29)
      exact ⟨_, _, rfl, rfl, k1, k2, k3⟩
    · obtain ⟨k1, k2, k3⟩ := two_boxes w2 (.cells #[.string yn, .string yv, .int .i64 yo, .bool yi, .int .i64 ya, .int .i64 yb, .int .i64 yc, .int .i64 yk] 29) (.cells #[.string xn, .string xv, .int .i64 xo, .bool xi, .int .i64 xa, .int .i64 xb, .int .i64 xc, .int .i64 xk] 29)
      exact ⟨_, _, rfl, rfl, k2, k1, k3⟩
  case rest =>
    obtain ⟨b1, b2, rfl, rfl, hk1, hk2, hB⟩ := hcut
    have HBW : Hid (∀ W, Below wc.heap.size wc W → Below w.heap.size w W) := fun W hW => (HB2.out.trans (hB.mono HB2.out.size)).trans (hW.mono (Nat.le_trans HB2.out.size hB.size))
    have HS : Hid (∀ W, Below wc.heap.size wc W → (W.cell? ⟨pa, 0, none⟩ = some (.string xn) ∧ W.cell? ⟨pa, 1, none⟩ = some (.string xv) ∧ W.cell? ⟨pa, 2, none⟩ = some (.int .i64 xo) ∧ W.cell? ⟨pa, 3, none⟩ = some (.bool xi) ∧ W.cell? ⟨pa, 4, none⟩ = some (.int .i64 xa) ∧ W.cell? ⟨pa, 5, none⟩ = some (.int .i64 xb) ∧ W.cell? ⟨pa, 6, none⟩ = some (.int .i64 xc) ∧ W.cell? ⟨pa, 7, none⟩ = some (.int .i64 xk)) ∧ (W.cell? ⟨pb, 0, none⟩ = some (.string yn) ∧ W.cell? ⟨pb, 1, none⟩ = some (.string yv) ∧ W.cell? ⟨pb, 2, none⟩ = some (.int .i64 yo) ∧ W.cell? ⟨pb, 3, none⟩ = some (.bool yi) ∧ W.cell? ⟨pb, 4, none⟩ = some (.int .i64 ya) ∧ W.cell? ⟨pb, 5, none⟩ = some (.int .i64 yb) ∧ W.cell? ⟨pb, 6, none⟩ = some (.int .i64 yc) ∧ W.cell? ⟨pb, 7, none⟩ = some (.int .i64 yk)) ∧ (W.cell? ⟨b1, 0, none⟩ = some (.string xn) ∧ W.cell? ⟨b1, 1, none⟩ = some (.string xv) ∧ W.cell? ⟨b1, 2, none⟩ = some (.int .i64 xo) ∧ W.cell? ⟨b1, 3, none⟩ = some (.bool xi) ∧ W.cell? ⟨b1, 4, none⟩ = some (.int .i64 xa) ∧ W.cell? ⟨b1, 5, none⟩ = some (.int .i64 xb) ∧ W.cell? ⟨b1, 6, none⟩ = some (.int .i64 xc) ∧ W.cell? ⟨b1, 7, none⟩ = some (.int .i64 xk)) ∧ (W.cell? ⟨b2, 0, none⟩ = some (.string yn) ∧ W.cell? ⟨b2, 1, none⟩ = some (.string yv) ∧ W.cell? ⟨b2, 2, none⟩ = some (.int .i64 yo) ∧ W.cell? ⟨b2, 3, none⟩ = some (.bool yi) ∧ W.cell? ⟨b2, 4, none⟩ = some (.int .i64 ya) ∧ W.cell? ⟨b2, 5, none⟩ = some (.int .i64 yb) ∧ W.cell? ⟨b2, 6, none⟩ = some (.int .i64 yc) ∧ W.cell? ⟨b2, 7, none⟩ = some (.int .i64 yk))) := fun W hW => ⟨((HX2.out.keep hB).keep hW).cells, ((HY2.out.keep hB).keep hW).cells, (hk1.keep hW).cells, (hk2.keep hW).cells⟩
    have H10 : Hid (∀ W, Below wc.heap.size wc W → Calls Try.prog 10 #[.agg #[.string xn, .string xv, .int .i64 xo, .bool xi, .int .i64 xa, .int .i64 xb, .int .i64 xc, .int .i64 xk]] W fun e w' => e = .returned (.int .i64 (rankZ xo xi)) ∧ Below wc.heap.size wc w') := fun W hW => (rank_any W ⟨xn, xv, xo, xi, xa, xb, xc, xk⟩).mono fun _ _ k => ⟨k.1, hW.trans (k.2.mono hW.size)⟩
    have H11 : Hid (∀ W, Below wc.heap.size wc W → Calls Try.prog 11 #[.agg #[.string xn, .string xv, .int .i64 xo, .bool xi, .int .i64 xa, .int .i64 xb, .int .i64 xc, .int .i64 xk]] W fun e w' => e = .returned (.int .i64 (rankZ xo xi)) ∧ Below wc.heap.size wc w') := fun W hW => (rrank_any W ⟨xn, xv, xo, xi, xa, xb, xc, xk⟩).mono fun _ _ k => ⟨k.1, hW.trans (k.2.mono hW.size)⟩
    have H12 : Hid (∀ W, Below wc.heap.size wc W → Calls Try.prog 12 #[.agg #[.string xn, .string xv, .int .i64 xo, .bool xi, .int .i64 xa, .int .i64 xb, .int .i64 xc, .int .i64 xk], .agg #[.string yn, .string yv, .int .i64 yo, .bool yi, .int .i64 ya, .int .i64 yb, .int .i64 yc, .int .i64 yk]] W fun e w' => e = .returned (.bool (lessE ⟨xn, xv, xo, xi, xa, xb, xc, xk⟩ ⟨yn, yv, yo, yi, ya, yb, yc, yk⟩)) ∧ Below wc.heap.size wc w') := fun W hW => (less_any W ⟨xn, xv, xo, xi, xa, xb, xc, xk⟩ ⟨yn, yv, yo, yi, ya, yb, yc, yk⟩).mono fun _ _ k => ⟨k.1, hW.trans (k.2.mono hW.size)⟩
    have H13 : Hid (∀ W, Below wc.heap.size wc W → Calls Try.prog 13 #[.agg #[.string xn, .string xv, .int .i64 xo, .bool xi, .int .i64 xa, .int .i64 xb, .int .i64 xc, .int .i64 xk], .agg #[.string yn, .string yv, .int .i64 yo, .bool yi, .int .i64 ya, .int .i64 yb, .int .i64 yc, .int .i64 yk]] W fun e w' => e = .returned (.bool (lessE ⟨xn, xv, xo, xi, xa, xb, xc, xk⟩ ⟨yn, yv, yo, yi, ya, yb, yc, yk⟩)) ∧ Below wc.heap.size wc w') := fun W hW => (rless_any W ⟨xn, xv, xo, xi, xa, xb, xc, xk⟩ ⟨yn, yv, yo, yi, ya, yb, yc, yk⟩).mono fun _ _ k => ⟨k.1, hW.trans (k.2.mono hW.size)⟩
    have HL : Hid (∀ W, Below wc.heap.size wc W → EsN W a n c l) := fun W hW => ⟨HN.out.symm, HH.out.keep (HBW.out W hW)⟩
    have H16 : Hid (∀ W, Below wc.heap.size wc W → Calls Try.prog 16 #[.slice a n c] W fun e w' => ∃ a1 c1 es, e = .returned (.slice a1 n c1) ∧ Hid (Fall (tagF l 0) es ∧ EsN w' a1 n c1 es.reverse) ∧ Below wc.heap.size wc w') := fun W hW => (sort_n (HL.out W hW) hn100).mono fun _ _ k => by
      obtain ⟨a1, c1, es, k1, k2, k3⟩ := k
      exact ⟨a1, c1, es, k1, k2, hW.trans (k3.mono hW.size)⟩
    have H15 : Hid (∀ W a c m, Hid (EsN W a n c m) → Below wc.heap.size wc W → Calls Try.prog 15 #[.slice a n c] W fun e w' => ∃ a1 c1, e = .returned (.slice a1 n c1) ∧ Hid (EsN w' a1 n c1 m) ∧ Hid (Below W.heap.size W w') ∧ Below wc.heap.size wc w') := fun W a c m hm hW => (plain_n hm.out hn100).mono fun _ _ k => by
      obtain ⟨a1, c1, k1, k2, k3⟩ := k
      exact ⟨a1, c1, k1, k2, k3, hW.trans (k3.mono hW.size)⟩
    have H17 : Hid (∀ W a c, Hid (EsN W a n c l) → Below wc.heap.size wc W → Calls Try.prog 17 #[.slice a n c] W fun e w' => ∃ a1 c1 s, e = .returned (.slice a1 n c1) ∧ Hid (Fall (tagF l 0) s.reverse ∧ EsN w' a1 n c1 s) ∧ Hid (Below W.heap.size W w') ∧ Below wc.heap.size wc w') := fun W a c hm hW => (rsort_n hm.out hn100).mono fun _ _ k => by
      obtain ⟨a1, c1, s, k1, k2, k3⟩ := k
      exact ⟨a1, c1, s, k1, k2, k3, hW.trans (k3.mono hW.size)⟩
    have H14 : Hid (∀ W a c a' c' es s, Hid (Fall (tagF l 0) es ∧ EsN W a n c es.reverse) → Hid (Fall (tagF l 0) s.reverse ∧ EsN W a' n c' s) → Below wc.heap.size wc W → Calls Try.prog 14 #[.slice a n c, .slice a' n c'] W fun e w' => e = .returned (.bool true) ∧ Below wc.heap.size wc w') := fun W a c a' c' es s h1 h2 hW => by
      have he : es.reverse = s := by rw [Fall.same h1.out.1 h2.out.1, List.reverse_reverse]
      have h3 := h1.out.2
      rw [he] at h3
      exact (rsame_n h3 h2.out.2).mono fun _ _ k => ⟨k.1, hW.trans (k.2.mono hW.size)⟩
    have H9 : Hid (∀ W, Below wc.heap.size wc W → Calls Try.prog 9 #[] W fun e w' => e = .returned (.bool true) ∧ Below wc.heap.size wc w') := fun W hW => (lives_any W).mono fun _ _ k => ⟨k.1, hW.trans (k.2.mono hW.size)⟩
    have HL2 : Hid (∀ W, Below wc.heap.size wc W → Hid (EsN W a n c l)) := fun W hW => hid_mk (HL.out W hW)
    have gd : Below wc.heap.size wc wc := Below.refl _ _
    have ge : Below wc.heap.size wc wc.drew := gd.drew
    clear c0 c1 c2 c3 c4 c5 c6 c7 d0 d1 d2 d3 d4 d5 d6 d7 hk1 hk2 hB HX2 HY2 HB2 HLV HL hn100
    generalize rankZ xo xi = rx at *
    generalize lessE ⟨xn, xv, xo, xi, xa, xb, xc, xk⟩ ⟨yn, yv, yo, yi, ya, yb, yc, yk⟩ = lx at *
    go_upto_region 4 with (fail)
    go_region_held3 (fun w => (w.cell? ⟨pa, 0, none⟩ = some (.string xn) ∧ w.cell? ⟨pa, 1, none⟩ = some (.string xv) ∧ w.cell? ⟨pa, 2, none⟩ = some (.int .i64 xo) ∧ w.cell? ⟨pa, 3, none⟩ = some (.bool xi) ∧ w.cell? ⟨pa, 4, none⟩ = some (.int .i64 xa) ∧ w.cell? ⟨pa, 5, none⟩ = some (.int .i64 xb) ∧ w.cell? ⟨pa, 6, none⟩ = some (.int .i64 xc) ∧ w.cell? ⟨pa, 7, none⟩ = some (.int .i64 xk)) ∧ (w.cell? ⟨pb, 0, none⟩ = some (.string yn) ∧ w.cell? ⟨pb, 1, none⟩ = some (.string yv) ∧ w.cell? ⟨pb, 2, none⟩ = some (.int .i64 yo) ∧ w.cell? ⟨pb, 3, none⟩ = some (.bool yi) ∧ w.cell? ⟨pb, 4, none⟩ = some (.int .i64 ya) ∧ w.cell? ⟨pb, 5, none⟩ = some (.int .i64 yb) ∧ w.cell? ⟨pb, 6, none⟩ = some (.int .i64 yc) ∧ w.cell? ⟨pb, 7, none⟩ = some (.int .i64 yk)) ∧ (w.cell? ⟨b1, 0, none⟩ = some (.string xn) ∧ w.cell? ⟨b1, 1, none⟩ = some (.string xv) ∧ w.cell? ⟨b1, 2, none⟩ = some (.int .i64 xo) ∧ w.cell? ⟨b1, 3, none⟩ = some (.bool xi) ∧ w.cell? ⟨b1, 4, none⟩ = some (.int .i64 xa) ∧ w.cell? ⟨b1, 5, none⟩ = some (.int .i64 xb) ∧ w.cell? ⟨b1, 6, none⟩ = some (.int .i64 xc) ∧ w.cell? ⟨b1, 7, none⟩ = some (.int .i64 xk)) ∧ (w.cell? ⟨b2, 0, none⟩ = some (.string yn) ∧ w.cell? ⟨b2, 1, none⟩ = some (.string yv) ∧ w.cell? ⟨b2, 2, none⟩ = some (.int .i64 yo) ∧ w.cell? ⟨b2, 3, none⟩ = some (.bool yi) ∧ w.cell? ⟨b2, 4, none⟩ = some (.int .i64 ya) ∧ w.cell? ⟨b2, 5, none⟩ = some (.int .i64 yb) ∧ w.cell? ⟨b2, 6, none⟩ = some (.int .i64 yc) ∧ w.cell? ⟨b2, 7, none⟩ = some (.int .i64 yk)))
      (first | with_reducible exact HS.out _ gd | with_reducible exact HS.out _ ge | with_reducible exact HS.out _ g1 | with_reducible exact HS.out _ g2 | with_reducible exact HS.out _ g3 | with_reducible exact HS.out _ g4 | with_reducible exact HS.out _ g5 | with_reducible exact HS.out _ g6 | with_reducible exact HS.out _ g7 | with_reducible exact HS.out _ g8 | with_reducible exact HS.out _ g9 | with_reducible exact HS.out _ gx)
      (first
        | (go_at_call 10; with_reducible refine (H10.out _ ge).mono ?_; rintro e v1 ⟨rfl, g1⟩)
        | (go_at_call 11; with_reducible refine (H11.out _ g1).mono ?_; rintro e v2 ⟨rfl, g2⟩)
        | (go_at_call 12; with_reducible refine (H12.out _ g2).mono ?_; rintro e v3 ⟨rfl, g3⟩)
        | (go_at_call 13; with_reducible refine (H13.out _ g3).mono ?_; rintro e v4 ⟨rfl, g4⟩)
        | (go_at_call 16; with_reducible refine (H16.out _ g4).mono ?_; rintro e v5 ⟨a1, c1, es, rfl, k5, g5⟩; have k5b := k5b_of k5)
        | (go_at_call 15; with_reducible refine (H15.out _ _ _ _ k5b g5).mono ?_; rintro e v6 ⟨a2, c2, rfl, k6, j6, g6⟩; have k6b := HL2.out _ g6)
        | (go_at_call 15; with_reducible refine (H15.out _ _ _ _ k6b g6).mono ?_; rintro e v7 ⟨a3, c3, rfl, k7, j7, g7⟩)
        | (go_at_call 17; with_reducible refine (H17.out _ _ _ k7 g7).mono ?_; rintro e v8 ⟨a4, c4, s, rfl, k8, j8, g8⟩; have k9 := k9_of k5 k6 j7 j8)
        | (go_at_call 14; with_reducible refine (H14.out _ _ _ _ _ _ _ k9 k8 g8).mono ?_; rintro e v9 ⟨rfl, g9⟩)
        | (go_at_call 9; with_reducible refine (H9.out _ g9).mono ?_; rintro e vx ⟨rfl, gx⟩))
    have HE := hid_mk (HBW.out _ gx)
    clear gd ge g1 g2 g3 g4 g5 g6 g7 g8 g9 gx HS
    go_wp2
    go_ret
    exact ⟨rfl, HE.out⟩
end Go.Proofs.Ytmpppijgjbfolaa.C
