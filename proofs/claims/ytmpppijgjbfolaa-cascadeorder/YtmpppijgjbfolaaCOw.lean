/- The law CascadeOrder: the walk. -/
import Derived.Test.YtmpppijgjbfolaaCOm
namespace Go.Proofs.Ytmpppijgjbfolaa.C
open Go.RowKit
set_option maxRecDepth 100000

theorem EO.keep2 {w w' : World} {B : Nat} {v : Value} {l : List E8} (h : EO w B v l) (hb : Below w.heap.size w w') : EO w' B v l := ownsRow_below h hb
/-- Less, asked of what two boxes hold, in any later world. -/
theorem less_at {W : World} (x y : E8) (w : World) (h : Below W.heap.size W w) : Calls Try.prog 12 #[x.val, y.val] w fun e w' => e = .returned (.bool (lessE x y)) ∧ Below W.heap.size W w' := (less_any w x y).mono fun _ _ k => ⟨k.1, h.trans (k.2.mono h.size)⟩
theorem lives_at {W : World} (w : World) (h : Below W.heap.size W w) : Calls Try.prog 9 #[] w fun e w' => e = .returned (.bool true) ∧ Below W.heap.size W w' := (lives_any w).mono fun _ _ k => ⟨k.1, h.trans (k.2.mono h.size)⟩

set_option maxHeartbeats 8000000 in
theorem order_walk {w : World} {a : Option Addr} {c : Nat} {l : List E8} (h : EsAt w a c l) (hz : ∀ z ∈ l, Szd z) (name : ByteArray) (hnm : name.size ≤ 140737488351232) : Calls Try.prog 5 #[.slice a l.length c, .string name] w fun e w' => e = .returned (.bool true) ∧ Below w.heap.size w w' := by
  have hlt := light_any h hz
  have HH := hid_mk h
  have hcap := h.cap
  clear h hz
  obtain ⟨n, hn⟩ : ∃ n, n = l.length := ⟨_, rfl⟩
  have HN := hid_mk hn
  rw [← hn] at hlt hcap ⊢
  clear hn
  go_enter Try.func5, Try.ntmps5
  go_wp2_with (go_at_call 8; fail)
  refine hlt.mono ?_
  rintro e w1 ⟨⟨b, rfl, hb⟩, hB1⟩
  have HB1 := hid_mk hB1
  clear hlt hB1
  have HLV : Hid (∀ W, Below w.heap.size w W → Calls Try.prog 9 #[] W fun e w' => e = .returned (.bool true) ∧ Below w.heap.size w w') := fun W hW => lives_at W hW
  have hlv := HLV.out w1 HB1.out
  cases b
  · clear hb
    go_wp2_with (go_at_call 9; fail)
    refine hlv.mono ?_
    rintro e w2 ⟨rfl, hB2⟩
    have HB2 := hid_mk hB2
    clear hlv hB2
    go_wp2
    go_ret
    exact ⟨rfl, HB2.out⟩
  have hn100 : n ≤ 100 := hb rfl
  clear hb
  by_cases h30 : 30 < n
  · have d30 : decide ((30 : Int) < (n : Int)) = true := decide_eq_true (by omega)
    go_wp2_with (go_at_call 9; fail)
    refine hlv.mono ?_
    rintro e w2 ⟨rfl, hB2⟩
    have HB2 := hid_mk hB2
    clear hlv hB2
    go_wp2
    go_ret
    exact ⟨rfl, HB2.out⟩
  have d30 : decide ((30 : Int) < (n : Int)) = false := decide_eq_false (by omega)
  by_cases h1000 : 1000 < name.size
  · have d1000 : decide ((1000 : Int) < (name.size : Int)) = true := decide_eq_true (by omega)
    go_wp2_with (go_at_call 9; fail)
    refine hlv.mono ?_
    rintro e w2 ⟨rfl, hB2⟩
    have HB2 := hid_mk hB2
    clear hlv hB2
    go_wp2
    go_ret
    exact ⟨rfl, HB2.out⟩
  have d1000 : decide ((1000 : Int) < (name.size : Int)) = false := decide_eq_false (by omega)
  clear hlv
  go_wp2
  clear d30 d1000
  go_loopw [32] (fun a32 wr => ∃ i : Nat, i ≤ n ∧ a32 = .int .i64 (i : Int) ∧ Hid (Below w.heap.size w wr)) (fun a32 _ => n + 1 - (intOf a32).toNat)
  case atStart => exact ⟨0, Nat.zero_le _, rfl, HB1.out⟩
  case round =>
    clear HB1
    obtain ⟨i, hi, rfl, HBi⟩ := hrel
    by_cases hlt : i < n
    · have hd : decide ((i : Int) < (n : Int)) = true := decide_eq_true (by omega)
      have hil : i < l.length := by rw [← HN.out]; exact hlt
      obtain ⟨ba, off, rfl, hba, c0, c1, c2, c3, c4, c5, c6, c7⟩ := (HH.out.keep HBi.out).at hil
      generalize l[i] = x at *
      obtain ⟨xn, xv, xo, xi, xa, xb, xc, xk⟩ := x
      dsimp only at *
      obtain ⟨w2, hw2⟩ : ∃ w2, w2 = wr.alloc (.cells #[.string xn, .string xv, .int .i64 xo, .bool xi, .int .i64 xa, .int .i64 xb, .int .i64 xc, .int .i64 xk] 26) := ⟨_, rfl⟩
      have HX : Hid (BoxE w2 wr.heap.size 26 ⟨xn, xv, xo, xi, xa, xb, xc, xk⟩) := by rw [hw2]; exact alloc_box wr 26 ⟨xn, xv, xo, xi, xa, xb, xc, xk⟩
      have HB2 : Hid (Below w.heap.size w w2) := by rw [hw2]; exact HBi.out.alloc HBi.out.size _
      have HW2 := hid_mk hw2
      clear hw2 hba
      go_wp2
      rw [← HW2.out]
      clear HW2 c0 c1 c2 c3 c4 c5 c6 c7 HBi
      obtain ⟨pa, hpa⟩ : ∃ pa, pa = wr.heap.size := ⟨_, rfl⟩
      rw [← hpa] at HX ⊢
      clear hpa
      go_loopw [38] (fun a38 wq => ∃ j : Nat, j ≤ n ∧ a38 = .int .i64 (j : Int) ∧ Hid (Below w2.heap.size w2 wq)) (fun a38 _ => n + 1 - (intOf a38).toNat)
      case atStart => exact ⟨0, Nat.zero_le _, rfl, Below.refl _ _⟩
      case round =>
        obtain ⟨j, hj, rfl, HBj⟩ := hrel
        by_cases hjt : j < n
        · have hdj : decide ((j : Int) < (n : Int)) = true := decide_eq_true (by omega)
          have hjl : j < l.length := by rw [← HN.out]; exact hjt
          obtain ⟨bb, off2, eb, hbb, c0, c1, c2, c3, c4, c5, c6, c7⟩ := (HH.out.keep (HB2.out.trans (HBj.out.mono HB2.out.size))).at hjl
          cases eb
          generalize l[j] = y at *
          obtain ⟨yn, yv, yo, yi, ya, yb, yc, yk⟩ := y
          dsimp only at *
          obtain ⟨w3, hw3⟩ : ∃ w3, w3 = wr.alloc (.cells #[.string yn, .string yv, .int .i64 yo, .bool yi, .int .i64 ya, .int .i64 yb, .int .i64 yc, .int .i64 yk] 26) := ⟨_, rfl⟩
          have HY : Hid (BoxE w3 wr.heap.size 26 ⟨yn, yv, yo, yi, ya, yb, yc, yk⟩) := by rw [hw3]; exact alloc_box wr 26 ⟨yn, yv, yo, yi, ya, yb, yc, yk⟩
          have HB3 : Hid (Below w2.heap.size w2 w3) := by rw [hw3]; exact HBj.out.alloc HBj.out.size _
          have HX3 : Hid (BoxE w3 pa 26 ⟨xn, xv, xo, xi, xa, xb, xc, xk⟩) := HX.out.keep HB3.out
          have HW3 := hid_mk hw3
          clear hw3 hbb
          go_wp2
          rw [← HW3.out]
          clear HW3 c0 c1 c2 c3 c4 c5 c6 c7 HBj
          obtain ⟨pb, hpb⟩ : ∃ pb, pb = wr.heap.size := ⟨_, rfl⟩
          rw [← hpb] at HY ⊢
          clear hpb
          go_loopw [44] (fun a44 wz => ∃ k : Nat, k ≤ n ∧ a44 = .int .i64 (k : Int) ∧ Hid (Below w3.heap.size w3 wz)) (fun a44 _ => n + 1 - (intOf a44).toNat)
          case atStart => exact ⟨0, Nat.zero_le _, rfl, Below.refl _ _⟩
          case round =>
            obtain ⟨k, hk, rfl, HBk⟩ := hrel
            by_cases hkt : k < n
            · have hdk : decide ((k : Int) < (n : Int)) = true := decide_eq_true (by omega)
              have hkl : k < l.length := by rw [← HN.out]; exact hkt
              have HBwk : Hid (Below w.heap.size w wr) := HB2.out.trans ((HB3.out.trans (HBk.out.mono HB3.out.size)).mono HB2.out.size)
              obtain ⟨bc, off3, ec, hbc, c0, c1, c2, c3, c4, c5, c6, c7⟩ := (HH.out.keep HBwk.out).at hkl
              cases ec
              generalize l[k] = z at *
              obtain ⟨zn, zv, zo, zi, za, zb, zc, zk⟩ := z
              dsimp only at *
              obtain ⟨w4, hw4⟩ : ∃ w4, w4 = wr.alloc (.cells #[.string zn, .string zv, .int .i64 zo, .bool zi, .int .i64 za, .int .i64 zb, .int .i64 zc, .int .i64 zk] 26) := ⟨_, rfl⟩
              have HZ : Hid (BoxE w4 wr.heap.size 26 ⟨zn, zv, zo, zi, za, zb, zc, zk⟩) := by rw [hw4]; exact alloc_box wr 26 ⟨zn, zv, zo, zi, za, zb, zc, zk⟩
              have HB4 : Hid (Below w3.heap.size w3 w4) := by rw [hw4]; exact HBk.out.alloc HBk.out.size _
              have HCC : Hid (∀ W, Below w4.heap.size w4 W → BoxE W pa 26 ⟨xn, xv, xo, xi, xa, xb, xc, xk⟩ ∧ BoxE W pb 26 ⟨yn, yv, yo, yi, ya, yb, yc, yk⟩ ∧ BoxE W wr.heap.size 26 ⟨zn, zv, zo, zi, za, zb, zc, zk⟩) := fun W hW => ⟨(HX3.out.keep HB4.out).keep hW, (HY.out.keep HB4.out).keep hW, HZ.out.keep hW⟩
              have HFIN : Hid (∀ W, Below w4.heap.size w4 W → Below w3.heap.size w3 W) := fun W hW => HB4.out.trans (hW.mono HB4.out.size)
              have HW4 := hid_mk hw4
              clear hw4 hbc
              obtain ⟨l1, hl1⟩ : ∃ l1, l1 = lessE ⟨xn, xv, xo, xi, xa, xb, xc, xk⟩ ⟨yn, yv, yo, yi, ya, yb, yc, yk⟩ := ⟨_, rfl⟩
              have H1 : Hid (∀ W, Below w4.heap.size w4 W → Calls Try.prog 12 #[.agg #[.string xn, .string xv, .int .i64 xo, .bool xi, .int .i64 xa, .int .i64 xb, .int .i64 xc, .int .i64 xk], .agg #[.string yn, .string yv, .int .i64 yo, .bool yi, .int .i64 ya, .int .i64 yb, .int .i64 yc, .int .i64 yk]] W fun e w' => e = .returned (.bool l1) ∧ Below w4.heap.size w4 w') := fun W hW => by rw [hl1]; exact less_at ⟨xn, xv, xo, xi, xa, xb, xc, xk⟩ ⟨yn, yv, yo, yi, ya, yb, yc, yk⟩ W hW
              go_upto_region 12 with (fail)
              rw [← HW4.out]
              obtain ⟨hx, hy, hzz⟩ := HCC.out w4 (Below.refl _ _)
              obtain ⟨x0, x1, x2, x3, x4, x5, x6, x7⟩ := hx.cells
              obtain ⟨y0, y1, y2, y3, y4, y5, y6, y7⟩ := hy.cells
              clear hx hy hzz c0 c1 c2 c3 c4 c5 c6 c7
              go_wp2_with (go_at_call 12; fail)
              refine (H1.out _ (Below.refl _ _)).mono ?_
              rintro e w5 ⟨rfl, g5⟩
              cases l1
              · have HF5 := hid_mk (HFIN.out w5 g5)
                clear hl1 g5 H1 x0 x1 x2 x3 x4 x5 x6 x7 y0 y1 y2 y3 y4 y5 y6 y7 HCC HFIN
                go_wp2
                refine ⟨⟨k + 1, by omega, by simp, HF5.out⟩, ?_⟩
                simp only [intOf]
                omega
              have HL1 := hid_mk hl1
              obtain ⟨l3, hl3⟩ : ∃ l3, l3 = lessE ⟨yn, yv, yo, yi, ya, yb, yc, yk⟩ ⟨zn, zv, zo, zi, za, zb, zc, zk⟩ := ⟨_, rfl⟩
              have H2 : Hid (∀ W, Below w4.heap.size w4 W → Calls Try.prog 12 #[.agg #[.string yn, .string yv, .int .i64 yo, .bool yi, .int .i64 ya, .int .i64 yb, .int .i64 yc, .int .i64 yk], .agg #[.string xn, .string xv, .int .i64 xo, .bool xi, .int .i64 xa, .int .i64 xb, .int .i64 xc, .int .i64 xk]] W fun e w' => e = .returned (.bool false) ∧ Below w4.heap.size w4 w') := fun W hW => by
                have := less_at ⟨yn, yv, yo, yi, ya, yb, yc, yk⟩ ⟨xn, xv, xo, xi, xa, xb, xc, xk⟩ W hW
                rwa [lessE_asym hl1.symm] at this
              have H3 : Hid (∀ W, Below w4.heap.size w4 W → Calls Try.prog 12 #[.agg #[.string yn, .string yv, .int .i64 yo, .bool yi, .int .i64 ya, .int .i64 yb, .int .i64 yc, .int .i64 yk], .agg #[.string zn, .string zv, .int .i64 zo, .bool zi, .int .i64 za, .int .i64 zb, .int .i64 zc, .int .i64 zk]] W fun e w' => e = .returned (.bool l3) ∧ Below w4.heap.size w4 w') := fun W hW => by rw [hl3]; exact less_at ⟨yn, yv, yo, yi, ya, yb, yc, yk⟩ ⟨zn, zv, zo, zi, za, zb, zc, zk⟩ W hW
              have H4 : Hid (l3 = true → ∀ W, Below w4.heap.size w4 W → Calls Try.prog 12 #[.agg #[.string xn, .string xv, .int .i64 xo, .bool xi, .int .i64 xa, .int .i64 xb, .int .i64 xc, .int .i64 xk], .agg #[.string zn, .string zv, .int .i64 zo, .bool zi, .int .i64 za, .int .i64 zb, .int .i64 zc, .int .i64 zk]] W fun e w' => e = .returned (.bool true) ∧ Below w4.heap.size w4 w') := fun h3 W hW => by
                have := less_at ⟨xn, xv, xo, xi, xa, xb, xc, xk⟩ ⟨zn, zv, zo, zi, za, zb, zc, zk⟩ W hW
                rwa [lessE_tr hl1.symm (hl3.symm.trans h3)] at this
              obtain ⟨hx, hy, hzz⟩ := HCC.out w5 g5
              clear hl1 hl3 x0 x1 x2 x3 x4 x5 x6 x7 y0 y1 y2 y3 y4 y5 y6 y7 H1
              obtain ⟨x0, x1, x2, x3, x4, x5, x6, x7⟩ := hx.cells
              obtain ⟨y0, y1, y2, y3, y4, y5, y6, y7⟩ := hy.cells
              clear hx hy hzz
              go_wp2_with (go_at_call 12; fail)
              refine (H2.out _ g5).mono ?_
              rintro e w6 ⟨rfl, g6⟩
              obtain ⟨hx, hy, hzz⟩ := HCC.out w6 g6
              clear g5 x0 x1 x2 x3 x4 x5 x6 x7 y0 y1 y2 y3 y4 y5 y6 y7 H2
              obtain ⟨z0, z1, z2, z3, z4, z5, z6, z7⟩ := hzz.cells
              obtain ⟨y0, y1, y2, y3, y4, y5, y6, y7⟩ := hy.cells
              clear hx hy hzz
              go_wp2_with (go_at_call 12; fail)
              refine (H3.out _ g6).mono ?_
              rintro e w7 ⟨rfl, g7⟩
              cases l3
              · have HF7 := hid_mk (HFIN.out w7 g7)
                clear g6 g7 H3 H4 z0 z1 z2 z3 z4 z5 z6 z7 y0 y1 y2 y3 y4 y5 y6 y7 HCC HFIN
                go_wp2
                refine ⟨⟨k + 1, by omega, by simp, HF7.out⟩, ?_⟩
                simp only [intOf]
                omega
              obtain ⟨hx, hy, hzz⟩ := HCC.out w7 g7
              clear g6 z0 z1 z2 z3 z4 z5 z6 z7 y0 y1 y2 y3 y4 y5 y6 y7 H3
              obtain ⟨x0, x1, x2, x3, x4, x5, x6, x7⟩ := hx.cells
              obtain ⟨z0, z1, z2, z3, z4, z5, z6, z7⟩ := hzz.cells
              clear hx hy hzz
              go_wp2_with (go_at_call 12; fail)
              refine (H4.out trivial _ g7).mono ?_
              rintro e w8 ⟨rfl, g8⟩
              have HF8 := hid_mk (HFIN.out w8 g8)
              clear g7 g8 H4 x0 x1 x2 x3 x4 x5 x6 x7 z0 z1 z2 z3 z4 z5 z6 z7 HCC HFIN
              go_wp2
              refine ⟨⟨k + 1, by omega, by simp, HF8.out⟩, ?_⟩
              simp only [intOf]
              omega
            · have hdk : decide ((k : Int) < (n : Int)) = false := decide_eq_false (by omega)
              have HF : Hid (Below w2.heap.size w2 wr) := HB3.out.trans (HBk.out.mono HB3.out.size)
              clear HBk HX3 HY
              go_wp2
              refine ⟨⟨j + 1, by omega, by simp, HF.out⟩, ?_⟩
              simp only [intOf]
              omega
        · have hdj : decide ((j : Int) < (n : Int)) = false := decide_eq_false (by omega)
          have HF : Hid (Below w.heap.size w wr) := HB2.out.trans (HBj.out.mono HB2.out.size)
          clear HBj HX
          go_wp2
          refine ⟨⟨i + 1, by omega, by simp, HF.out⟩, ?_⟩
          simp only [intOf]
          omega
    · have hd : decide ((i : Int) < (n : Int)) = false := decide_eq_false (by omega)
      have HFI : Hid (∀ W, Below w.heap.size w W → EsAt W a c l) := fun W hW => HH.out.keep hW
      have hn9 : l.length ≤ 900000 := by rw [← HN.out]; omega
      have hso := sort_any (HH.out.keep HBi.out) hn9
      rw [← HN.out] at hso
      have HN9 := hid_mk hn9
      clear HH hn9
      go_wp2_with (go_at_call 16; fail)
      refine hso.mono ?_
      rintro e w2 ⟨v, es, rfl, hE, hF, hB⟩
      have HB2 : Hid (Below w.heap.size w w2) := HBi.out.trans (hB.mono HBi.out.size)
      have hel : es.length = n := by rw [hF.len, tagF_len, ← HN.out]
      obtain ⟨s, hs⟩ : ∃ s, s = es.reverse := ⟨_, rfl⟩
      have HNX : Hid (∀ (i : Nat) (h1 : i + 1 < s.length), lessE (s[i + 1]'h1) (s[i]'(by omega)) = false) := by
        rw [hs]
        exact fun i h1 => hF.next h1
      have hsl : s.length = n := by rw [hs, List.length_reverse, hel]
      rw [← hs] at hE
      obtain ⟨va, vc, rfl, hes⟩ := hE.es
      have HE : Hid (∀ W, Below w2.heap.size w2 W → EO W wr.heap.size (.slice va n vc) s) := by
        rw [← hsl]
        exact fun W hW => ownsRow_below hE hW
      have hcap2 := hes.cap
      rw [hsl] at hcap2 ⊢
      have HSL := hid_mk hsl
      clear hso hE hF hB hel hs hes hsl HBi
      have HSQ : Hid (s.length = n) := HSL.out
      go_wp2
      go_loopw [12] (fun a12 wr => ∃ j : Nat, j ≤ n ∧ a12 = .int .i64 ((j : Int) + 1) ∧ Hid (Below w2.heap.size w2 wr)) (fun a12 _ => n + 2 - (intOf a12).toNat)
      case atStart => exact ⟨0, Nat.zero_le _, rfl, Below.refl _ _⟩
      case round =>
        obtain ⟨j, hjb, rfl, HBi⟩ := hrel
        by_cases hlt2 : j + 1 < n
        · have hd2 : decide ((j : Int) + 1 < (n : Int)) = true := decide_eq_true (by omega)
          have hd3 : (j : Int) + 1 < (n : Int) := by omega
          have hd4 : (0 : Int) ≤ (j : Int) + 1 := by omega
          have hil2 : j + 1 < s.length := by rw [HSL.out]; exact hlt2
          have hjl2 : j < s.length := by omega
          have hE := HE.out wr HBi.out
          obtain ⟨g, rfl, hgl, _, c0, c1, c2, c3, c4, c5, c6, c7⟩ := hE.at hil2
          obtain ⟨g', eg, _, _, d0, d1, d2, d3, d4, d5, d6, d7⟩ := hE.at hjl2
          cases eg
          have hnx : lessE s[j + 1] s[j] = false := by
            exact HNX.out j hil2
          have HC : Hid (∀ W, Below wr.heap.size wr W → Calls Try.prog 12 #[(s[j + 1]).val, (s[j]).val] W fun e w' => e = .returned (.bool false) ∧ Below wr.heap.size wr w') := fun W hW => by
            have := less_at (s[j + 1]) (s[j]) W hW
            rwa [hnx] at this
          have HSW : Hid (∀ w, Below wr.heap.size wr w → _) := fun w hb => by
            have q1 := (hE.keep2 hb).at hil2
            have q2 := (hE.keep2 hb).at hjl2
            obtain ⟨g1, e1, _, _, r1⟩ := q1
            obtain ⟨g2, e2, _, _, r2⟩ := q2
            cases e1
            cases e2
            exact And.intro r1 r2
          have hjn : j < n := by omega
          have hjn2 : (j : Int) < (n : Int) := by omega
          have hj0 : (0 : Int) ≤ (j : Int) := by omega
          have hwj : IntKind.i64.wrap (j : Int) = (j : Int) := by rw [IntKind.wrap_i64] <;> omega
          generalize s[j + 1] = x at *
          generalize s[j] = y at *
          unfold E8.val at HC
          obtain ⟨xn, xv, xo, xi, xa, xb, xc, xk⟩ := x
          obtain ⟨yn, yv, yo, yi, ya, yb, yc, yk⟩ := y
          dsimp only at *
          clear hE hnx hil2 hjl2
          have HS : Hid (∀ w, Below wr.heap.size wr w → (w.cell? ⟨g, (j + 1) * 8, none⟩ = some (.string xn) ∧ w.cell? ⟨g, (j + 1) * 8 + 1, none⟩ = some (.string xv) ∧ w.cell? ⟨g, (j + 1) * 8 + 2, none⟩ = some (.int .i64 xo) ∧ w.cell? ⟨g, (j + 1) * 8 + 3, none⟩ = some (.bool xi) ∧ w.cell? ⟨g, (j + 1) * 8 + 4, none⟩ = some (.int .i64 xa) ∧ w.cell? ⟨g, (j + 1) * 8 + 5, none⟩ = some (.int .i64 xb) ∧ w.cell? ⟨g, (j + 1) * 8 + 6, none⟩ = some (.int .i64 xc) ∧ w.cell? ⟨g, (j + 1) * 8 + 7, none⟩ = some (.int .i64 xk)) ∧ (w.cell? ⟨g, j * 8, none⟩ = some (.string yn) ∧ w.cell? ⟨g, j * 8 + 1, none⟩ = some (.string yv) ∧ w.cell? ⟨g, j * 8 + 2, none⟩ = some (.int .i64 yo) ∧ w.cell? ⟨g, j * 8 + 3, none⟩ = some (.bool yi) ∧ w.cell? ⟨g, j * 8 + 4, none⟩ = some (.int .i64 ya) ∧ w.cell? ⟨g, j * 8 + 5, none⟩ = some (.int .i64 yb) ∧ w.cell? ⟨g, j * 8 + 6, none⟩ = some (.int .i64 yc) ∧ w.cell? ⟨g, j * 8 + 7, none⟩ = some (.int .i64 yk))) := HSW.out
          clear HSW
          have gd : Below wr.heap.size wr wr := Below.refl _ _
          have ge : Below wr.heap.size wr wr.drew := gd.drew
          go_upto_region 23 with (fail)
          go_region_held3 (fun w => (w.cell? ⟨g, (j + 1) * 8, none⟩ = some (.string xn) ∧ w.cell? ⟨g, (j + 1) * 8 + 1, none⟩ = some (.string xv) ∧ w.cell? ⟨g, (j + 1) * 8 + 2, none⟩ = some (.int .i64 xo) ∧ w.cell? ⟨g, (j + 1) * 8 + 3, none⟩ = some (.bool xi) ∧ w.cell? ⟨g, (j + 1) * 8 + 4, none⟩ = some (.int .i64 xa) ∧ w.cell? ⟨g, (j + 1) * 8 + 5, none⟩ = some (.int .i64 xb) ∧ w.cell? ⟨g, (j + 1) * 8 + 6, none⟩ = some (.int .i64 xc) ∧ w.cell? ⟨g, (j + 1) * 8 + 7, none⟩ = some (.int .i64 xk)) ∧ (w.cell? ⟨g, j * 8, none⟩ = some (.string yn) ∧ w.cell? ⟨g, j * 8 + 1, none⟩ = some (.string yv) ∧ w.cell? ⟨g, j * 8 + 2, none⟩ = some (.int .i64 yo) ∧ w.cell? ⟨g, j * 8 + 3, none⟩ = some (.bool yi) ∧ w.cell? ⟨g, j * 8 + 4, none⟩ = some (.int .i64 ya) ∧ w.cell? ⟨g, j * 8 + 5, none⟩ = some (.int .i64 yb) ∧ w.cell? ⟨g, j * 8 + 6, none⟩ = some (.int .i64 yc) ∧ w.cell? ⟨g, j * 8 + 7, none⟩ = some (.int .i64 yk)))
            (first | with_reducible exact HS.out _ gd | with_reducible exact HS.out _ ge | with_reducible exact HS.out _ ga)
            (first
              | (go_at_call 12; with_reducible refine (HC.out _ ge).mono ?_; rintro e w4 ⟨rfl, ga⟩))
          have HF : Hid (Below w2.heap.size w2 w4) := HBi.out.trans (ga.mono HBi.out.size)
          clear gd ge ga HS HC
          go_wp2
          refine ⟨⟨j + 1, by omega, by simp, HF.out⟩, ?_⟩
          simp only [intOf]
          omega
        · have hd2 : decide ((j : Int) + 1 < (n : Int)) = false := decide_eq_false (by omega)
          have HBw : Hid (Below w.heap.size w wr) := HB2.out.trans (HBi.out.mono HB2.out.size)
          have hch := chain_any (HFI.out wr HBw.out) HN9.out name
          rw [← HN.out] at hch
          clear HE HNX HSL HSQ hcap2 HBi
          go_wp2_with (go_at_call 22; fail)
          refine hch.mono ?_
          rintro e w4 ⟨v, es, rfl, hE, hF, hB⟩
          have HB4 : Hid (Below w.heap.size w w4) := HBw.out.trans (hB.mono HBw.out.size)
          have hwi := winner_any (HFI.out w4 HB4.out) HN9.out name
          have hfw := hF.win
          rw [hfw, ← HN.out] at hwi
          obtain ⟨va2, vc2, rfl, hes⟩ := hE.es
          have HES : Hid (∀ W, Below w4.heap.size w4 W → EsAt W va2 vc2 es) := fun W hW => hes.keep hW
          have hcap3 := hes.cap
          clear hch hE hF hB hfw hes
          cases es with
          | nil =>
            have hwi2 : Calls Try.prog 18 #[.slice a n c, .string name] w4 fun e w' => e = .returned (.tuple #[.agg #[.string ⟨#[]⟩, .string ⟨#[]⟩, .int .i64 0, .bool false, .int .i64 0, .int .i64 0, .int .i64 0, .int .i64 0], .bool false]) ∧ Below w4.heap.size w4 w' := hwi
            clear hwi
            go_wp2_with (go_at_call 18; fail)
            refine hwi2.mono ?_
            rintro e w5 ⟨rfl, hB5⟩
            have HB5 : Hid (Below w.heap.size w w5) := HB4.out.trans (hB5.mono HB4.out.size)
            have HES5 : Hid (EsAt w5 va2 vc2 []) := HES.out w5 hB5
            clear hwi2 hB5 HES
            obtain ⟨w6, hw6⟩ : ∃ w6, w6 = w5.alloc (.cells #[.string ⟨#[]⟩, .string ⟨#[]⟩, .int .i64 0, .bool false, .int .i64 0, .int .i64 0, .int .i64 0, .int .i64 0] 26) := ⟨_, rfl⟩
            have hx6 : BoxE w6 w5.heap.size 26 zE := by rw [hw6]; exact alloc_box w5 26 zE
            have hb6 : Below w5.heap.size w5 w6 := by rw [hw6]; exact (Below.refl _ _).alloc (Nat.le_refl _) _
            have HB6 : Hid (Below w.heap.size w w6) := HB5.out.trans (hb6.mono HB5.out.size)
            have HLV6 : Hid (∀ W, Below w6.heap.size w6 W → Calls Try.prog 9 #[] W fun e w' => e = .returned (.bool true) ∧ Below w6.heap.size w6 w') := fun W hW => lives_at W hW
            have gd : Below w6.heap.size w6 w6 := Below.refl _ _
            have ge : Below w6.heap.size w6 w6.drew := gd.drew
            have HW6 := hid_mk hw6
            have HS6 : Hid (∀ w, Below w6.heap.size w6 w → (w.cell? ⟨w5.heap.size, 0, none⟩ = some (.string ⟨#[]⟩) ∧ w.cell? ⟨w5.heap.size, 1, none⟩ = some (.string ⟨#[]⟩) ∧ w.cell? ⟨w5.heap.size, 2, none⟩ = some (.int .i64 0) ∧ w.cell? ⟨w5.heap.size, 3, none⟩ = some (.bool false) ∧ w.cell? ⟨w5.heap.size, 4, none⟩ = some (.int .i64 0) ∧ w.cell? ⟨w5.heap.size, 5, none⟩ = some (.int .i64 0) ∧ w.cell? ⟨w5.heap.size, 6, none⟩ = some (.int .i64 0) ∧ w.cell? ⟨w5.heap.size, 7, none⟩ = some (.int .i64 0))) := fun W hW => (hx6.keep hW).cells
            clear hx6 hb6 hw6 HES5
            go_upto_region 27 with (fail)
            rw [← HW6.out]
            refine wp_region_held_drew (S := (fun w => w.cell? ⟨w5.heap.size, 0, none⟩ = some (.string ⟨#[]⟩) ∧ w.cell? ⟨w5.heap.size, 1, none⟩ = some (.string ⟨#[]⟩) ∧ w.cell? ⟨w5.heap.size, 2, none⟩ = some (.int .i64 0) ∧ w.cell? ⟨w5.heap.size, 3, none⟩ = some (.bool false) ∧ w.cell? ⟨w5.heap.size, 4, none⟩ = some (.int .i64 0) ∧ w.cell? ⟨w5.heap.size, 5, none⟩ = some (.int .i64 0) ∧ w.cell? ⟨w5.heap.size, 6, none⟩ = some (.int .i64 0) ∧ w.cell? ⟨w5.heap.size, 7, none⟩ = some (.int .i64 0))) (by kernel_rfl) (HS6.out _ ge) (fun hHeld => ?_)
            refine wpAnyH_take (i := 0) (oi := { dst := some 102, op := Op.move (Operand.tmp 15), type := 4, pos := "law.go:82", after := #[], guard := none }) (v := ?_) rfl (by kernel_rfl) (by kernel_rfl) (by kernel_rfl) (fun _ _ _ h => h) (Or.inl ⟨by rfl, ?_⟩) (by assumption) ?_
            rotate_left
            · intro w hSw
              (try dsimp only at hSw)
              go_simp
              try with_reducible rfl
            try simp only [Act.put, List.setIfInBounds_toArray, List.set_cons_zero, List.set_cons_succ]
            refine wpAnyH_take (i := 1) (oi := { dst := some 103, op := Op.move (Operand.tmp 13), type := 22, pos := "law.go:82", after := #[], guard := none }) (v := ?_) rfl (by kernel_rfl) (by kernel_rfl) (by kernel_rfl) (fun _ _ _ h => h) (Or.inl ⟨by rfl, ?_⟩) (by assumption) ?_
            rotate_left
            · intro w hSw
              (try dsimp only at hSw)
              go_simp
              try with_reducible rfl
            try simp only [Act.put, List.setIfInBounds_toArray, List.set_cons_zero, List.set_cons_succ]
            refine wpAnyH_take (i := 2) (oi := { dst := some 104, op := Op.call { callee := Callee.builtin Builtin.len, args := #[Operand.tmp 103], argTypes := #[22] }, type := 3, pos := "law.go:82", after := #[{ on := 1, ground := Ground.data }], guard := none }) (v := ?_) rfl (by kernel_rfl) (by kernel_rfl) (by kernel_rfl) (fun _ _ _ h => h) (Or.inl ⟨by rfl, ?_⟩) (by assumption) ?_
            rotate_left
            · intro w hSw
              (try dsimp only at hSw)
              go_simp
              try with_reducible rfl
            try simp only [Act.put, List.setIfInBounds_toArray, List.set_cons_zero, List.set_cons_succ]
            refine wpAnyH_take (i := 3) (oi := { dst := some 105, op := Op.binOp BinOp.gtr 3 (Operand.tmp 104) (Operand.const (Value.int IntKind.i64 0)) 3, type := 4, pos := "law.go:82", after := #[{ on := 2, ground := Ground.data }], guard := none }) (v := ?_) rfl (by kernel_rfl) (by kernel_rfl) (by kernel_rfl) (fun _ _ _ h => h) (Or.inl ⟨by rfl, ?_⟩) (by assumption) ?_
            rotate_left
            · intro w hSw
              (try dsimp only at hSw)
              go_simp
              try with_reducible rfl
            try simp only [Act.put, List.setIfInBounds_toArray, List.set_cons_zero, List.set_cons_succ]
            refine wpAnyH_take (i := 4) (oi := { dst := some 106, op := Op.binOp BinOp.eql 4 (Operand.tmp 102) (Operand.tmp 105) 4, type := 4, pos := "law.go:82", after := #[{ on := 0, ground := Ground.data }, { on := 3, ground := Ground.data }], guard := none }) (v := ?_) rfl (by kernel_rfl) (by kernel_rfl) (by kernel_rfl) (fun _ _ _ h => h) (Or.inl ⟨by rfl, ?_⟩) (by assumption) ?_
            rotate_left
            · intro w hSw
              (try dsimp only at hSw)
              go_simp
              try with_reducible rfl
            try simp only [Act.put, List.setIfInBounds_toArray, List.set_cons_zero, List.set_cons_succ]
            refine wpAnyH_take (i := 5) (oi := { dst := some 107, op := Op.move (Operand.tmp 106), type := 4, pos := "law.go:82", after := #[{ on := 4, ground := Ground.data }], guard := none }) (v := ?_) rfl (by kernel_rfl) (by kernel_rfl) (by kernel_rfl) (fun _ _ _ h => h) (Or.inl ⟨by rfl, ?_⟩) (by assumption) ?_
            rotate_left
            · intro w hSw
              (try dsimp only at hSw)
              go_simp
              try with_reducible rfl
            try simp only [Act.put, List.setIfInBounds_toArray, List.set_cons_zero, List.set_cons_succ]
            refine wpAnyH_take (i := 6) (oi := { dst := some 108, op := Op.move (Operand.tmp 15), type := 4, pos := "law.go:82", after := #[{ on := 5, ground := Ground.guard }], guard := some (5, true) }) (v := ?_) rfl (by kernel_rfl) (by kernel_rfl) (by kernel_rfl) (fun _ _ _ h => h) (Or.inl ⟨by rfl, ?_⟩) (by assumption) ?_
            rotate_left
            · intro w hSw
              (try dsimp only at hSw)
              go_simp
              try with_reducible rfl
            try simp only [Act.put, List.setIfInBounds_toArray, List.set_cons_zero, List.set_cons_succ]
            refine wpAnyH_take (i := 7) (oi := { dst := some 109, op := Op.unOp UnOp.not 4 (Operand.tmp 108), type := 4, pos := "law.go:82", after := #[{ on := 6, ground := Ground.data }, { on := 5, ground := Ground.guard }], guard := some (5, true) }) (v := ?_) rfl (by kernel_rfl) (by kernel_rfl) (by kernel_rfl) (fun _ _ _ h => h) (Or.inl ⟨by rfl, ?_⟩) (by assumption) ?_
            rotate_left
            · intro w hSw
              (try dsimp only at hSw)
              go_simp
              try with_reducible rfl
            try simp only [Act.put, List.setIfInBounds_toArray, List.set_cons_zero, List.set_cons_succ]
            refine wpAnyH_take (i := 8) (oi := { dst := some 110, op := Op.move (Operand.tmp 109), type := 4, pos := "law.go:82", after := #[{ on := 7, ground := Ground.data }, { on := 5, ground := Ground.chain }, { on := 5, ground := Ground.guard }], guard := some (5, true) }) (v := ?_) rfl (by kernel_rfl) (by kernel_rfl) (by kernel_rfl) (fun _ _ _ h => h) (Or.inl ⟨by rfl, ?_⟩) (by assumption) ?_
            rotate_left
            · intro w hSw
              (try dsimp only at hSw)
              go_simp
              try with_reducible rfl
            try simp only [Act.put, List.setIfInBounds_toArray, List.set_cons_zero, List.set_cons_succ]
            refine wpAnyH_take (i := 9) (oi := { dst := some 111, op := Op.move (Operand.tmp 13), type := 22, pos := "law.go:82", after := #[{ on := 8, ground := Ground.guard }], guard := some (8, false) }) (v := undef) rfl (by kernel_rfl) (by kernel_rfl) (by kernel_rfl) (fun _ _ _ h => h) (Or.inr ⟨by rfl, rfl⟩) (by assumption) ?_
            try simp only [Act.put, List.setIfInBounds_toArray, List.set_cons_zero, List.set_cons_succ]
            refine wpAnyH_take (i := 10) (oi := { dst := some 112, op := Op.indexAddr 22 (Operand.tmp 111) (Operand.const (Value.int IntKind.i64 0)), type := 0, pos := "law.go:82", after := #[{ on := 9, ground := Ground.data }, { on := 8, ground := Ground.guard }], guard := some (8, false) }) (v := undef) rfl (by kernel_rfl) (by kernel_rfl) (by kernel_rfl) (fun _ _ _ h => h) (Or.inr ⟨by rfl, rfl⟩) (by assumption) ?_
            try simp only [Act.put, List.setIfInBounds_toArray, List.set_cons_zero, List.set_cons_succ]
            refine wpAnyH_take (i := 11) (oi := { dst := some 113, op := Op.load 26 (Operand.tmp 112), type := 26, pos := "law.go:82", after := #[{ on := 10, ground := Ground.data }, { on := 8, ground := Ground.guard }], guard := some (8, false) }) (v := undef) rfl (by kernel_rfl) (by kernel_rfl) (by kernel_rfl) (fun _ _ _ h => h) (Or.inr ⟨by rfl, rfl⟩) (by assumption) ?_
            try simp only [Act.put, List.setIfInBounds_toArray, List.set_cons_zero, List.set_cons_succ]
            refine wpAnyH_take (i := 12) (oi := { dst := some 114, op := Op.load 26 (Operand.tmp 14), type := 26, pos := "law.go:82", after := #[{ on := 8, ground := Ground.guard }], guard := some (8, false) }) (v := undef) rfl (by kernel_rfl) (by kernel_rfl) (by kernel_rfl) (fun _ _ _ h => h) (Or.inr ⟨by rfl, rfl⟩) (by assumption) ?_
            try simp only [Act.put, List.setIfInBounds_toArray, List.set_cons_zero, List.set_cons_succ]
            refine wpAnyH_take (i := 13) (oi := { dst := some 115, op := Op.binOp BinOp.eql 26 (Operand.tmp 113) (Operand.tmp 114) 26, type := 4, pos := "law.go:82", after := #[{ on := 11, ground := Ground.data }, { on := 12, ground := Ground.data }, { on := 8, ground := Ground.guard }], guard := some (8, false) }) (v := undef) rfl (by kernel_rfl) (by kernel_rfl) (by kernel_rfl) (fun _ _ _ h => h) (Or.inr ⟨by rfl, rfl⟩) (by assumption) ?_
            try simp only [Act.put, List.setIfInBounds_toArray, List.set_cons_zero, List.set_cons_succ]
            refine wpAnyH_take (i := 14) (oi := { dst := some 116, op := Op.pick (Operand.tmp 110) (Operand.const (Value.bool true)) (Operand.tmp 115), type := 4, pos := "law.go:82", after := #[{ on := 8, ground := Ground.data }, { on := 13, ground := Ground.data }, { on := 5, ground := Ground.guard }], guard := some (5, true) }) (v := ?_) rfl (by kernel_rfl) (by kernel_rfl) (by kernel_rfl) (fun _ _ _ h => h) (Or.inl ⟨by rfl, ?_⟩) (by assumption) ?_
            rotate_left
            · intro w hSw
              (try dsimp only at hSw)
              go_simp
              try with_reducible rfl
            try simp only [Act.put, List.setIfInBounds_toArray, List.set_cons_zero, List.set_cons_succ]
            refine wpAnyH_take (i := 15) (oi := { dst := some 117, op := Op.pick (Operand.tmp 107) (Operand.tmp 116) (Operand.const (Value.bool false)), type := 4, pos := "law.go:82", after := #[{ on := 5, ground := Ground.data }, { on := 14, ground := Ground.data }], guard := none }) (v := ?_) rfl (by kernel_rfl) (by kernel_rfl) (by kernel_rfl) (fun _ _ _ h => h) (Or.inl ⟨by rfl, ?_⟩) (by assumption) ?_
            rotate_left
            · intro w hSw
              (try dsimp only at hSw)
              go_simp
              try with_reducible rfl
            try simp only [Act.put, List.setIfInBounds_toArray, List.set_cons_zero, List.set_cons_succ]
            refine wpAnyH_take (i := 16) (oi := { dst := some 118, op := Op.move (Operand.tmp 117), type := 4, pos := "law.go:82", after := #[{ on := 15, ground := Ground.data }, { on := 8, ground := Ground.chain }], guard := none }) (v := ?_) rfl (by kernel_rfl) (by kernel_rfl) (by kernel_rfl) (fun _ _ _ h => h) (Or.inl ⟨by rfl, ?_⟩) (by assumption) ?_
            rotate_left
            · intro w hSw
              (try dsimp only at hSw)
              go_simp
              try with_reducible rfl
            try simp only [Act.put, List.setIfInBounds_toArray, List.set_cons_zero, List.set_cons_succ]
            refine wpAnyH_ready (rs := [17]) (by kernel_rfl) (by simp) ?_
            refine AllReadyH.cons (o := { dst := some 119, op := Op.call { callee := Callee.value (Operand.func 9), args := #[], argTypes := #[] }, type := 4, pos := "law.go:82", after := #[{ on := 16, ground := Ground.chain }, { on := 16, ground := Ground.guard }], guard := some (16, true) }) rfl (fun K hK => ?_) AllReadyH.nil
            go_simp
            refine (HLV6.out _ ge).mono ?_
            rintro e w7 ⟨rfl, ga⟩
            refine hK.out _ _ (HS6.out _ ga) (fun hHeld => ?_)
            clear hK K
            try simp only [Act.put, List.setIfInBounds_toArray, List.set_cons_zero, List.set_cons_succ]
            refine wpAnyH_take (i := 18) (oi := { dst := some 120, op := Op.pick (Operand.tmp 118) (Operand.tmp 119) (Operand.const (Value.bool false)), type := 4, pos := "law.go:82", after := #[{ on := 16, ground := Ground.data }, { on := 17, ground := Ground.data }], guard := none }) (v := ?_) rfl (by kernel_rfl) (by kernel_rfl) (by kernel_rfl) (fun _ _ _ h => h) (Or.inl ⟨by rfl, ?_⟩) (by assumption) ?_
            rotate_left
            · intro w hSw
              (try dsimp only at hSw)
              go_simp
              try with_reducible rfl
            try simp only [Act.put, List.setIfInBounds_toArray, List.set_cons_zero, List.set_cons_succ]
            refine wpAnyH_take (i := 19) (oi := { dst := some 4, op := Op.assign (Operand.tmp 120), type := 4, pos := "law.go:82", after := #[{ on := 18, ground := Ground.data }, { on := 17, ground := Ground.chain }, { on := 0, ground := Ground.phase }, { on := 1, ground := Ground.phase }, { on := 2, ground := Ground.phase }, { on := 3, ground := Ground.phase }, { on := 4, ground := Ground.phase }, { on := 5, ground := Ground.phase }, { on := 6, ground := Ground.phase }, { on := 7, ground := Ground.phase }, { on := 8, ground := Ground.phase }, { on := 9, ground := Ground.phase }, { on := 10, ground := Ground.phase }, { on := 11, ground := Ground.phase }, { on := 12, ground := Ground.phase }, { on := 13, ground := Ground.phase }, { on := 14, ground := Ground.phase }, { on := 15, ground := Ground.phase }, { on := 16, ground := Ground.phase }, { on := 17, ground := Ground.phase }, { on := 18, ground := Ground.phase }], guard := none }) (v := ?_) rfl (by kernel_rfl) (by kernel_rfl) (by kernel_rfl) (fun _ _ _ h => h) (Or.inl ⟨by rfl, ?_⟩) (by assumption) ?_
            rotate_left
            · intro w hSw
              (try dsimp only at hSw)
              go_simp
              try with_reducible rfl
            try simp only [Act.put, List.setIfInBounds_toArray, List.set_cons_zero, List.set_cons_succ]
            refine wpAnyH_done (by kernel_rfl) ?_ _
            have HF7 : Hid (Below w.heap.size w w7) := HB6.out.trans (ga.mono HB6.out.size)
            clear gd ge ga HS6 HLV6
            go_wp2
            go_ret
            exact ⟨rfl, HF7.out⟩
          | cons x r =>
            obtain ⟨xn, xv, xo, xi, xa, xb, xc, xk⟩ := x
            have hwi2 : Calls Try.prog 18 #[.slice a n c, .string name] w4 fun e w' => e = .returned (.tuple #[.agg #[.string xn, .string xv, .int .i64 xo, .bool xi, .int .i64 xa, .int .i64 xb, .int .i64 xc, .int .i64 xk], .bool true]) ∧ Below w4.heap.size w4 w' := hwi
            clear hwi
            go_wp2_with (go_at_call 18; fail)
            refine hwi2.mono ?_
            rintro e w5 ⟨rfl, hB5⟩
            have HB5 : Hid (Below w.heap.size w w5) := HB4.out.trans (hB5.mono HB4.out.size)
            have HES5 : Hid (EsAt w5 va2 vc2 (⟨xn, xv, xo, xi, xa, xb, xc, xk⟩ :: r)) := HES.out w5 hB5
            clear hwi2 hB5 HES
            obtain ⟨w6, hw6⟩ : ∃ w6, w6 = w5.alloc (.cells #[.string xn, .string xv, .int .i64 xo, .bool xi, .int .i64 xa, .int .i64 xb, .int .i64 xc, .int .i64 xk] 26) := ⟨_, rfl⟩
            have hx6 : BoxE w6 w5.heap.size 26 ⟨xn, xv, xo, xi, xa, xb, xc, xk⟩ := by rw [hw6]; exact alloc_box w5 26 ⟨xn, xv, xo, xi, xa, xb, xc, xk⟩
            have hb6 : Below w5.heap.size w5 w6 := by rw [hw6]; exact (Below.refl _ _).alloc (Nat.le_refl _) _
            have HB6 : Hid (Below w.heap.size w w6) := HB5.out.trans (hb6.mono HB5.out.size)
            have HLV6 : Hid (∀ W, Below w6.heap.size w6 W → Calls Try.prog 9 #[] W fun e w' => e = .returned (.bool true) ∧ Below w6.heap.size w6 w') := fun W hW => lives_at W hW
            have gd : Below w6.heap.size w6 w6 := Below.refl _ _
            have ge : Below w6.heap.size w6 w6.drew := gd.drew
            have HW6 := hid_mk hw6
            obtain ⟨bq, offq, rfl, hbq, c0, c1, c2, c3, c4, c5, c6, c7⟩ := (HES5.out.keep hb6).at (i := 0) (by simp)
            simp only [List.getElem_cons_zero, Nat.zero_mul, Nat.add_zero] at c0 c1 c2 c3 c4 c5 c6 c7
            have HS6 : Hid (∀ w, Below w6.heap.size w6 w → (w.cell? ⟨bq, offq, none⟩ = some (.string xn) ∧ w.cell? ⟨bq, offq + 1, none⟩ = some (.string xv) ∧ w.cell? ⟨bq, offq + 2, none⟩ = some (.int .i64 xo) ∧ w.cell? ⟨bq, offq + 3, none⟩ = some (.bool xi) ∧ w.cell? ⟨bq, offq + 4, none⟩ = some (.int .i64 xa) ∧ w.cell? ⟨bq, offq + 5, none⟩ = some (.int .i64 xb) ∧ w.cell? ⟨bq, offq + 6, none⟩ = some (.int .i64 xc) ∧ w.cell? ⟨bq, offq + 7, none⟩ = some (.int .i64 xk)) ∧ (w.cell? ⟨w5.heap.size, 0, none⟩ = some (.string xn) ∧ w.cell? ⟨w5.heap.size, 1, none⟩ = some (.string xv) ∧ w.cell? ⟨w5.heap.size, 2, none⟩ = some (.int .i64 xo) ∧ w.cell? ⟨w5.heap.size, 3, none⟩ = some (.bool xi) ∧ w.cell? ⟨w5.heap.size, 4, none⟩ = some (.int .i64 xa) ∧ w.cell? ⟨w5.heap.size, 5, none⟩ = some (.int .i64 xb) ∧ w.cell? ⟨w5.heap.size, 6, none⟩ = some (.int .i64 xc) ∧ w.cell? ⟨w5.heap.size, 7, none⟩ = some (.int .i64 xk))) := fun W hW => ⟨⟨(hW.cell (p := ⟨bq, _, none⟩) hbq).trans c0, (hW.cell (p := ⟨bq, _, none⟩) hbq).trans c1, (hW.cell (p := ⟨bq, _, none⟩) hbq).trans c2, (hW.cell (p := ⟨bq, _, none⟩) hbq).trans c3, (hW.cell (p := ⟨bq, _, none⟩) hbq).trans c4, (hW.cell (p := ⟨bq, _, none⟩) hbq).trans c5, (hW.cell (p := ⟨bq, _, none⟩) hbq).trans c6, (hW.cell (p := ⟨bq, _, none⟩) hbq).trans c7⟩, (hx6.keep hW).cells⟩
            clear hbq c0 c1 c2 c3 c4 c5 c6 c7
            have hm0 : 0 < (⟨xn, xv, xo, xi, xa, xb, xc, xk⟩ :: r).length := by simp
            generalize (⟨xn, xv, xo, xi, xa, xb, xc, xk⟩ :: r).length = m at *
            have hm2 : (0 : Int) < (m : Int) := by omega
            have hm1 : decide ((0 : Int) < (m : Int)) = true := decide_eq_true (by omega)
            clear hx6 hb6 hw6 HES5
            go_upto_region 27 with (fail)
            rw [← HW6.out]
            go_region_held3 (fun w => (w.cell? ⟨bq, offq, none⟩ = some (.string xn) ∧ w.cell? ⟨bq, offq + 1, none⟩ = some (.string xv) ∧ w.cell? ⟨bq, offq + 2, none⟩ = some (.int .i64 xo) ∧ w.cell? ⟨bq, offq + 3, none⟩ = some (.bool xi) ∧ w.cell? ⟨bq, offq + 4, none⟩ = some (.int .i64 xa) ∧ w.cell? ⟨bq, offq + 5, none⟩ = some (.int .i64 xb) ∧ w.cell? ⟨bq, offq + 6, none⟩ = some (.int .i64 xc) ∧ w.cell? ⟨bq, offq + 7, none⟩ = some (.int .i64 xk)) ∧ (w.cell? ⟨w5.heap.size, 0, none⟩ = some (.string xn) ∧ w.cell? ⟨w5.heap.size, 1, none⟩ = some (.string xv) ∧ w.cell? ⟨w5.heap.size, 2, none⟩ = some (.int .i64 xo) ∧ w.cell? ⟨w5.heap.size, 3, none⟩ = some (.bool xi) ∧ w.cell? ⟨w5.heap.size, 4, none⟩ = some (.int .i64 xa) ∧ w.cell? ⟨w5.heap.size, 5, none⟩ = some (.int .i64 xb) ∧ w.cell? ⟨w5.heap.size, 6, none⟩ = some (.int .i64 xc) ∧ w.cell? ⟨w5.heap.size, 7, none⟩ = some (.int .i64 xk)))
              (first | with_reducible exact HS6.out _ gd | with_reducible exact HS6.out _ ge | with_reducible exact HS6.out _ ga)
              (first
                | (go_at_call 9; with_reducible refine (HLV6.out _ ge).mono ?_; rintro e w7 ⟨rfl, ga⟩))
            have HF7 : Hid (Below w.heap.size w w7) := HB6.out.trans (ga.mono HB6.out.size)
            clear gd ge ga HS6 HLV6
            go_wp2
            go_ret
            exact ⟨rfl, HF7.out⟩
end Go.Proofs.Ytmpppijgjbfolaa.C
