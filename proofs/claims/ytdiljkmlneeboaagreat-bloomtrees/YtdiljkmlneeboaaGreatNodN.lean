/- dom.Doc's Node. -/
import Derived.Test.YtdiljkmlneeboaaGreatActN
namespace Go.Proofs.YtdiljkmlneeboaaGreat.N
open Go.RowKit
set_option maxRecDepth 100000

theorem RowAt.set5 {w : World} {sz n c B g : Nat} {a : Option Addr} {xs : List Value} (h : RowAt w sz a n c xs) (hn : NewAt B a) (hg : g < B) (v0 v1 v2 v3 v4 : Value) : RowAt (((((w.setCell ⟨g, 0, none⟩ v0).setCell ⟨g, 1, none⟩ v1).setCell ⟨g, 2, none⟩ v2).setCell ⟨g, 3, none⟩ v3).setCell ⟨g, 4, none⟩ v4) sz a n c xs :=
  ((((h.set hn hg v0).set hn hg v1).set hn hg v2).set hn hg v3).set hn hg v4
set_option maxHeartbeats 1000000 in
theorem node_0 {w : World} {dp : Value} (n : Int) (s : N5) {ks us : List Value} (hfind : ∀ W, Below w.heap.size w W → Calls Tryz.prog 54 #[dp, .int .i64 n] W fun e w' => e = .returned (.tuple #[s.val, .int .i64 0]) ∧ Below W.heap.size W w') (hk : RowAt w 1 s.ka s.kn s.kc ks) (ha : RowAt w 2 s.aa s.an s.ac us) (h1 : s.kn ≤ 300000) (h2 : s.an ≤ 300000) :
    Calls Tryz.prog 44 #[dp, .int .i64 n] w fun e w' => ∃ a' c' b' d', e = .returned (.tuple #[N5.val ⟨s.id, s.tag, s.par, a', s.kn, c', b', s.an, d'⟩, .bool true]) ∧ RowAt w' 1 a' s.kn c' ks ∧ RowAt w' 2 b' s.an d' us ∧ Below w.heap.size w w' := by
  have hal : Below w.heap.size w (w.alloc (.cells #[.int .i64 0, .string ⟨#[]⟩, .int .i64 0, .slice none 0 0, .slice none 0 0] 76)) := (Below.refl _ w).alloc (Nat.le_refl _) _
  have hx := heap_alloc_last w (.cells #[.int .i64 0, .string ⟨#[]⟩, .int .i64 0, .slice none 0 0, .slice none 0 0] 76)
  have hf := hfind _ hal
  have HX := hid_mk hx
  have HAL := hid_mk hal
  have HK := hid_mk hk
  have HA := hid_mk ha
  clear hfind hx hal hk ha
  go_enter Tryz.func44, Tryz.ntmps44
  go_wp2_with (go_at_call 54; fail)
  generalize w.alloc (.cells #[.int .i64 0, .string ⟨#[]⟩, .int .i64 0, .slice none 0 0, .slice none 0 0] 76) = WR at *
  refine hf.mono ?_
  rintro e w1 ⟨rfl, hb1⟩
  have hB1 : Below w.heap.size w w1 := HAL.out.trans (hb1.mono HAL.out.size)
  have hwr : w.heap.size < WR.heap.size := (Array.getElem?_eq_some_iff.1 HX.out).1
  have hR := (hb1.block w.heap.size hwr).trans HX.out
  obtain ⟨id0, tag0, par0, ka, kn, kc, aa, an, ac⟩ := s
  dsimp only at *
  rw [show N5.val ⟨id0, tag0, par0, ka, kn, kc, aa, an, ac⟩ = .agg #[.int .i64 id0, .string tag0, .int .i64 par0, .slice ka kn kc, .slice aa an ac] from rfl]
  have HB1 := hid_mk hB1
  have HR := hid_mk hR
  clear hb1 hf hR hB1 HX HAL
  go_wp2
  have hA : Below w.heap.size w (w1.alloc (.cells #[.int .i64 id0, .string tag0, .int .i64 par0, .slice ka kn kc, .slice aa an ac] 76)) := HB1.out.alloc HB1.out.size _
  have hN : NodeAt (w1.alloc (.cells #[.int .i64 id0, .string tag0, .int .i64 par0, .slice ka kn kc, .slice aa an ac] 76)) w1.heap.size ⟨id0, tag0, par0, ka, kn, kc, aa, an, ac⟩ := heap_alloc_last w1 _
  have hRl := (Array.getElem?_eq_some_iff.1 HR.out).1
  have hR2 := (((Below.refl w1.heap.size w1).alloc (Nat.le_refl _) (.cells #[.int .i64 id0, .string tag0, .int .i64 par0, .slice ka kn kc, .slice aa an ac] 76)).block w.heap.size hRl).trans HR.out
  generalize hg : w1.heap.size = g at *
  generalize w1.alloc (.cells #[.int .i64 id0, .string tag0, .int .i64 par0, .slice ka kn kc, .slice aa an ac] 76) = W2 at *
  obtain ⟨⟨k0, k1, k2, k3, k4⟩, f0, f1, f2, f3, f4, hl⟩ := hN.cells
  dsimp only at k0 k1 k2 k3 k4
  have HC1 : Hid (∀ W, Below W2.heap.size W2 W → Calls Tryz.prog 80 #[.slice ka kn kc] W fun e w' => ∃ a' c', e = .returned (.slice a' kn c') ∧ w'.cell? ⟨g, 4, none⟩ = some (.slice aa an ac) ∧ Hid (RowAt w' 1 a' kn c' ks) ∧ Hid (NewAt W2.heap.size a') ∧ Below W2.heap.size W2 w') := by
    intro W hW
    have hW0 : Below w.heap.size w W := hA.trans (hW.mono hA.size)
    refine (cloneI (HK.out.keep hW0) (by omega)).mono ?_
    rintro e w' ⟨a', c', rfl, q1, q0, q2⟩
    have hB : Below W2.heap.size W2 w' := hW.trans (q2.mono hW.size)
    exact ⟨a', c', rfl, (hB.cell (p := ⟨g, 4, none⟩) hl).trans k4, q1, q0.mono hW.size, hB⟩
  have HC2 : Hid (∀ W, Below W2.heap.size W2 W → Calls Tryz.prog 81 #[.slice aa an ac] W fun e w' => ∃ b' d', e = .returned (.slice b' an d') ∧ (w'.cell? ⟨g, 3, none⟩ = some (.slice ka kn kc) ∧ w'.cell? ⟨g, 4, none⟩ = some (.slice aa an ac) ∧ w'.frozen? ⟨g, 3, none⟩ = false ∧ w'.frozen? ⟨g, 4, none⟩ = false) ∧ Hid (RowAt w' 2 b' an d' us) ∧ Hid (NewAt W2.heap.size b') ∧ Hid (Below W.heap.size W w')) := by
    intro W hW
    have hW0 : Below w.heap.size w W := hA.trans (hW.mono hA.size)
    refine (cloneA (HA.out.keep hW0) (by omega)).mono ?_
    rintro e w' ⟨a', c', rfl, q1, q0, q2⟩
    have hB : Below W2.heap.size W2 w' := hW.trans (q2.mono hW.size)
    obtain ⟨⟨_, _, _, c3, c4⟩, _, _, _, z3, z4, _⟩ := NodeAt.cells (s := ⟨id0, tag0, par0, ka, kn, kc, aa, an, ac⟩) ((hB.block _ hl).trans hN)
    exact ⟨a', c', rfl, ⟨c3, c4, z3, z4⟩, q1, q0.mono hW.size, q2⟩
  have gd : Below W2.heap.size W2 W2.drew := (Below.refl _ W2).drew
  have kd3 : W2.drew.cell? ⟨g, 3, none⟩ = some (.slice ka kn kc) := k3
  have kd4 : W2.drew.cell? ⟨g, 4, none⟩ = some (.slice aa an ac) := k4
  have HN := hid_mk hN
  have HAA := hid_mk hA
  have HR2 := hid_mk hR2
  have HGW : Hid (w.heap.size < g ∧ g < W2.heap.size) := ⟨by omega, hl⟩
  clear hN hA hR2 HR HB1 hRl k0 k1 k2 f0 f1 f2 HK HA hg
  go_region_with (first
    | (go_at_call 80; with_reducible refine (HC1.out _ gd).mono ?_; rintro e w3 ⟨a', c', rfl, q4, HQ1, HQ0, gd3⟩)
    | (go_at_call 81; with_reducible refine (HC2.out _ gd3).mono ?_; rintro e w4 ⟨b', d', rfl, ⟨r3, r4, z3, z4⟩, HT1, HT0, HT2⟩))
  all_goals
    have hN4 : NodeAt w4 g ⟨id0, tag0, par0, ka, kn, kc, aa, an, ac⟩ := (HT2.out.block _ (Nat.lt_of_lt_of_le HGW.out.2 gd3.size)).trans ((gd3.block _ HGW.out.2).trans HN.out)
    have hR4 := (HT2.out.block w.heap.size (Nat.lt_of_lt_of_le (Nat.lt_trans HGW.out.1 HGW.out.2) gd3.size)).trans ((gd3.block _ (Nat.lt_trans HGW.out.1 HGW.out.2)).trans HR2.out)
    have hN5 := heap_setCell_same _ g 4 _ 76 (.slice b' an d') (heap_setCell_same w4 g 3 _ 76 (.slice a' kn c') hN4)
    have hR5 := (Below.heap_setCell (w4.setCell ⟨g, 3, none⟩ (.slice a' kn c')) ⟨g, 4, none⟩ (.slice b' an d') w.heap.size (Nat.ne_of_lt HGW.out.1)).trans ((Below.heap_setCell w4 ⟨g, 3, none⟩ (.slice a' kn c') w.heap.size (Nat.ne_of_lt HGW.out.1)).trans hR4)
    have hB4 : Below w.heap.size w w4 := (HAA.out.trans (gd3.mono HAA.out.size)).trans (HT2.out.mono (Nat.le_trans HAA.out.size gd3.size))
    have hB5 := (hB4.setCell (p := ⟨g, 3, none⟩) (Nat.le_of_lt HGW.out.1) (.slice a' kn c')).setCell (p := ⟨g, 4, none⟩) (Nat.le_of_lt HGW.out.1) (.slice b' an d')
    have hq1 := ((HQ1.out.keep HT2.out).set (o := 3) HQ0.out HGW.out.2 (.slice a' kn c')).set (o := 4) HQ0.out HGW.out.2 (.slice b' an d')
    have ht1 := (HT1.out.set (o := 3) HT0.out HGW.out.2 (.slice a' kn c')).set (o := 4) HT0.out HGW.out.2 (.slice b' an d')
    generalize (w4.setCell ⟨g, 3, none⟩ (.slice a' kn c')).setCell ⟨g, 4, none⟩ (.slice b' an d') = W5 at *
    have hN6 : NodeAt W5 g ⟨id0, tag0, par0, a', kn, c', b', an, d'⟩ := hN5
    obtain ⟨⟨m0, m1, m2, m3, m4⟩, _⟩ := hN6.cells
    dsimp only at m0 m1 m2 m3 m4
    obtain ⟨⟨y0, y1, y2, y3, y4⟩, x0, x1, x2, x3, x4⟩ := zero_cells5 hR5
    have hRl : w.heap.size < W5.heap.size := (Array.getElem?_eq_some_iff.1 hR5).1
    have HB5 := hid_mk hB5
    have HS1 := hid_mk hq1
    have HS2 := hid_mk ht1
    have hne : ¬ w.heap.size = g := Nat.ne_of_lt HGW.out.1
    have HGW2 : Hid (w.heap.size < W2.heap.size) := Nat.lt_trans HGW.out.1 HGW.out.2
    clear hN4 hR4 hN5 hR5 hB4 hB5 hq1 ht1 hN6 gd3 q4 r3 r4 z3 z4 k3 k4 f3 f4 kd3 kd4 gd HC1 HC2 HN HAA HR2 HT1 HT2 HQ1
    go_wp2
    refine bodyPost_ret (v := .tuple #[N5.val ⟨id0, tag0, par0, a', kn, c', b', an, d'⟩, .bool true]) (by simp [results, Tryz.results44, go_sem, N5.val, y0, y1, y2, y3, y4]) rfl ⟨a', c', b', d', rfl, ?_, ?_, below_five HB5.out _ _ _ _ _⟩
    · exact HS1.out.set5 HQ0.out HGW2.out _ _ _ _ _
    · exact HS2.out.set5 HT0.out HGW2.out _ _ _ _ _
set_option maxHeartbeats 1000000 in
theorem node_1 {w : World} {dp : Value} (n : Int) (s : N5) {ks us : List Value} (hfind : ∀ W, Below w.heap.size w W → Calls Tryz.prog 54 #[dp, .int .i64 n] W fun e w' => e = .returned (.tuple #[s.val, .int .i64 1]) ∧ Below W.heap.size W w') (hk : RowAt w 1 s.ka s.kn s.kc ks) (ha : RowAt w 2 s.aa s.an s.ac us) (h1 : s.kn ≤ 300000) (h2 : s.an ≤ 300000) :
    Calls Tryz.prog 44 #[dp, .int .i64 n] w fun e w' => ∃ a' c' b' d', e = .returned (.tuple #[N5.val ⟨s.id, s.tag, s.par, a', s.kn, c', b', s.an, d'⟩, .bool false]) ∧ RowAt w' 1 a' s.kn c' ks ∧ RowAt w' 2 b' s.an d' us ∧ Below w.heap.size w w' := by
  have hal : Below w.heap.size w (w.alloc (.cells #[.int .i64 0, .string ⟨#[]⟩, .int .i64 0, .slice none 0 0, .slice none 0 0] 76)) := (Below.refl _ w).alloc (Nat.le_refl _) _
  have hx := heap_alloc_last w (.cells #[.int .i64 0, .string ⟨#[]⟩, .int .i64 0, .slice none 0 0, .slice none 0 0] 76)
  have hf := hfind _ hal
  have HX := hid_mk hx
  have HAL := hid_mk hal
  have HK := hid_mk hk
  have HA := hid_mk ha
  clear hfind hx hal hk ha
  go_enter Tryz.func44, Tryz.ntmps44
  go_wp2_with (go_at_call 54; fail)
  generalize w.alloc (.cells #[.int .i64 0, .string ⟨#[]⟩, .int .i64 0, .slice none 0 0, .slice none 0 0] 76) = WR at *
  refine hf.mono ?_
  rintro e w1 ⟨rfl, hb1⟩
  have hB1 : Below w.heap.size w w1 := HAL.out.trans (hb1.mono HAL.out.size)
  have hwr : w.heap.size < WR.heap.size := (Array.getElem?_eq_some_iff.1 HX.out).1
  have hR := (hb1.block w.heap.size hwr).trans HX.out
  obtain ⟨id0, tag0, par0, ka, kn, kc, aa, an, ac⟩ := s
  dsimp only at *
  rw [show N5.val ⟨id0, tag0, par0, ka, kn, kc, aa, an, ac⟩ = .agg #[.int .i64 id0, .string tag0, .int .i64 par0, .slice ka kn kc, .slice aa an ac] from rfl]
  have HB1 := hid_mk hB1
  have HR := hid_mk hR
  clear hb1 hf hR hB1 HX HAL
  go_wp2
  have hA : Below w.heap.size w (w1.alloc (.cells #[.int .i64 id0, .string tag0, .int .i64 par0, .slice ka kn kc, .slice aa an ac] 76)) := HB1.out.alloc HB1.out.size _
  have hN : NodeAt (w1.alloc (.cells #[.int .i64 id0, .string tag0, .int .i64 par0, .slice ka kn kc, .slice aa an ac] 76)) w1.heap.size ⟨id0, tag0, par0, ka, kn, kc, aa, an, ac⟩ := heap_alloc_last w1 _
  have hRl := (Array.getElem?_eq_some_iff.1 HR.out).1
  have hR2 := (((Below.refl w1.heap.size w1).alloc (Nat.le_refl _) (.cells #[.int .i64 id0, .string tag0, .int .i64 par0, .slice ka kn kc, .slice aa an ac] 76)).block w.heap.size hRl).trans HR.out
  generalize hg : w1.heap.size = g at *
  generalize w1.alloc (.cells #[.int .i64 id0, .string tag0, .int .i64 par0, .slice ka kn kc, .slice aa an ac] 76) = W2 at *
  obtain ⟨⟨k0, k1, k2, k3, k4⟩, f0, f1, f2, f3, f4, hl⟩ := hN.cells
  dsimp only at k0 k1 k2 k3 k4
  have HC1 : Hid (∀ W, Below W2.heap.size W2 W → Calls Tryz.prog 80 #[.slice ka kn kc] W fun e w' => ∃ a' c', e = .returned (.slice a' kn c') ∧ w'.cell? ⟨g, 4, none⟩ = some (.slice aa an ac) ∧ Hid (RowAt w' 1 a' kn c' ks) ∧ Hid (NewAt W2.heap.size a') ∧ Below W2.heap.size W2 w') := by
    intro W hW
    have hW0 : Below w.heap.size w W := hA.trans (hW.mono hA.size)
    refine (cloneI (HK.out.keep hW0) (by omega)).mono ?_
    rintro e w' ⟨a', c', rfl, q1, q0, q2⟩
    have hB : Below W2.heap.size W2 w' := hW.trans (q2.mono hW.size)
    exact ⟨a', c', rfl, (hB.cell (p := ⟨g, 4, none⟩) hl).trans k4, q1, q0.mono hW.size, hB⟩
  have HC2 : Hid (∀ W, Below W2.heap.size W2 W → Calls Tryz.prog 81 #[.slice aa an ac] W fun e w' => ∃ b' d', e = .returned (.slice b' an d') ∧ (w'.cell? ⟨g, 3, none⟩ = some (.slice ka kn kc) ∧ w'.cell? ⟨g, 4, none⟩ = some (.slice aa an ac) ∧ w'.frozen? ⟨g, 3, none⟩ = false ∧ w'.frozen? ⟨g, 4, none⟩ = false) ∧ Hid (RowAt w' 2 b' an d' us) ∧ Hid (NewAt W2.heap.size b') ∧ Hid (Below W.heap.size W w')) := by
    intro W hW
    have hW0 : Below w.heap.size w W := hA.trans (hW.mono hA.size)
    refine (cloneA (HA.out.keep hW0) (by omega)).mono ?_
    rintro e w' ⟨a', c', rfl, q1, q0, q2⟩
    have hB : Below W2.heap.size W2 w' := hW.trans (q2.mono hW.size)
    obtain ⟨⟨_, _, _, c3, c4⟩, _, _, _, z3, z4, _⟩ := NodeAt.cells (s := ⟨id0, tag0, par0, ka, kn, kc, aa, an, ac⟩) ((hB.block _ hl).trans hN)
    exact ⟨a', c', rfl, ⟨c3, c4, z3, z4⟩, q1, q0.mono hW.size, q2⟩
  have gd : Below W2.heap.size W2 W2.drew := (Below.refl _ W2).drew
  have kd3 : W2.drew.cell? ⟨g, 3, none⟩ = some (.slice ka kn kc) := k3
  have kd4 : W2.drew.cell? ⟨g, 4, none⟩ = some (.slice aa an ac) := k4
  have HN := hid_mk hN
  have HAA := hid_mk hA
  have HR2 := hid_mk hR2
  have HGW : Hid (w.heap.size < g ∧ g < W2.heap.size) := ⟨by omega, hl⟩
  clear hN hA hR2 HR HB1 hRl k0 k1 k2 f0 f1 f2 HK HA hg
  go_region_with (first
    | (go_at_call 80; with_reducible refine (HC1.out _ gd).mono ?_; rintro e w3 ⟨a', c', rfl, q4, HQ1, HQ0, gd3⟩)
    | (go_at_call 81; with_reducible refine (HC2.out _ gd3).mono ?_; rintro e w4 ⟨b', d', rfl, ⟨r3, r4, z3, z4⟩, HT1, HT0, HT2⟩))
  all_goals
    have hN4 : NodeAt w4 g ⟨id0, tag0, par0, ka, kn, kc, aa, an, ac⟩ := (HT2.out.block _ (Nat.lt_of_lt_of_le HGW.out.2 gd3.size)).trans ((gd3.block _ HGW.out.2).trans HN.out)
    have hR4 := (HT2.out.block w.heap.size (Nat.lt_of_lt_of_le (Nat.lt_trans HGW.out.1 HGW.out.2) gd3.size)).trans ((gd3.block _ (Nat.lt_trans HGW.out.1 HGW.out.2)).trans HR2.out)
    have hN5 := heap_setCell_same _ g 4 _ 76 (.slice b' an d') (heap_setCell_same w4 g 3 _ 76 (.slice a' kn c') hN4)
    have hR5 := (Below.heap_setCell (w4.setCell ⟨g, 3, none⟩ (.slice a' kn c')) ⟨g, 4, none⟩ (.slice b' an d') w.heap.size (Nat.ne_of_lt HGW.out.1)).trans ((Below.heap_setCell w4 ⟨g, 3, none⟩ (.slice a' kn c') w.heap.size (Nat.ne_of_lt HGW.out.1)).trans hR4)
    have hB4 : Below w.heap.size w w4 := (HAA.out.trans (gd3.mono HAA.out.size)).trans (HT2.out.mono (Nat.le_trans HAA.out.size gd3.size))
    have hB5 := (hB4.setCell (p := ⟨g, 3, none⟩) (Nat.le_of_lt HGW.out.1) (.slice a' kn c')).setCell (p := ⟨g, 4, none⟩) (Nat.le_of_lt HGW.out.1) (.slice b' an d')
    have hq1 := ((HQ1.out.keep HT2.out).set (o := 3) HQ0.out HGW.out.2 (.slice a' kn c')).set (o := 4) HQ0.out HGW.out.2 (.slice b' an d')
    have ht1 := (HT1.out.set (o := 3) HT0.out HGW.out.2 (.slice a' kn c')).set (o := 4) HT0.out HGW.out.2 (.slice b' an d')
    generalize (w4.setCell ⟨g, 3, none⟩ (.slice a' kn c')).setCell ⟨g, 4, none⟩ (.slice b' an d') = W5 at *
    have hN6 : NodeAt W5 g ⟨id0, tag0, par0, a', kn, c', b', an, d'⟩ := hN5
    obtain ⟨⟨m0, m1, m2, m3, m4⟩, _⟩ := hN6.cells
    dsimp only at m0 m1 m2 m3 m4
    obtain ⟨⟨y0, y1, y2, y3, y4⟩, x0, x1, x2, x3, x4⟩ := zero_cells5 hR5
    have hRl : w.heap.size < W5.heap.size := (Array.getElem?_eq_some_iff.1 hR5).1
    have HB5 := hid_mk hB5
    have HS1 := hid_mk hq1
    have HS2 := hid_mk ht1
    have hne : ¬ w.heap.size = g := Nat.ne_of_lt HGW.out.1
    have HGW2 : Hid (w.heap.size < W2.heap.size) := Nat.lt_trans HGW.out.1 HGW.out.2
    clear hN4 hR4 hN5 hR5 hB4 hB5 hq1 ht1 hN6 gd3 q4 r3 r4 z3 z4 k3 k4 f3 f4 kd3 kd4 gd HC1 HC2 HN HAA HR2 HT1 HT2 HQ1
    go_wp2
    refine bodyPost_ret (v := .tuple #[N5.val ⟨id0, tag0, par0, a', kn, c', b', an, d'⟩, .bool false]) (by simp [results, Tryz.results44, go_sem, N5.val, y0, y1, y2, y3, y4]) rfl ⟨a', c', b', d', rfl, ?_, ?_, below_five HB5.out _ _ _ _ _⟩
    · exact HS1.out.set5 HQ0.out HGW2.out _ _ _ _ _
    · exact HS2.out.set5 HT0.out HGW2.out _ _ _ _ _
set_option maxHeartbeats 1000000 in
theorem node_9 {w : World} {dp : Value} (n : Int) (s : N5) {ks us : List Value} (hfind : ∀ W, Below w.heap.size w W → Calls Tryz.prog 54 #[dp, .int .i64 n] W fun e w' => e = .returned (.tuple #[s.val, .int .i64 9]) ∧ Below W.heap.size W w') (hk : RowAt w 1 s.ka s.kn s.kc ks) (ha : RowAt w 2 s.aa s.an s.ac us) (h1 : s.kn ≤ 300000) (h2 : s.an ≤ 300000) :
    Calls Tryz.prog 44 #[dp, .int .i64 n] w fun e w' => ∃ a' c' b' d', e = .returned (.tuple #[N5.val ⟨s.id, s.tag, s.par, a', s.kn, c', b', s.an, d'⟩, .bool false]) ∧ RowAt w' 1 a' s.kn c' ks ∧ RowAt w' 2 b' s.an d' us ∧ Below w.heap.size w w' := by
  have hal : Below w.heap.size w (w.alloc (.cells #[.int .i64 0, .string ⟨#[]⟩, .int .i64 0, .slice none 0 0, .slice none 0 0] 76)) := (Below.refl _ w).alloc (Nat.le_refl _) _
  have hx := heap_alloc_last w (.cells #[.int .i64 0, .string ⟨#[]⟩, .int .i64 0, .slice none 0 0, .slice none 0 0] 76)
  have hf := hfind _ hal
  have HX := hid_mk hx
  have HAL := hid_mk hal
  have HK := hid_mk hk
  have HA := hid_mk ha
  clear hfind hx hal hk ha
  go_enter Tryz.func44, Tryz.ntmps44
  go_wp2_with (go_at_call 54; fail)
  generalize w.alloc (.cells #[.int .i64 0, .string ⟨#[]⟩, .int .i64 0, .slice none 0 0, .slice none 0 0] 76) = WR at *
  refine hf.mono ?_
  rintro e w1 ⟨rfl, hb1⟩
  have hB1 : Below w.heap.size w w1 := HAL.out.trans (hb1.mono HAL.out.size)
  have hwr : w.heap.size < WR.heap.size := (Array.getElem?_eq_some_iff.1 HX.out).1
  have hR := (hb1.block w.heap.size hwr).trans HX.out
  obtain ⟨id0, tag0, par0, ka, kn, kc, aa, an, ac⟩ := s
  dsimp only at *
  rw [show N5.val ⟨id0, tag0, par0, ka, kn, kc, aa, an, ac⟩ = .agg #[.int .i64 id0, .string tag0, .int .i64 par0, .slice ka kn kc, .slice aa an ac] from rfl]
  have HB1 := hid_mk hB1
  have HR := hid_mk hR
  clear hb1 hf hR hB1 HX HAL
  go_wp2
  have hA : Below w.heap.size w (w1.alloc (.cells #[.int .i64 id0, .string tag0, .int .i64 par0, .slice ka kn kc, .slice aa an ac] 76)) := HB1.out.alloc HB1.out.size _
  have hN : NodeAt (w1.alloc (.cells #[.int .i64 id0, .string tag0, .int .i64 par0, .slice ka kn kc, .slice aa an ac] 76)) w1.heap.size ⟨id0, tag0, par0, ka, kn, kc, aa, an, ac⟩ := heap_alloc_last w1 _
  have hRl := (Array.getElem?_eq_some_iff.1 HR.out).1
  have hR2 := (((Below.refl w1.heap.size w1).alloc (Nat.le_refl _) (.cells #[.int .i64 id0, .string tag0, .int .i64 par0, .slice ka kn kc, .slice aa an ac] 76)).block w.heap.size hRl).trans HR.out
  generalize hg : w1.heap.size = g at *
  generalize w1.alloc (.cells #[.int .i64 id0, .string tag0, .int .i64 par0, .slice ka kn kc, .slice aa an ac] 76) = W2 at *
  obtain ⟨⟨k0, k1, k2, k3, k4⟩, f0, f1, f2, f3, f4, hl⟩ := hN.cells
  dsimp only at k0 k1 k2 k3 k4
  have HC1 : Hid (∀ W, Below W2.heap.size W2 W → Calls Tryz.prog 80 #[.slice ka kn kc] W fun e w' => ∃ a' c', e = .returned (.slice a' kn c') ∧ w'.cell? ⟨g, 4, none⟩ = some (.slice aa an ac) ∧ Hid (RowAt w' 1 a' kn c' ks) ∧ Hid (NewAt W2.heap.size a') ∧ Below W2.heap.size W2 w') := by
    intro W hW
    have hW0 : Below w.heap.size w W := hA.trans (hW.mono hA.size)
    refine (cloneI (HK.out.keep hW0) (by omega)).mono ?_
    rintro e w' ⟨a', c', rfl, q1, q0, q2⟩
    have hB : Below W2.heap.size W2 w' := hW.trans (q2.mono hW.size)
    exact ⟨a', c', rfl, (hB.cell (p := ⟨g, 4, none⟩) hl).trans k4, q1, q0.mono hW.size, hB⟩
  have HC2 : Hid (∀ W, Below W2.heap.size W2 W → Calls Tryz.prog 81 #[.slice aa an ac] W fun e w' => ∃ b' d', e = .returned (.slice b' an d') ∧ (w'.cell? ⟨g, 3, none⟩ = some (.slice ka kn kc) ∧ w'.cell? ⟨g, 4, none⟩ = some (.slice aa an ac) ∧ w'.frozen? ⟨g, 3, none⟩ = false ∧ w'.frozen? ⟨g, 4, none⟩ = false) ∧ Hid (RowAt w' 2 b' an d' us) ∧ Hid (NewAt W2.heap.size b') ∧ Hid (Below W.heap.size W w')) := by
    intro W hW
    have hW0 : Below w.heap.size w W := hA.trans (hW.mono hA.size)
    refine (cloneA (HA.out.keep hW0) (by omega)).mono ?_
    rintro e w' ⟨a', c', rfl, q1, q0, q2⟩
    have hB : Below W2.heap.size W2 w' := hW.trans (q2.mono hW.size)
    obtain ⟨⟨_, _, _, c3, c4⟩, _, _, _, z3, z4, _⟩ := NodeAt.cells (s := ⟨id0, tag0, par0, ka, kn, kc, aa, an, ac⟩) ((hB.block _ hl).trans hN)
    exact ⟨a', c', rfl, ⟨c3, c4, z3, z4⟩, q1, q0.mono hW.size, q2⟩
  have gd : Below W2.heap.size W2 W2.drew := (Below.refl _ W2).drew
  have kd3 : W2.drew.cell? ⟨g, 3, none⟩ = some (.slice ka kn kc) := k3
  have kd4 : W2.drew.cell? ⟨g, 4, none⟩ = some (.slice aa an ac) := k4
  have HN := hid_mk hN
  have HAA := hid_mk hA
  have HR2 := hid_mk hR2
  have HGW : Hid (w.heap.size < g ∧ g < W2.heap.size) := ⟨by omega, hl⟩
  clear hN hA hR2 HR HB1 hRl k0 k1 k2 f0 f1 f2 HK HA hg
  go_region_with (first
    | (go_at_call 80; with_reducible refine (HC1.out _ gd).mono ?_; rintro e w3 ⟨a', c', rfl, q4, HQ1, HQ0, gd3⟩)
    | (go_at_call 81; with_reducible refine (HC2.out _ gd3).mono ?_; rintro e w4 ⟨b', d', rfl, ⟨r3, r4, z3, z4⟩, HT1, HT0, HT2⟩))
  all_goals
    have hN4 : NodeAt w4 g ⟨id0, tag0, par0, ka, kn, kc, aa, an, ac⟩ := (HT2.out.block _ (Nat.lt_of_lt_of_le HGW.out.2 gd3.size)).trans ((gd3.block _ HGW.out.2).trans HN.out)
    have hR4 := (HT2.out.block w.heap.size (Nat.lt_of_lt_of_le (Nat.lt_trans HGW.out.1 HGW.out.2) gd3.size)).trans ((gd3.block _ (Nat.lt_trans HGW.out.1 HGW.out.2)).trans HR2.out)
    have hN5 := heap_setCell_same _ g 4 _ 76 (.slice b' an d') (heap_setCell_same w4 g 3 _ 76 (.slice a' kn c') hN4)
    have hR5 := (Below.heap_setCell (w4.setCell ⟨g, 3, none⟩ (.slice a' kn c')) ⟨g, 4, none⟩ (.slice b' an d') w.heap.size (Nat.ne_of_lt HGW.out.1)).trans ((Below.heap_setCell w4 ⟨g, 3, none⟩ (.slice a' kn c') w.heap.size (Nat.ne_of_lt HGW.out.1)).trans hR4)
    have hB4 : Below w.heap.size w w4 := (HAA.out.trans (gd3.mono HAA.out.size)).trans (HT2.out.mono (Nat.le_trans HAA.out.size gd3.size))
    have hB5 := (hB4.setCell (p := ⟨g, 3, none⟩) (Nat.le_of_lt HGW.out.1) (.slice a' kn c')).setCell (p := ⟨g, 4, none⟩) (Nat.le_of_lt HGW.out.1) (.slice b' an d')
    have hq1 := ((HQ1.out.keep HT2.out).set (o := 3) HQ0.out HGW.out.2 (.slice a' kn c')).set (o := 4) HQ0.out HGW.out.2 (.slice b' an d')
    have ht1 := (HT1.out.set (o := 3) HT0.out HGW.out.2 (.slice a' kn c')).set (o := 4) HT0.out HGW.out.2 (.slice b' an d')
    generalize (w4.setCell ⟨g, 3, none⟩ (.slice a' kn c')).setCell ⟨g, 4, none⟩ (.slice b' an d') = W5 at *
    have hN6 : NodeAt W5 g ⟨id0, tag0, par0, a', kn, c', b', an, d'⟩ := hN5
    obtain ⟨⟨m0, m1, m2, m3, m4⟩, _⟩ := hN6.cells
    dsimp only at m0 m1 m2 m3 m4
    obtain ⟨⟨y0, y1, y2, y3, y4⟩, x0, x1, x2, x3, x4⟩ := zero_cells5 hR5
    have hRl : w.heap.size < W5.heap.size := (Array.getElem?_eq_some_iff.1 hR5).1
    have HB5 := hid_mk hB5
    have HS1 := hid_mk hq1
    have HS2 := hid_mk ht1
    have hne : ¬ w.heap.size = g := Nat.ne_of_lt HGW.out.1
    have HGW2 : Hid (w.heap.size < W2.heap.size) := Nat.lt_trans HGW.out.1 HGW.out.2
    clear hN4 hR4 hN5 hR5 hB4 hB5 hq1 ht1 hN6 gd3 q4 r3 r4 z3 z4 k3 k4 f3 f4 kd3 kd4 gd HC1 HC2 HN HAA HR2 HT1 HT2 HQ1
    go_wp2
    refine bodyPost_ret (v := .tuple #[N5.val ⟨id0, tag0, par0, a', kn, c', b', an, d'⟩, .bool false]) (by simp [results, Tryz.results44, go_sem, N5.val, y0, y1, y2, y3, y4]) rfl ⟨a', c', b', d', rfl, ?_, ?_, below_five HB5.out _ _ _ _ _⟩
    · exact HS1.out.set5 HQ0.out HGW2.out _ _ _ _ _
    · exact HS2.out.set5 HT0.out HGW2.out _ _ _ _ _
theorem node_some {w : World} {dp : Value} {t : T} {nx : Int} (h : DocAt w dp t nx) (n : Int) (s : N5) {ks us : List Value} (hg : getV t n = some s.val) (hk : RowAt w 1 s.ka s.kn s.kc ks) (ha : RowAt w 2 s.aa s.an s.ac us) (h1 : s.kn ≤ 300000) (h2 : s.an ≤ 300000) :
    Calls Tryz.prog 44 #[dp, .int .i64 n] w fun e w' => ∃ a' c' b' d', e = .returned (.tuple #[N5.val ⟨s.id, s.tag, s.par, a', s.kn, c', b', s.an, d'⟩, .bool true]) ∧ RowAt w' 1 a' s.kn c' ks ∧ RowAt w' 2 b' s.an d' us ∧ Below w.heap.size w w' :=
  node_0 n s (fun _ hW => find_some (h.keep hW) n s hg) hk ha h1 h2
/-- What is told of an element that is none: whatever its two slices are, they are empty. -/
theorem node_none {w : World} {dp : Value} {t : T} {nx : Int} (h : DocAt w dp t nx) (n : Int) (hg : getV t n = none) :
    Calls Tryz.prog 44 #[dp, .int .i64 n] w fun e w' => ∃ a' c' b' d', e = .returned (.tuple #[N5.val ⟨0, ⟨#[]⟩, 0, a', 0, c', b', 0, d'⟩, .bool false]) ∧ Below w.heap.size w w' := by
  refine (node_1 n ⟨0, ⟨#[]⟩, 0, none, 0, 0, none, 0, 0⟩ (fun _ hW => find_none (h.keep hW) n hg) (RowAt.nil w 1) (RowAt.nil w 2) (by decide) (by decide)).mono ?_
  rintro e w' ⟨a', c', b', d', rfl, _, _, hB⟩
  exact ⟨a', c', b', d', rfl, hB⟩
theorem node_nil (w : World) (n : Int) :
    Calls Tryz.prog 44 #[.pointer none, .int .i64 n] w fun e w' => ∃ a' c' b' d', e = .returned (.tuple #[N5.val ⟨0, ⟨#[]⟩, 0, a', 0, c', b', 0, d'⟩, .bool false]) ∧ Below w.heap.size w w' := by
  refine (node_9 n ⟨0, ⟨#[]⟩, 0, none, 0, 0, none, 0, 0⟩ (fun W _ => find_nil W n) (RowAt.nil w 1) (RowAt.nil w 2) (by decide) (by decide)).mono ?_
  rintro e w' ⟨a', c', b', d', rfl, _, _, hB⟩
  exact ⟨a', c', b', d', rfl, hB⟩

end Go.Proofs.YtdiljkmlneeboaaGreat.N
