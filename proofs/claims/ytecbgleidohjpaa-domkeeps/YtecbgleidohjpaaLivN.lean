/- The document's example. -/
import Derived.Test.YtecbgleidohjpaaPakN
namespace Go.Proofs.Ytecbgleidohjpaa.N
open Go.RowKit
set_option maxRecDepth 100000

def sA : ByteArray := ⟨#[97]⟩
def sB : ByteArray := ⟨#[98]⟩
def sC : ByteArray := ⟨#[99]⟩
theorem name_a : nameZ sA = true := by decide +kernel
theorem name_b : nameZ sB = true := by decide +kernel
theorem name_c : nameZ sC = true := by decide +kernel
def mA : M := mset (fun _ => none) 1 ⟨1, sA, 0, [], []⟩
def mB : M := insM mA 2 1 0 sB
def mC : M := insM mB 3 1 0 sC
theorem mA1 : mA 1 = some ⟨1, sA, 0, [], []⟩ := mset_same _ _ _
theorem mB1 : mB 1 = some ⟨1, sA, 0, [2], []⟩ := rfl
theorem mC1 : mC 1 = some ⟨1, sA, 0, [3, 2], []⟩ := rfl
theorem mC2 : mC 2 = some ⟨2, sB, 1, [], []⟩ := rfl
theorem mC3 : mC 3 = some ⟨3, sC, 1, [], []⟩ := rfl
def mD : M := mvM mC 3 2 0
theorem mD1 : mD 1 = some ⟨1, sA, 0, [2], []⟩ := rfl
theorem mD3 : mD 3 = some ⟨3, sC, 2, [], []⟩ := rfl
theorem mD2 : mD 2 = some ⟨2, sB, 1, [3], []⟩ := rfl
theorem upsA : (ups mA 1).length < 512 := by simp [ups, upL, mA, mset]
theorem upsB : (ups mB 1).length < 512 := by
  unfold ups
  rw [upL_some mB1, upL_none (by rfl)]
  decide
theorem insA : insErr mA 1 ((0 : Nat) : Int) sB = 0 := insErr_ok mA1 (Nat.zero_le _) name_b upsA
theorem insB : insErr mB 1 ((0 : Nat) : Int) sC = 0 := insErr_ok mB1 (Nat.zero_le _) name_c upsB
theorem fullC : Full mC 3 1 := ⟨Nat.le_refl _, rfl, fun k hk => by
  obtain rfl : k = 0 := by omega
  simp [lev]⟩
theorem upsC2 : ups mC 2 = [2, 1] := by
  unfold ups
  rw [upL_some mC2, upL_some mC1, upL_none (by rfl)]
theorem movC : movErr mC 3 2 ((0 : Nat) : Int) 1 = 0 := by
  unfold movErr
  rw [mC3, mC2, upsC2]
  decide
theorem upsD3 : ups mD 3 = [3, 2, 1] := by
  unfold ups
  rw [upL_some mD3, upL_some mD2, upL_some mD1, upL_none (by rfl)]
theorem movD (k : Nat) : movErr mD 2 3 ((0 : Nat) : Int) k = 2 := by
  unfold movErr
  rw [mD2, mD3, upsD3]
  simp
theorem cntD : Cnt mD 3 := by
  have h1 : Cnt mA 1 := Cnt.zero.set 1 _
  have h2 : Cnt mB 2 := (h1.set 2 ⟨2, sB, 1, [], []⟩).set 1 _
  have h3 : Cnt mC 3 := (h2.set 3 ⟨3, sC, 1, [], []⟩).set 1 _
  exact h3.mv 3 2 0
/-- What of a Doc Len and Next look at. -/
def HeadAt (w : World) (dp : Value) (sz : Nat) (nx : Int) : Prop := ∃ b tb r c, dp = .pointer (some ⟨b, 0, none⟩) ∧ w.heap[b]? = some (.cells #[.pointer (some ⟨tb, 0, none⟩), .int .i64 nx] 64 (0, 0)) ∧ w.heap[tb]? = some (.cells #[r, .int .i64 sz, c] 109 (0, 0))
theorem Tree.head {w : World} {dp : Value} {m : M} {nx : Int} (h : Tree w dp m nx) {k : Nat} (hk : Cnt m k) : HeadAt w dp k nx := by
  obtain ⟨⟨b, tp, rfl, h1, t, hA, ⟨b', kk, rfl⟩, h3, h4⟩, _⟩ := h
  rcases hA.lies with ⟨_, h⟩ | ⟨tb, rfl, ht⟩
  · cases h
  · rw [hk.uniq h4]
    exact ⟨b, tb, _, _, rfl, h1, ht⟩
theorem HeadAt.keep {w w' : World} {dp : Value} {sz : Nat} {nx : Int} (h : HeadAt w dp sz nx) (hb : Below w.heap.size w w') : HeadAt w' dp sz nx := by
  obtain ⟨b, tb, r, c, e, h1, h2⟩ := h
  exact ⟨b, tb, r, c, e, (hb.block _ (Array.getElem?_eq_some_iff.1 h1).1).trans h1, (hb.block _ (Array.getElem?_eq_some_iff.1 h2).1).trans h2⟩
/-- A store into an element that lies by itself leaves it. -/
theorem HeadAt.set {w : World} {dp : Value} {sz g o : Nat} {nx : Int} {s : N5} (h : HeadAt w dp sz nx) (hg : NodeAt w g s) (v : Value) : HeadAt (w.setCell ⟨g, o, none⟩ v) dp sz nx := by
  obtain ⟨b, tb, r, c, e, h1, h2⟩ := h
  unfold NodeAt at hg
  refine ⟨b, tb, r, c, e, (Below.heap_setCell w ⟨g, o, none⟩ v b (fun h => ?_)).trans h1, (Below.heap_setCell w ⟨g, o, none⟩ v tb (fun h => ?_)).trans h2⟩
  · dsimp only at h
    rw [h, hg] at h1
    cases h1
  · dsimp only at h
    rw [h, hg] at h2
    cases h2
theorem HeadAt.set5 {w : World} {dp : Value} {sz g : Nat} {nx : Int} {s : N5} (h : HeadAt w dp sz nx) (hg : NodeAt w g s) (s' : N5) : HeadAt (((((w.setCell ⟨g, 0, none⟩ (.int .i64 s'.id)).setCell ⟨g, 1, none⟩ (.string s'.tag)).setCell ⟨g, 2, none⟩ (.int .i64 s'.par)).setCell ⟨g, 3, none⟩ (.slice s'.ka s'.kn s'.kc)).setCell ⟨g, 4, none⟩ (.slice s'.aa s'.an s'.ac)) dp sz nx := by
  obtain ⟨b, tb, r, c, e, h1, h2⟩ := h
  unfold NodeAt at hg
  have hb : b ≠ g := by
    rintro rfl
    rw [hg] at h1
    cases h1
  have ht : tb ≠ g := by
    rintro rfl
    rw [hg] at h2
    cases h2
  refine ⟨b, tb, r, c, e, ?_, ?_⟩
  · rw [Below.heap_setCell _ _ _ b hb, Below.heap_setCell _ _ _ b hb, Below.heap_setCell _ _ _ b hb, Below.heap_setCell _ _ _ b hb, Below.heap_setCell _ _ _ b hb]
    exact h1
  · rw [Below.heap_setCell _ _ _ tb ht, Below.heap_setCell _ _ _ tb ht, Below.heap_setCell _ _ _ tb ht, Below.heap_setCell _ _ _ tb ht, Below.heap_setCell _ _ _ tb ht]
    exact h2
set_option maxHeartbeats 400000 in
theorem head_len {w : World} {dp : Value} {sz : Nat} {nx : Int} (h : HeadAt w dp sz nx) : Calls Try.prog 23 #[dp] w fun e w' => e = .returned (.int .i64 sz) ∧ w' = w := by
  obtain ⟨b, tb, r, c, rfl, h1, h2⟩ := h
  have c0 : w.cell? ⟨b, 0, none⟩ = some (.pointer (some ⟨tb, 0, none⟩)) := by simp [World.cell?, h1]
  have c1 : w.cell? ⟨tb, 1, none⟩ = some (.int .i64 sz) := by simp [World.cell?, h2]
  have hl : Calls Try.prog 49 #[.pointer (some ⟨tb, 0, none⟩)] w fun e w' => e = .returned (.int .i64 sz) ∧ w' = w := by
    clear h1 h2 c0
    go_enter Try.func49, Try.ntmps49
    go_wp2
    go_ret
    exact ⟨rfl, rfl⟩
  clear h1 h2
  go_enter Try.func23, Try.ntmps23
  go_wp2_with (go_at_call 49; fail)
  refine hl.mono ?_
  rintro e w' ⟨rfl, rfl⟩
  go_wp2
  go_ret
  exact ⟨rfl, rfl⟩
set_option maxHeartbeats 400000 in
theorem head_next {w : World} {dp : Value} {sz : Nat} {nx : Int} (h : HeadAt w dp sz nx) : Calls Try.prog 21 #[dp] w fun e w' => e = .returned (.int .i64 nx) ∧ w' = w := by
  obtain ⟨b, tb, r, c, rfl, h1, h2⟩ := h
  have c1 : w.cell? ⟨b, 1, none⟩ = some (.int .i64 nx) := by simp [World.cell?, h1]
  clear h1 h2
  go_enter Try.func21, Try.ntmps21
  go_wp2
  go_ret
  exact ⟨rfl, rfl⟩
theorem RowAt.two {w : World} {a : Option Addr} {c : Nat} {x y : Value} {n : Nat} (h : RowAt w 1 a n c [x, y]) : n = 2 ∧ ∃ b off, a = some ⟨b, off, none⟩ ∧ b < w.heap.size ∧ w.cell? ⟨b, off, none⟩ = some x ∧ w.cell? ⟨b, off + 1, none⟩ = some y := by
  have h1 := h.1
  simp at h1
  refine ⟨h1.symm, ?_⟩
  rcases h.2.2.2.2 with ⟨_, h2⟩ | ⟨b, off, e, hl, hc⟩
  · have := h.2.1
    omega
  · exact ⟨b, off, e, hl, hc 0 x rfl, hc 1 y rfl⟩
set_option maxHeartbeats 4000000 in
theorem lives_any (w : World) : Calls Try.prog 10 #[] w fun e w' => e = .returned (.bool true) ∧ Below w.heap.size w w' := by
  have h1 := tree_new sA w (by decide) name_a
  go_enter Try.func10, Try.ntmps10
  go_wp2_with (go_at_call 11; fail)
  refine h1.mono ?_
  rintro x w1 ⟨b1, rfl, hT1, hB1⟩
  have HB1 := hid_mk hB1
  have h2 := tree_insert hT1 (by omega) 1 0 sB (by decide) insA
  clear h1 hB1 hT1
  go_wp2_with (go_at_call 24; fail)
  refine h2.mono ?_
  rintro x w2 ⟨b2, rfl, hT2, hB2⟩
  have HB2 := hid_mk (HB1.out.trans (hB2.mono HB1.out.size))
  have h3 := tree_insert hT2 (by omega) 1 0 sC (by decide) insB
  clear h2 hB2 hT2 HB1
  go_wp2_with (go_at_call 24; fail)
  refine h3.mono ?_
  rintro x w3 ⟨b3, rfl, hT3, hB3⟩
  have HB3 := hid_mk (HB2.out.trans (hB3.mono HB2.out.size))
  have h4 := tree_node (m := mC) (nx := 4) hT3 1
  rw [mC1] at h4
  have HT3 : Hid (Tree w3 (.pointer (some ⟨b3, 0, none⟩)) mC 4) := hT3
  clear h3 hB3 hT3 HB2
  go_wp2_with (go_at_call 22; fail)
  refine h4.mono ?_
  rintro x w4 ⟨s, rfl, hE, hB4⟩
  obtain ⟨hkn, bk, off, hka, hbl, hc0, hc1⟩ := RowAt.two (x := .int .i64 3) (y := .int .i64 2) hE.2.2.2.1
  obtain ⟨id0, tag0, par0, ka, kn, kc, aa, an, ac⟩ := s
  dsimp only at hkn hka
  subst hkn hka
  have hkc : 2 ≤ kc := hE.2.2.2.1.2.1
  have hA4 : Below w4.heap.size w4 (w4.alloc (.cells #[.int .i64 id0, .string tag0, .int .i64 par0, .slice (some ⟨bk, off, none⟩) 2 kc, .slice aa an ac] 52)) := (Below.refl _ _).alloc (Nat.le_refl _) _
  have hd0 := (hA4.cell (p := ⟨bk, off, none⟩) hbl).trans hc0
  have hN4 : NodeAt (w4.alloc (.cells #[.int .i64 id0, .string tag0, .int .i64 par0, .slice (some ⟨bk, off, none⟩) 2 kc, .slice aa an ac] 52)) w4.heap.size ⟨id0, tag0, par0, some ⟨bk, off, none⟩, 2, kc, aa, an, ac⟩ := heap_alloc_last w4 _
  have HB5 := hid_mk (HB3.out.trans ((hB4.trans (hA4.mono hB4.size)).mono HB3.out.size))
  have hT5 := HT3.out.keep (hB4.trans (hA4.mono hB4.size))
  have h5 := tree_move hT5 3 2 0 (k := 1) (fun _ => fullC) movC
  have HN4 := hid_mk hN4
  have HL4 : Hid (w.heap.size ≤ w4.heap.size) := Nat.le_trans HB3.out.size hB4.size
  clear h4 hE hB4 hA4 hc0 hc1 HT3 HB3 hT5 hN4
  go_wp2_with (go_at_call 25; fail)
  refine h5.mono ?_
  rintro x w5 ⟨b5, rfl, hT5, hB5⟩
  have hT5' : Tree w5 (.pointer (some ⟨b5, 0, none⟩)) mD 4 := hT5
  have hN5 := (hB5.block _ (Array.getElem?_eq_some_iff.1 HN4.out).1).trans HN4.out
  obtain ⟨k, hF⟩ := hT5'.full 2
  have h6 := tree_move_err hT5' 2 3 0 hF (by rw [show (0 : Int) = ((0 : Nat) : Int) from rfl, movD]; decide)
  rw [show (0 : Int) = ((0 : Nat) : Int) from rfl, movD] at h6
  have HB6 := hid_mk (HB5.out.trans (hB5.mono HB5.out.size))
  have HN5 := hid_mk hN5
  have HT5 := hid_mk hT5'
  clear h5 hB5 hT5 hT5' hN5 hF HN4 HB5
  go_wp2_with (go_at_call 25; fail)
  refine h6.mono ?_
  rintro x w6 ⟨rfl, hB6⟩
  have hT6 := HT5.out.keep hB6
  have h7 := tree_node hT6 1
  rw [mD1] at h7
  have HB7 := hid_mk (HB6.out.trans (hB6.mono HB6.out.size))
  have HN6 := hid_mk ((hB6.block _ (Array.getElem?_eq_some_iff.1 HN5.out).1).trans HN5.out)
  have HH6 := hid_mk (hT6.head cntD)
  clear h6 hT6 hB6 HT5 HB6 HN5
  go_wp2_with (go_at_call 22; fail)
  refine h7.mono ?_
  rintro x w7 ⟨t, rfl, hE7, hB7⟩
  have hkn : t.kn = 1 := hE7.kn
  have hN7 : NodeAt w7 w4.heap.size ⟨id0, tag0, par0, some ⟨bk, off, none⟩, 2, kc, aa, an, ac⟩ := (hB7.block _ (Array.getElem?_eq_some_iff.1 HN6.out).1).trans HN6.out
  have HH8 := hid_mk ((HH6.out.keep hB7).set5 hN7 t)
  have HB8 : Hid (Below w.heap.size w w7) := HB7.out.trans (hB7.mono HB7.out.size)
  obtain ⟨⟨y0, y1, y2, y3, y4⟩, x0, x1, x2, x3, x4, xl⟩ := hN7.cells
  have hlow : w.heap.size ≤ w4.heap.size := HL4.out
  have HB9 := hid_mk (Below.set5 HB8.out hlow (.int .i64 t.id) (.string t.tag) (.int .i64 t.par) (.slice t.ka t.kn t.kc) (.slice t.aa t.an t.ac))
  obtain ⟨id1, tag1, par1, ka1, kn1, kc1, aa1, an1, ac1⟩ := t
  dsimp only at hkn
  subst hkn
  dsimp only at HH8 HB9
  have HN9 := hid_mk (NodeAt.set5 hN7 ⟨id1, tag1, par1, ka1, 1, kc1, aa1, an1, ac1⟩)
  dsimp only at HN9 y0 y1 y2 y3 y4
  clear h7 hE7 hB7 HB7 HN6 HH6 hN7 HB8
  go_upto_region 12 with (fail)
  generalize ((((w7.setCell ⟨w4.heap.size, 0, none⟩ (.int .i64 id1)).setCell ⟨w4.heap.size, 1, none⟩ (.string tag1)).setCell ⟨w4.heap.size, 2, none⟩ (.int .i64 par1)).setCell ⟨w4.heap.size, 3, none⟩ (.slice ka1 1 kc1)).setCell ⟨w4.heap.size, 4, none⟩ (.slice aa1 an1 ac1) = W9 at *
  obtain ⟨⟨_, _, _, z3, _⟩, _⟩ := NodeAt.cells HN9.out
  dsimp only at z3
  have h8 := head_len HH8.out
  have h9 := head_next HH8.out
  clear y0 y1 y2 y3 y4 x0 x1 x2 x3 x4 HH8 HN9 hd0
  go_wp2_with (first
    | (go_at_call 23; refine h8.mono ?_; clear h8; rintro e wx ⟨rfl, rfl⟩)
    | (go_at_call 21; refine h9.mono ?_; clear h9; rintro e wx ⟨rfl, rfl⟩))
  go_ret
  exact ⟨rfl, HB9.out⟩

end Go.Proofs.Ytecbgleidohjpaa.N
