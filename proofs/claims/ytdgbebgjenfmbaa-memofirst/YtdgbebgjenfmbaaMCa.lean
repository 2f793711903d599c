/- Load of a cell that holds an entry; of a table that no call made; Cas. -/
import Derived.Test.YtdgbebgjenfmbaaMLd
namespace Go.Proofs.Ytdgbebgjenfmbaa.M
open Go.RowKit
set_option maxRecDepth 100000

theorem getC_some {L : List (Option En)} {i : Int} {x : En} (h : getC L i = some x) : ∃ j : Nat, i = (j : Int) ∧ j < L.length ∧ L[j]? = some (some x) := by
  unfold getC at h
  by_cases h0 : 0 ≤ i
  · rw [if_pos h0] at h
    refine ⟨i.toNat, by omega, ?_, ?_⟩
    · cases hq : L[i.toNat]? with
      | none => rw [hq] at h; cases h
      | some o => exact (List.getElem?_eq_some_iff.1 hq).1
    · cases hq : L[i.toNat]? with
      | none => rw [hq] at h; cases h
      | some o =>
        rw [hq] at h
        have : o = some x := h
        rw [this]
  · rw [if_neg h0] at h
    cases h
theorem load_on {P : Nat → Prop} {w : World} {t r c : Nat} {L : List (Option En)} (h : Tab P w t r c L) {i : Int} {x : En} (hi : getC L i = some x) (hln : x.l.length ≤ 8796093021952) : Calls Try.prog 19 #[.pointer (some ⟨t, 0, none⟩), .int .i64 i] w fun e w' => ∃ v, e = .returned (.tuple #[.agg #[.int .i64 x.e, .int .i64 x.d, v], .bool true]) ∧ StO w.heap.size w' v x.l ∧ Below w.heap.size w w' := by
  obtain ⟨wx, hwx⟩ : ∃ wx, wx = w.alloc (.cells #[.int .i64 0, .int .i64 0, .slice none 0 0] 31) := ⟨_, rfl⟩
  have HBX : Hid (Below w.heap.size w wx) := by rw [hwx]; exact (Below.refl _ w).alloc (Nat.le_refl _) _
  have hX : wx.heap[w.heap.size]? = some (.cells #[.int .i64 0, .int .i64 0, .slice none 0 0] 31 (0, 0)) := by rw [hwx]; exact heap_alloc_last w _
  have hT := h.below HBX.out
  have hc := cells_any hT
  have hh := has_any (w := wx) (a := some ⟨c, 0, none⟩) (n := L.length) i
  obtain ⟨j, rfl, hjl, hj⟩ := getC_some hi
  have e1 : (decide (0 ≤ (j : Int)) && decide ((j : Int) < (L.length : Int))) = true := by simp [hjl]
  rw [e1] at hh
  obtain ⟨v, hv, hV, _⟩ := hT.ring.cell hj
  have hl := loadE_any hv hV
  obtain ⟨g, rfl, hE⟩ := hV
  have hcp := copied_any hE hln
  have hsx : wx.heap.size = w.heap.size + 1 := by rw [hwx]; exact World.size_alloc _ _
  have HG : Hid (∀ w4 v4, StO wx.heap.size w4 v4 x.l → Below wx.heap.size wx w4 → ((w4.cell? ⟨w.heap.size, 0, none⟩ = some (.int .i64 0) ∧ w4.cell? ⟨w.heap.size, 1, none⟩ = some (.int .i64 0) ∧ w4.cell? ⟨w.heap.size, 2, none⟩ = some (.slice none 0 0)) ∧ w4.frozen? ⟨w.heap.size, 0, none⟩ = false ∧ w4.frozen? ⟨w.heap.size, 1, none⟩ = false ∧ w4.frozen? ⟨w.heap.size, 2, none⟩ = false) ∧
      StO w.heap.size (((w4.setCell ⟨w.heap.size, 0, none⟩ (.int .i64 x.e)).setCell ⟨w.heap.size, 1, none⟩ (.int .i64 x.d)).setCell ⟨w.heap.size, 2, none⟩ v4) v4 x.l ∧ Below w.heap.size w (((w4.setCell ⟨w.heap.size, 0, none⟩ (.int .i64 x.e)).setCell ⟨w.heap.size, 1, none⟩ (.int .i64 x.d)).setCell ⟨w.heap.size, 2, none⟩ v4)) := fun w4 v4 hs hb => by
    have hq := (hb.block w.heap.size (by omega)).trans hX
    refine ⟨box3 hq, (hs.keep fun q hq hq2 => ?_).mono (by omega), set3_below (HBX.out.trans (hb.mono (by omega))) _ _ _⟩
    rw [Below.heap_setCell _ ⟨w.heap.size, 2, none⟩ _ q (by show q ≠ w.heap.size; omega), Below.heap_setCell _ ⟨w.heap.size, 1, none⟩ _ q (by show q ≠ w.heap.size; omega), Below.heap_setCell _ ⟨w.heap.size, 0, none⟩ _ q (by show q ≠ w.heap.size; omega)]
  clear h hT hX hv hi hj e1 HBX hE hsx
  generalize L.length = n at *
  generalize x.e = xe at *
  generalize x.d = xd at *
  generalize x.l = xl at *
  go_enter Try.func19, Try.ntmps19
  go_upto_region 1 with fail
  rw [← hwx]
  clear hwx
  go_wp2_with (first
    | (go_at_call 31; refine hc.mono ?_; rintro e w' ⟨rfl, hw⟩; rw [hw]; clear hw w')
    | (go_at_call 38; refine hh.mono ?_; rintro e w' ⟨rfl, hw⟩; rw [hw]; clear hw w')
    | (go_at_call 35; refine hl.mono ?_; rintro e w' ⟨rfl, hw⟩; rw [hw]; clear hw w')
    | (go_at_call 37; refine hcp.mono ?_; rintro e w4 ⟨v4, rfl, h1, h2⟩; obtain ⟨⟨⟨q0, q1, q2⟩, f0, f1, f2⟩, h3⟩ := HG.out w4 v4 h1 h2; have H3 := hid_mk h3; obtain ⟨k0, k1, k2⟩ := set3 q0 q1 q2 (.int .i64 xe) (.int .i64 xd) v4; have K0 := hid_mk k0; have K1 := hid_mk k1; have K2 := hid_mk k2; obtain ⟨pa, pc, rfl⟩ := h1.form; clear h1 h2 h3 k0 k1 k2))
  clear hc hh hl hcp HG
  obtain ⟨W6, hW6⟩ : ∃ W6, W6 = ((w4.setCell ⟨w.heap.size, 0, none⟩ (.int .i64 xe)).setCell ⟨w.heap.size, 1, none⟩ (.int .i64 xd)).setCell ⟨w.heap.size, 2, none⟩ (.slice pa xl.length pc) := ⟨_, rfl⟩
  rw [← hW6] at H3 K0 K1 K2 ⊢
  clear hW6 q0 q1 q2 f0 f1 f2
  have k0 := K0.out
  have k1 := K1.out
  have k2 := K2.out
  exact bodyPost_ret (v := .tuple #[.agg #[.int .i64 xe, .int .i64 xd, .slice pa xl.length pc], .bool true]) (by simp [results, Try.results19, go_sem, k0, k1, k2]) rfl ⟨_, rfl, H3.out.1, H3.out.2⟩
theorem load_none {w : World} {p : Option Addr} (h : p = none ∨ ∃ t, p = some ⟨t, 0, none⟩ ∧ w.cell? ⟨t, 0, none⟩ = some (.pointer none)) (i : Int) : Calls Try.prog 19 #[.pointer p, .int .i64 i] w fun e w' => e = .returned (.tuple #[.agg #[.int .i64 0, .int .i64 0, .slice none 0 0], .bool false]) ∧ Below w.heap.size w w' := by
  obtain ⟨wx, hwx⟩ : ∃ wx, wx = w.alloc (.cells #[.int .i64 0, .int .i64 0, .slice none 0 0] 31) := ⟨_, rfl⟩
  have HBX : Hid (Below w.heap.size w wx) := by rw [hwx]; exact (Below.refl _ w).alloc (Nat.le_refl _) _
  have hX : wx.heap[w.heap.size]? = some (.cells #[.int .i64 0, .int .i64 0, .slice none 0 0] 31 (0, 0)) := by rw [hwx]; exact heap_alloc_last w _
  have hc : Calls Try.prog 31 #[.pointer p] wx fun e w' => e = .returned (.slice none 0 0) ∧ w' = wx := by
    rcases h with rfl | ⟨t, rfl, h⟩
    · exact cells_nil
    · exact cells_zero ((HBX.out.cell (p := ⟨t, 0, none⟩) (lt_of_cell h)).trans h)
  have hh := has_any (w := wx) (a := none) (n := 0) i
  have e1 : (decide (0 ≤ i) && decide (i < ((0 : Nat) : Int))) = false := by
    by_cases h0 : 0 ≤ i
    · have : ¬ i < 0 := by omega
      simp [this]
    · simp [h0]
  rw [e1] at hh
  obtain ⟨⟨q0, q1, q2⟩, f0, f1, f2⟩ := box3 hX
  obtain ⟨k0, k1, k2⟩ := set3 q0 q1 q2 (.int .i64 0) (.int .i64 0) (.slice none 0 0)
  have HF : Hid (Below w.heap.size w (((wx.setCell ⟨w.heap.size, 0, none⟩ (.int .i64 0)).setCell ⟨w.heap.size, 1, none⟩ (.int .i64 0)).setCell ⟨w.heap.size, 2, none⟩ (.slice none 0 0))) := set3_below HBX.out _ _ _
  have K0 := hid_mk k0
  have K1 := hid_mk k1
  have K2 := hid_mk k2
  clear k0 k1 k2 hX h e1 HBX
  go_enter Try.func19, Try.ntmps19
  go_upto_region 1 with fail
  rw [← hwx]
  clear hwx
  go_wp2_with (first
    | (go_at_call 31; refine hc.mono ?_; rintro e w' ⟨rfl, hw⟩; rw [hw]; clear hw w')
    | (go_at_call 38; refine hh.mono ?_; rintro e w' ⟨rfl, hw⟩; rw [hw]; clear hw w'))
  clear hc hh
  obtain ⟨W6, hW6⟩ : ∃ W6, W6 = ((wx.setCell ⟨w.heap.size, 0, none⟩ (.int .i64 0)).setCell ⟨w.heap.size, 1, none⟩ (.int .i64 0)).setCell ⟨w.heap.size, 2, none⟩ (.slice none 0 0) := ⟨_, rfl⟩
  rw [← hW6] at HF K0 K1 K2 ⊢
  clear hW6 q0 q1 q2 f0 f1 f2
  have k0 := K0.out
  have k1 := K1.out
  have k2 := K2.out
  exact bodyPost_ret (v := .tuple #[.agg #[.int .i64 0, .int .i64 0, .slice none 0 0], .bool false]) (by simp [results, Try.results19, go_sem, k0, k1, k2]) rfl ⟨rfl, HF.out⟩
theorem has_off {i : Int} {n : Nat} (h : ¬ (0 ≤ i ∧ i < (n : Int))) : (decide (0 ≤ i) && decide (i < (n : Int))) = false := by
  by_cases h0 : 0 ≤ i
  · have : ¬ i < (n : Int) := fun hh => h ⟨h0, hh⟩
    simp [this]
  · simp [h0]
/-- Cas where there is no such cell. -/
theorem cas_no {w : World} {p : Option Addr} {a : Option Addr} {n : Nat} (hc : ∀ wx, Below w.heap.size w wx → Calls Try.prog 31 #[.pointer p] wx fun e w' => e = .returned (.slice a n n) ∧ w' = wx) {i : Int} (hi : ¬ (0 ≤ i ∧ i < (n : Int))) (e d : Int) {sv : Value} (hsv : ∃ sa sn sc, sv = .slice sa sn sc) : Calls Try.prog 17 #[.pointer p, .int .i64 i, .agg #[.int .i64 e, .int .i64 d, sv]] w fun q w' => q = .returned (.bool false) ∧ Below w.heap.size w w' := by
  obtain ⟨sa, sn, sc, rfl⟩ := hsv
  obtain ⟨wx, hwx⟩ : ∃ wx, wx = w.alloc (.cells #[.int .i64 e, .int .i64 d, .slice sa sn sc] 31) := ⟨_, rfl⟩
  have HBX : Hid (Below w.heap.size w wx) := by rw [hwx]; exact (Below.refl _ w).alloc (Nat.le_refl _) _
  have hc := hc wx HBX.out
  have hh := has_any (w := wx.drew) (a := a) (n := n) i
  rw [has_off hi] at hh
  clear hi
  go_enter Try.func17, Try.ntmps17
  go_upto_region 1 with fail
  rw [← hwx]
  clear hwx
  go_wp2_with (go_at_call 31; refine hc.mono ?_; rintro e w' ⟨rfl, hw⟩; rw [hw]; clear hw w')
  clear hc
  go_upto_region 2 with fail
  first
    | (go_region_with (go_at_call 38; refine hh.mono ?_; rintro e w' ⟨rfl, hw⟩; rw [hw]; clear hw w'))
    | fail
  all_goals
    clear hh
    go_wp2
    go_ret
    exact ⟨rfl, HBX.out.drew⟩
/-- Cas of an empty cell. -/
theorem cas_free {P Q : Nat → Prop} {w : World} {t r c j : Nat} {L : List (Option En)} {x : En} (h : Tab P w t r c L) (hj : L[j]? = some none) {sv : Value} (hS : SsAt Q w sv x.l) (hln : x.l.length ≤ 8796093021952) (hP : ∀ b, w.heap.size ≤ b → P b) : Calls Try.prog 17 #[.pointer (some ⟨t, 0, none⟩), .int .i64 (j : Int), .agg #[.int .i64 x.e, .int .i64 x.d, sv]] w fun q w' => q = .returned (.bool true) ∧ Tab P w' t r c (L.set j (some x)) ∧ Kb (fun k => k ≠ c) w w' := by
  have hjl : j < L.length := (List.getElem?_eq_some_iff.1 hj).1
  obtain ⟨sa, cap, g0, o, hsv, _⟩ := id hS
  obtain ⟨wx, hwx⟩ : ∃ wx, wx = w.alloc (.cells #[.int .i64 x.e, .int .i64 x.d, sv] 31) := ⟨_, rfl⟩
  have hbx : Below w.heap.size w wx := by rw [hwx]; exact (Below.refl _ w).alloc (Nat.le_refl _) _
  have hX : wx.heap[w.heap.size]? = some (.cells #[.int .i64 x.e, .int .i64 x.d, sv] 31 (0, 0)) := by rw [hwx]; exact heap_alloc_last w _
  have hT := h.below hbx
  have hc := cells_any hT
  have hh := has_any (w := wx.drew) (a := some ⟨c, 0, none⟩) (n := L.length) (j : Int)
  have e1 : (decide (0 ≤ (j : Int)) && decide ((j : Int) < (L.length : Int))) = true := by simp [hjl]
  rw [e1] at hh
  have hTd : Tab P wx.drew t r c L := hT.below (Below.refl _ wx).drew
  have hSd : SsAt Q wx.drew sv x.l := hS.keep (Kb.of_below hbx.drew)
  have hszd : w.heap.size ≤ wx.drew.heap.size := hbx.size
  have hf := fill_free hTd.ring hj hSd hln (fun b hb => hP b (by omega))
  obtain ⟨⟨q0, q1, q2⟩, _⟩ := box3 hX
  have HG : Hid (∀ w', Ring P w' c (L.set j (some x)) → Kb (fun k => k ≠ c) wx.drew w' → Tab P w' t r c (L.set j (some x)) ∧ Kb (fun k => k ≠ c) w w') := fun w' hr hk => by
    have hlt := hTd.lt
    refine ⟨⟨h.offT, h.onR, h.ne, (hk.block t hlt.1 h.ne).trans hTd.box, ?_, by rw [List.length_set]; exact h.small, hr⟩, (Kb.of_below hbx.drew).trans hk⟩
    rw [List.length_set]
    exact (hk.block r hlt.2.1 (fun e => h.ring.off (e ▸ h.onR))).trans hTd.var
  subst hsv
  have hf' : Calls Try.prog 34 #[.pointer (some ⟨c, j, none⟩), .agg #[.int .i64 x.e, .int .i64 x.d, .slice sa x.l.length cap]] wx.drew fun q w' => q = .returned (.bool true) ∧ Tab P w' t r c (L.set j (some x)) ∧ Kb (fun k => k ≠ c) w w' := hf.mono fun e w' hh => ⟨hh.1, HG.out w' hh.2.1 hh.2.2⟩
  clear h hT hX e1 hTd hSd hszd hf HG hS hj hP hbx
  obtain ⟨TT, hTT⟩ : ∃ TT : World → Prop, TT = fun w' => Tab P w' t r c (L.set j (some x)) ∧ Kb (fun k => k ≠ c) w w' := ⟨_, rfl⟩
  have hf : Calls Try.prog 34 #[.pointer (some ⟨c, j, none⟩), .agg #[.int .i64 x.e, .int .i64 x.d, .slice sa x.l.length cap]] wx.drew fun q w' => q = .returned (.bool true) ∧ TT w' := by rw [hTT]; exact hf'
  show Calls Try.prog 17 _ w fun q w' => q = .returned (.bool true) ∧ (fun w' => Tab P w' t r c (L.set j (some x)) ∧ Kb (fun k => k ≠ c) w w') w'
  rw [← hTT]
  clear hf' hTT
  generalize L.length = n at *
  generalize x.l.length = m at *
  generalize x.e = xe at *
  generalize x.d = xd at *
  go_enter Try.func17, Try.ntmps17
  go_upto_region 1 with fail
  rw [← hwx]
  clear hwx
  go_wp2_with (go_at_call 31; refine hc.mono ?_; rintro e w' ⟨rfl, hw⟩; rw [hw]; clear hw w')
  clear hc
  go_upto_region 2 with fail
  go_region_with (first
    | (go_at_call 38; refine hh.mono ?_; rintro e w' ⟨rfl, hw⟩; rw [hw]; clear hw w')
    | (go_at_call 34; refine hf.mono ?_; rintro e w' ⟨rfl, ht⟩; replace ht := hid_mk ht))
  all_goals
    clear hh hf
    go_wp2
    go_ret
    exact ⟨rfl, ht.out⟩
/-- Cas of a cell that is not empty. -/
theorem cas_taken {P Q : Nat → Prop} {w : World} {t r c j : Nat} {L : List (Option En)} {x y : En} (h : Tab P w t r c L) (hj : L[j]? = some (some y)) {sv : Value} (hS : SsAt Q w sv x.l) : Calls Try.prog 17 #[.pointer (some ⟨t, 0, none⟩), .int .i64 (j : Int), .agg #[.int .i64 x.e, .int .i64 x.d, sv]] w fun q w' => q = .returned (.bool false) ∧ Below w.heap.size w w' := by
  have hjl : j < L.length := (List.getElem?_eq_some_iff.1 hj).1
  obtain ⟨sa, cap, g0, o, hsv, _⟩ := id hS
  obtain ⟨wx, hwx⟩ : ∃ wx, wx = w.alloc (.cells #[.int .i64 x.e, .int .i64 x.d, sv] 31) := ⟨_, rfl⟩
  have hbx : Below w.heap.size w wx := by rw [hwx]; exact (Below.refl _ w).alloc (Nat.le_refl _) _
  have hX : wx.heap[w.heap.size]? = some (.cells #[.int .i64 x.e, .int .i64 x.d, sv] 31 (0, 0)) := by rw [hwx]; exact heap_alloc_last w _
  have hT := h.below hbx
  have hc := cells_any hT
  have hh := has_any (w := wx.drew) (a := some ⟨c, 0, none⟩) (n := L.length) (j : Int)
  have e1 : (decide (0 ≤ (j : Int)) && decide ((j : Int) < (L.length : Int))) = true := by simp [hjl]
  rw [e1] at hh
  have hTd : Tab P wx.drew t r c L := hT.below (Below.refl _ wx).drew
  have hSd : SsAt Q wx.drew sv x.l := hS.keep (Kb.of_below hbx.drew)
  have hf := fill_taken hTd.ring hj hSd
  obtain ⟨⟨q0, q1, q2⟩, _⟩ := box3 hX
  have HG : Hid (∀ w', Below wx.drew.heap.size wx.drew w' → Below w.heap.size w w') := fun w' hb => hbx.drew.trans (hb.mono hbx.size)
  subst hsv
  clear h hT hX e1 hTd hSd hS hj hbx
  generalize L.length = n at *
  generalize x.l.length = m at *
  generalize x.e = xe at *
  generalize x.d = xd at *
  go_enter Try.func17, Try.ntmps17
  go_upto_region 1 with fail
  rw [← hwx]
  clear hwx
  go_wp2_with (go_at_call 31; refine hc.mono ?_; rintro e w' ⟨rfl, hw⟩; rw [hw]; clear hw w')
  clear hc
  go_upto_region 2 with fail
  go_region_with (first
    | (go_at_call 38; refine hh.mono ?_; rintro e w' ⟨rfl, hw⟩; rw [hw]; clear hw w')
    | (go_at_call 34; refine hf.mono ?_; rintro e w' ⟨rfl, ht⟩; replace ht := hid_mk ht))
  all_goals
    have HF := hid_mk (HG.out _ ht.out)
    clear hh hf ht
    go_wp2
    go_ret
    exact ⟨rfl, HF.out⟩
end Go.Proofs.Ytdgbebgjenfmbaa.M
