/- gouachelaw15.ValueColors: the walk, all of it. -/
import Derived.Test.YtfgnlgkpgihbmaaGreatDoorZCw
namespace Go.Proofs.YtfgnlgkpgihbmaaGreatDoor.Z
open Go.RowKit
open Go.Proofs.YtfgnlgkpgihbmaaGreatDoor.L (T5 V VsAt t5Cells vCells cell_of_heap hid_mk)
set_option maxRecDepth 100000

theorem val_one {P : Nat → Prop} {W : World} {v : Value} {x : V} (h : VsAt P W v [x]) : ∃ cap b off ka kc, v = .slice (some ⟨b, off, none⟩) 1 cap ∧ 1 ≤ cap ∧ cap ≤ 9223372036854775807 ∧ (W.cell? ⟨b, off, none⟩ = some (.int .i64 x.tok.k) ∧ W.cell? ⟨b, off + 1, none⟩ = some (.string x.tok.tx) ∧ W.cell? ⟨b, off + 2, none⟩ = some (.string x.tok.un)) ∧ (W.cell? ⟨b, off + 3, none⟩ = some (.bool x.tok.wh) ∧ W.cell? ⟨b, off + 4, none⟩ = some (.bool x.tok.fl) ∧ W.cell? ⟨b, off + 5, none⟩ = some (.slice ka x.kids.length kc)) := by
  obtain ⟨a, cap, rfl, h1, h2, b, off, hx⟩ := vs_cells h
  obtain ⟨rfl, _, ka, kc, _, hc⟩ := hx 0 (by simp)
  obtain ⟨⟨q0, q1, q2⟩, q3, q4, q5⟩ := hc W (Below.refl _ _)
  simp only [Nat.zero_mul, Nat.add_zero] at q0 q1 q2 q3 q4 q5
  exact ⟨cap, b, off, ka, kc, rfl, by simpa using h1, h2, ⟨q0, q1, q2⟩, q3, q4, q5⟩
set_option maxHeartbeats 8000000 in
theorem colors_walk (t : T5) (ks : List V) (ka : Option Addr) (kc : Nat) (n : Int) (h0 : 0 ≤ n) (h1 : n ≤ 18446744073709551615) {P0 : Nat → Prop} (w : World) (hk : VsAt P0 w (.slice ka ks.length kc) ks) (hz1 : t.tx.size ≤ 140737488351232) (hz2 : t.un.size ≤ 140737488351232) (hok : Ok w) :
    Calls Tryz.prog 7 #[vA t (.slice ka ks.length kc), .int .u64 n] w fun e w' => e = .returned (.bool true) ∧ Below w.heap.size w w' := by
  obtain ⟨sa, sb, sc, za, zb, zc, hA, hBb, hC, ok3, ok7, p3, p7⟩ := colors_rest n h0 h1
  have HOK : Hid (∀ w', Below w.heap.size w w' → Ok w') := fun w' hb => hok.keep hb
  have HL : Hid (∀ w', Below w.heap.size w w' → Calls Tryz.prog 9 #[] w' fun e w'' => e = .returned (.bool true) ∧ Below w.heap.size w w'') := fun w' hb => (lives_any w' (HOK.out w' hb)).mono fun e w'' h => ⟨h.1, hb.trans (h.2.mono hb.size)⟩
  have HV3 : Hid (∀ w', Below w.heap.size w w' → Calls Tryz.prog 20 #[.string (⟨#[35]⟩ ++ sa ++ sb ++ sc)] w' fun e w'' => ∃ a m c, e = .returned (.slice a m c) ∧ VsAt (fun _ => True) w'' (.slice a m c) (valsS (⟨#[35]⟩ ++ sa ++ sb ++ sc)) ∧ Below w.heap.size w w'') := fun w' hb => (vals_ok ok3 w').mono fun e w'' h => by
    obtain ⟨u, h1, h2, h3⟩ := h
    obtain ⟨a, c, hu, _, _⟩ := h2.slice
    rw [hu] at h1 h2
    exact ⟨a, _, c, h1, h2, hb.trans (h3.mono hb.size)⟩
  have HP3 : Hid (∀ w' v, Below w.heap.size w w' → VsAt (fun _ => True) w' v (valsS (⟨#[35]⟩ ++ sa ++ sb ++ sc)) → Calls Tryz.prog 10 #[.string ⟨#[99, 111, 108, 111, 114]⟩, v] w' fun e w'' => e = .returned (.tuple #[.string (⟨#[35]⟩ ++ sa ++ sa ++ sb ++ sb ++ sc ++ sc), .bool true]) ∧ Below w.heap.size w w'') := fun w' v hb hv => (parse_ok ok3 p3 hv (HOK.out w' hb)).mono fun e w'' h => ⟨h.1, hb.trans (h.2.mono hb.size)⟩
  have HV7 : Hid (∀ w', Below w.heap.size w w' → Calls Tryz.prog 20 #[.string (⟨#[35]⟩ ++ sa ++ sa ++ sb ++ sb ++ sc ++ sc)] w' fun e w'' => ∃ a m c, e = .returned (.slice a m c) ∧ VsAt (fun _ => True) w'' (.slice a m c) (valsS (⟨#[35]⟩ ++ sa ++ sa ++ sb ++ sb ++ sc ++ sc)) ∧ Below w.heap.size w w'') := fun w' hb => (vals_ok ok7 w').mono fun e w'' h => by
    obtain ⟨u, h1, h2, h3⟩ := h
    obtain ⟨a, c, hu, _, _⟩ := h2.slice
    rw [hu] at h1 h2
    exact ⟨a, _, c, h1, h2, hb.trans (h3.mono hb.size)⟩
  have HP7 : Hid (∀ w' v, Below w.heap.size w w' → VsAt (fun _ => True) w' v (valsS (⟨#[35]⟩ ++ sa ++ sa ++ sb ++ sb ++ sc ++ sc)) → Calls Tryz.prog 10 #[.string ⟨#[99, 111, 108, 111, 114]⟩, v] w' fun e w'' => e = .returned (.tuple #[.string (⟨#[35]⟩ ++ sa ++ sa ++ sb ++ sb ++ sc ++ sc), .bool true]) ∧ Below w.heap.size w w'') := fun w' v hb hv => (parse_ok ok7 p7 hv (HOK.out w' hb)).mono fun e w'' h => ⟨h.1, hb.trans (h.2.mono hb.size)⟩
  generalize valsS (⟨#[35]⟩ ++ sa ++ sb ++ sc) = v3 at *
  generalize valsS (⟨#[35]⟩ ++ sa ++ sa ++ sb ++ sb ++ sc ++ sc) = v7 at *
  have HA := hid_mk hA
  have HBb := hid_mk hBb
  have HC := hid_mk hC
  -- the box of v, then the slice of one
  have hB0 : Below w.heap.size w (w.alloc (vB t (.slice ka ks.length kc))) := (Below.refl _ w).alloc (Nat.le_refl _) _
  have hX0 := World.alloc_heap_new w (vB t (.slice ka ks.length kc))
  have hv1 := vs_single (t := t) (hk.keep hB0)
  have hB1 : Below w.heap.size w ((w.alloc (vB t (.slice ka ks.length kc))).alloc (.cells #[.int .i64 t.k, .string t.tx, .string t.un, .bool t.wh, .bool t.fl, .slice ka ks.length kc] 32)) := hB0.alloc hB0.size _
  have hX1 : ((w.alloc (vB t (.slice ka ks.length kc))).alloc (.cells #[.int .i64 t.k, .string t.tx, .string t.un, .bool t.wh, .bool t.fl, .slice ka ks.length kc] 32)).heap[w.heap.size]? = _ := (((Below.refl _ (w.alloc (vB t (.slice ka ks.length kc)))).alloc (Nat.le_refl _) (.cells #[.int .i64 t.k, .string t.tx, .string t.un, .bool t.wh, .bool t.fl, .slice ka ks.length kc] 32)).block _ (Array.getElem?_eq_some_iff.1 hX0).1).trans hX0
  have hgr := great_any hv1 (fun y hy => by simp at hy; subst hy; exact ⟨hz1, hz2⟩)
  have hq : (w.alloc (vB t (.slice ka ks.length kc))).heap.size = w.heap.size + 1 := by simp
  rw [hq] at hgr
  have HCO : Hid (∀ w', Below w.heap.size w w' → t.tx.size ≤ 1000000 → Calls Tryz.prog 16 #[vA t (.slice ka ks.length kc)] w' fun e w'' => e = .returned (res (colorO t)) ∧ Below w.heap.size w w'') := fun w' hb hs => (color_any (HOK.out w' hb).col t ka ks.length kc hs).mono fun e w'' h => ⟨h.1, hb.trans (h.2.mono hb.size)⟩
  have HCF : Hid (∀ s, colorO t = some s → ∃ ds, s = strOfNums (35 :: ds) ∧ ds.length = 6 ∧ Hx ds) := fun s => color_form
  generalize colorO t = co at *
  obtain ⟨k, tx, un, wh, fl⟩ := t
  generalize ks.length = kn at *
  clear hA hBb hC ok3 ok7 p3 p7 hok hk hv1
  show Calls Tryz.prog 7 #[.agg #[.int .i64 k, .string tx, .string un, .bool wh, .bool fl, .slice ka kn kc], .int .u64 n] w _
  have hgr : Calls Tryz.prog 8 #[.slice (some ⟨w.heap.size + 1, 0, none⟩) 1 1] ((w.alloc (.cells #[.int .i64 k, .string tx, .string un, .bool wh, .bool fl, .slice ka kn kc] 32)).alloc (.cells #[.int .i64 k, .string tx, .string un, .bool wh, .bool fl, .slice ka kn kc] 32)) _ := hgr
  have HB1 := hid_mk hB1
  have HX1 := hid_mk hX1
  clear hB0 hX0 hq hB1 hX1
  go_enter Tryz.func7, Tryz.ntmps7
  go_wp2_with (go_at_call 8; fail)
  refine hgr.mono ?_
  rintro e w2 ⟨⟨gb, rfl, hgs⟩, hb2⟩
  have HB2 : Hid (Below w.heap.size w w2) := HB1.out.trans (hb2.mono HB1.out.size)
  have hx2 : w2.heap[w.heap.size]? = some (.cells #[.int .i64 k, .string tx, .string un, .bool wh, .bool fl, .slice ka kn kc] 32 (0, 0)) := (hb2.block w.heap.size (Array.getElem?_eq_some_iff.1 HX1.out).1).trans HX1.out
  have y0 : w2.cell? ⟨w.heap.size, 0, none⟩ = some (.int .i64 k) := L.cellAt hx2 0
  have y1 : w2.cell? ⟨w.heap.size, 1, none⟩ = some (.string tx) := L.cellAt hx2 1
  have y2 : w2.cell? ⟨w.heap.size, 2, none⟩ = some (.string un) := L.cellAt hx2 2
  have y3 : w2.cell? ⟨w.heap.size, 3, none⟩ = some (.bool wh) := L.cellAt hx2 3
  have y4 : w2.cell? ⟨w.heap.size, 4, none⟩ = some (.bool fl) := L.cellAt hx2 4
  have y5 : w2.cell? ⟨w.heap.size, 5, none⟩ = some (.slice ka kn kc) := L.cellAt hx2 5
  clear hgr hb2 hx2 HB1 HX1
  have z1 : (⟨#[35]⟩ ++ sa : ByteArray).size ≤ 8 := by rw [ByteArray.size_append]; show 1 + _ ≤ 8; omega
  have z2 : (⟨#[35]⟩ ++ sa ++ sb : ByteArray).size ≤ 8 := by rw [ByteArray.size_append, ByteArray.size_append]; show 1 + _ + _ ≤ 8; omega
  have z3 : (⟨#[35]⟩ ++ sa ++ sa : ByteArray).size ≤ 8 := by rw [ByteArray.size_append, ByteArray.size_append]; show 1 + _ + _ ≤ 8; omega
  have z4 : (⟨#[35]⟩ ++ sa ++ sa ++ sb : ByteArray).size ≤ 8 := by simp only [ByteArray.size_append]; show 1 + _ + _ + _ ≤ 8; omega
  have z5 : (⟨#[35]⟩ ++ sa ++ sa ++ sb ++ sb : ByteArray).size ≤ 8 := by simp only [ByteArray.size_append]; show 1 + _ + _ + _ + _ ≤ 8; omega
  have z6 : (⟨#[35]⟩ ++ sa ++ sa ++ sb ++ sb ++ sc : ByteArray).size ≤ 8 := by simp only [ByteArray.size_append]; show 1 + _ + _ + _ + _ + _ ≤ 8; omega
  cases gb with
  | true =>
    have e9 := HL.out _ HB2.out
    clear HV3 HP3 HV7 HP7 HA HBb HC HCO HCF y0 y1 y2 y3 y4 y5
    go_wp2_with (go_at_call 9; fail)
    refine e9.mono ?_
    rintro e y8 ⟨rfl, d8⟩
    clear e9
    go_wp2
    go_ret
    exact ⟨rfl, d8⟩
  | false =>
    have hsz := hgs rfl (V.mk ⟨k, tx, un, wh, fl⟩ ks) (by simp)
    have hsz1 : tx.size + un.size ≤ 500 := hsz
    have e16 : Calls Tryz.prog 16 #[.agg #[.int .i64 k, .string tx, .string un, .bool wh, .bool fl, .slice ka kn kc]] w2 _ := HCO.out _ HB2.out (show tx.size ≤ 1000000 by omega)
    clear hgs hsz HCO
    cases co with
    | none =>
      rw [res_none] at e16
      clear HCF
      go_wp2_with (go_at_call 16; fail)
      refine e16.mono ?_
      rintro e w3 ⟨rfl, hb3⟩
      have HB3 := hid_mk hb3
      clear e16 hb3 HB2 y0 y1 y2 y3 y4 y5
      go_wp2_with (go_at_call 23; fail)
      refine (HA.out _).mono ?_
      rintro e y1 ⟨rfl, rfl⟩
      go_wp2_with (go_at_call 23; fail)
      refine (HBb.out _).mono ?_
      rintro e y2 ⟨rfl, rfl⟩
      go_wp2_with (go_at_call 23; fail)
      refine (HC.out _).mono ?_
      rintro e y3 ⟨rfl, rfl⟩
      clear HA HBb HC
      go_wp2_with (go_at_call 20; fail)
      refine (HV3.out _ HB3.out).mono ?_
      rintro e y4 ⟨a4, m4, c4, rfl, s4, d4⟩
      have e4 := HP3.out _ _ d4 s4
      clear HV3 HP3 s4
      go_wp2_with (go_at_call 10; fail)
      refine e4.mono ?_
      rintro e y5 ⟨rfl, d5⟩
      clear e4 d4
      go_wp2_with (go_at_call 20; fail)
      refine (HV7.out _ d5).mono ?_
      rintro e y6 ⟨a6, m6, c6, rfl, s6, d6⟩
      have e6 := HP7.out _ _ d6 s6
      clear HV7 HP7 s6 d5
      go_wp2_with (go_at_call 10; fail)
      refine e6.mono ?_
      rintro e y7 ⟨rfl, d7⟩
      clear e6 d6
      have e7 := HL.out _ d7
      go_wp2_with (go_at_call 9; fail)
      refine e7.mono ?_
      rintro e y8 ⟨rfl, d8⟩
      clear e7 d7
      go_wp2
      go_ret
      exact ⟨rfl, d8⟩
    | some s =>
      rw [res_some] at e16
      obtain ⟨ds, es, hl6, hx6⟩ := HCF.out s rfl
      have oks := ok_hx hx6 (by intro h; rw [h] at hl6; cases hl6) (by omega)
      have vls := vals_hx hx6 (by intro h; rw [h] at hl6; cases hl6)
      have cls := color_six hx6 hl6 (strOfNums []) false (nameB ds)
      rw [← es] at oks vls cls
      have hs7 : s.size = 7 := by rw [es, W.strOf_size, List.length_cons, hl6]
      have hs0 : ∀ h : 0 < s.size, (s[0]'h).toNat = 35 := by subst es; intro h; rfl
      have HVS : Hid (∀ w', Below w.heap.size w w' → Calls Tryz.prog 20 #[.string s] w' fun e w'' => ∃ a m c, e = .returned (.slice a m c) ∧ VsAt (fun _ => True) w'' (.slice a m c) [V.mk ⟨4, strOfNums ds, strOfNums [], false, nameB ds⟩ []] ∧ Below w.heap.size w w'') := fun w' hb => (vals_ok oks w').mono fun e w'' h => by
        obtain ⟨u, h1, h2, h3⟩ := h
        rw [vls] at h2
        obtain ⟨a, c, hu, _, _⟩ := h2.slice
        rw [hu] at h1 h2
        exact ⟨a, _, c, h1, h2, hb.trans (h3.mono hb.size)⟩
      have HCS : Hid (∀ w' ka kc, Below w.heap.size w w' → Calls Tryz.prog 16 #[.agg #[.int .i64 4, .string (strOfNums ds), .string (strOfNums []), .bool false, .bool (nameB ds), .slice ka 0 kc]] w' fun e w'' => e = .returned (.tuple #[.string s, .bool true]) ∧ Below w.heap.size w w'') := fun w' ka kc hb => (color_any (HOK.out w' hb).col ⟨4, strOfNums ds, strOfNums [], false, nameB ds⟩ ka 0 kc (by show (strOfNums ds).size ≤ 1000000; rw [W.strOf_size]; omega)).mono fun e w'' h => ⟨h.1.trans (by rw [cls]; rfl), hb.trans (h.2.mono hb.size)⟩
      clear HCF es hl6 hx6 oks vls cls
      generalize strOfNums ds = sd at *
      generalize strOfNums [] = se at *
      generalize nameB ds = nb at *
      go_wp2_with (go_at_call 16; fail)
      refine e16.mono ?_
      rintro e w3 ⟨rfl, hb3⟩
      have HB3 := hid_mk hb3
      clear e16 hb3 HB2 y0 y1 y2 y3 y4 y5
      go_wp2_with (go_at_call 20; fail)
      refine (HVS.out _ HB3.out).mono ?_
      rintro e w4 ⟨a4, m4, c4, rfl, s4, d4⟩
      obtain ⟨cap, b, off, ja, jc, ej, hc1, hc2, ⟨q0, q1, q2⟩, q3, q4, q5⟩ := val_one s4
      cases ej
      simp only [V.tok, V.kids, List.length_nil] at q0 q1 q2 q3 q4 q5
      have e17 := HCS.out w4 ja jc d4
      clear HVS HCS s4 HB3
      go_wp2_with (go_at_call 16; fail)
      refine e17.mono ?_
      rintro e w5 ⟨rfl, hb5⟩
      have HB5 := hid_mk hb5
      clear e17 hb5 q0 q1 q2 q3 q4 q5 d4
      have h35 := hs0 (by omega)
      have h7i : ((s.size : Int) != 7) = false := by rw [hs7]; rfl
      have hse : (s.toList == s.toList) = true := by simp
      go_wp2_with (go_at_call 23; fail)
      refine (HA.out _).mono ?_
      rintro e y1 ⟨rfl, rfl⟩
      go_wp2_with (go_at_call 23; fail)
      refine (HBb.out _).mono ?_
      rintro e y2 ⟨rfl, rfl⟩
      go_wp2_with (go_at_call 23; fail)
      refine (HC.out _).mono ?_
      rintro e y3 ⟨rfl, rfl⟩
      clear HA HBb HC
      go_wp2_with (go_at_call 20; fail)
      refine (HV3.out _ HB5.out).mono ?_
      rintro e y4 ⟨a4, m4, c4, rfl, s4, d4⟩
      have e4 := HP3.out _ _ d4 s4
      clear HV3 HP3 s4
      go_wp2_with (go_at_call 10; fail)
      refine e4.mono ?_
      rintro e y5 ⟨rfl, d5⟩
      clear e4 d4
      go_wp2_with (go_at_call 20; fail)
      refine (HV7.out _ d5).mono ?_
      rintro e y6 ⟨a6, m6, c6, rfl, s6, d6⟩
      have e6 := HP7.out _ _ d6 s6
      clear HV7 HP7 s6 d5
      go_wp2_with (go_at_call 10; fail)
      refine e6.mono ?_
      rintro e y7 ⟨rfl, d7⟩
      clear e6 d6
      have e7 := HL.out _ d7
      go_wp2_with (go_at_call 9; fail)
      refine e7.mono ?_
      rintro e y8 ⟨rfl, d8⟩
      clear e7 d7
      go_wp2
      go_ret
      exact ⟨rfl, d8⟩
end Go.Proofs.YtfgnlgkpgihbmaaGreatDoor.Z
