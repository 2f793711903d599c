/- gouacheref15.Part. -/
import Derived.Test.YtfgnlgkpgihbmaaGreatDoorZRc
namespace Go.Proofs.YtfgnlgkpgihbmaaGreatDoor.Z
open Go.RowKit
open Go.Proofs.YtfgnlgkpgihbmaaGreatDoor.L (T5 V VsAt t5Cells vCells cell_of_heap hid_mk)
set_option maxRecDepth 100000

theorem bm (a : Bool) : a = true ∨ a = false := by cases a <;> simp
set_option maxHeartbeats 4000000 in
theorem rpart_len_false (form : ByteArray) (b0 : (form.toList == [60, 108, 101, 110, 62]) = true) (bx : (form.toList == [60, 108, 101, 110, 43, 62]) = false) (t : T5) (ka : Option Addr) (kc : Nat) (hz : t.tx.size ≤ 100000) (hu : t.un.size ≤ 1000000) (w : World) :
    Calls Tryz.prog 15 #[.string form, vA t (.slice ka 0 kc)] w fun e w' => e = .returned (res (wholeO .len false t)) ∧ Below w.heap.size w w' := by
  obtain ⟨k, tx, un, wh, fl⟩ := t
  have hB1 : Below w.heap.size w (w.alloc (.cells #[.int .i64 k, .string tx, .string un, .bool wh, .bool fl, .slice ka 0 kc] 32)) := (Below.refl _ w).alloc (Nat.le_refl _) _
  have hB2 : Below w.heap.size w ((w.alloc (.cells #[.int .i64 k, .string tx, .string un, .bool wh, .bool fl, .slice ka 0 kc] 32)).alloc (.cells #[.int .i64 k, .string tx, .string un, .bool wh, .bool fl] 30)) := hB1.alloc hB1.size _
  have hX0 := World.alloc_heap_new w (.cells #[.int .i64 k, .string tx, .string un, .bool wh, .bool fl, .slice ka 0 kc] 32)
  have hX1 : ((w.alloc (.cells #[.int .i64 k, .string tx, .string un, .bool wh, .bool fl, .slice ka 0 kc] 32)).alloc (.cells #[.int .i64 k, .string tx, .string un, .bool wh, .bool fl] 30)).heap[w.heap.size]? = _ := (((Below.refl _ (w.alloc (.cells #[.int .i64 k, .string tx, .string un, .bool wh, .bool fl, .slice ka 0 kc] 32))).alloc (Nat.le_refl _) (.cells #[.int .i64 k, .string tx, .string un, .bool wh, .bool fl] 30)).block _ (Array.getElem?_eq_some_iff.1 hX0).1).trans hX0
  have hX2 := World.alloc_heap_new (w.alloc (.cells #[.int .i64 k, .string tx, .string un, .bool wh, .bool fl, .slice ka 0 kc] 32)) (.cells #[.int .i64 k, .string tx, .string un, .bool wh, .bool fl] 30)
  have hq : (w.alloc (.cells #[.int .i64 k, .string tx, .string un, .bool wh, .bool fl, .slice ka 0 kc] 32)).heap.size = w.heap.size + 1 := by simp
  rw [hq] at hX2
  have hI : Calls Tryz.prog 35 #[.agg #[.int .i64 k, .string tx, .string un, .bool wh, .bool fl]] ((w.alloc (.cells #[.int .i64 k, .string tx, .string un, .bool wh, .bool fl, .slice ka 0 kc] 32)).alloc (.cells #[.int .i64 k, .string tx, .string un, .bool wh, .bool fl] 30)) _ := rint_any ⟨k, tx, un, wh, fl⟩ hz ((w.alloc (.cells #[.int .i64 k, .string tx, .string un, .bool wh, .bool fl, .slice ka 0 kc] 32)).alloc (.cells #[.int .i64 k, .string tx, .string un, .bool wh, .bool fl] 30))
  have HXC : Hid (∀ w', Below ((w.alloc (.cells #[.int .i64 k, .string tx, .string un, .bool wh, .bool fl, .slice ka 0 kc] 32)).alloc (.cells #[.int .i64 k, .string tx, .string un, .bool wh, .bool fl] 30)).heap.size ((w.alloc (.cells #[.int .i64 k, .string tx, .string un, .bool wh, .bool fl, .slice ka 0 kc] 32)).alloc (.cells #[.int .i64 k, .string tx, .string un, .bool wh, .bool fl] 30)) w' → (w'.cell? ⟨w.heap.size + 1, 0, none⟩ = some (.int .i64 k) ∧ w'.cell? ⟨w.heap.size + 1, 2, none⟩ = some (.string un)) ∧ w'.cell? ⟨w.heap.size, 0, none⟩ = some (.int .i64 k) ∧ w'.cell? ⟨w.heap.size, 1, none⟩ = some (.string tx) ∧ w'.cell? ⟨w.heap.size, 2, none⟩ = some (.string un) ∧ w'.cell? ⟨w.heap.size, 3, none⟩ = some (.bool wh) ∧ w'.cell? ⟨w.heap.size, 4, none⟩ = some (.bool fl) ∧ w'.cell? ⟨w.heap.size, 5, none⟩ = some (.slice ka 0 kc)) := fun w' hb => by
    have g1 := (hb.block _ (Array.getElem?_eq_some_iff.1 hX1).1).trans hX1
    have g2 := (hb.block _ (Array.getElem?_eq_some_iff.1 hX2).1).trans hX2
    exact ⟨⟨L.cellAt g2 0, L.cellAt g2 2⟩, L.cellAt g1 0, L.cellAt g1 1, L.cellAt g1 2, L.cellAt g1 3, L.cellAt g1 4, L.cellAt g1 5⟩
  have HFIN : Hid (∀ w', Below ((w.alloc (.cells #[.int .i64 k, .string tx, .string un, .bool wh, .bool fl, .slice ka 0 kc] 32)).alloc (.cells #[.int .i64 k, .string tx, .string un, .bool wh, .bool fl] 30)).heap.size ((w.alloc (.cells #[.int .i64 k, .string tx, .string un, .bool wh, .bool fl, .slice ka 0 kc] 32)).alloc (.cells #[.int .i64 k, .string tx, .string un, .bool wh, .bool fl] 30)) w' → Below w.heap.size w w') := fun w' hb => hB2.trans (hb.mono hB2.size)
  have hbd := intP_bd ⟨k, tx, un, wh, fl⟩
  have hit := W.it_size (intP ⟨k, tx, un, wh, fl⟩).1
  have HDG : Hid (∀ w, Calls Tryz.prog 36 #[.int .i64 (intP ⟨k, tx, un, wh, fl⟩).1] w fun e w' => e = .returned (.string (W.itS (intP ⟨k, tx, un, wh, fl⟩).1)) ∧ w' = w) := fun w => rdig_any _ (by omega) (by omega) w
  have HFU : Hid (∀ w', Calls Tryz.prog 37 #[.string un] w' fun e w'' => e = .returned (.string (foldS un)) ∧ Below w'.heap.size w' w'') := fun w' => refFold_any un w' (Nat.le_trans hu (by decide))
  have HKP : Hid (∀ w3 w4, Below w.heap.size w w3 → w3.cell? ⟨w.heap.size + 1, 0, none⟩ = some (.int .i64 k) → Below w3.heap.size w3 w4 → Below w.heap.size w w4 ∧ w4.cell? ⟨w.heap.size + 1, 0, none⟩ = some (.int .i64 k)) := fun w3 w4 h1 h2 h3 => ⟨h1.trans (h3.mono h1.size), (h3.cell (p := ⟨w.heap.size + 1, 0, none⟩) (P.lt_of_cell h2)).trans h2⟩
  have HR0 : wholeO .len false ⟨k, tx, un, wh, fl⟩ = if (intP ⟨k, tx, un, wh, fl⟩).2 = false ∨ Fits.ok .len ⟨k, tx, un, wh, fl⟩ (intP ⟨k, tx, un, wh, fl⟩).1 = false ∨ (false = true ∧ (intP ⟨k, tx, un, wh, fl⟩).1 < 0) then none else some (W.itS (intP ⟨k, tx, un, wh, fl⟩).1 ++ pxS) := rfl
  generalize wholeO .len false ⟨k, tx, un, wh, fl⟩ = R at *
  have hfit : ∀ n, Fits.ok .len ⟨k, tx, un, wh, fl⟩ n = ((k == 12 && (foldS un).toList == [112, 120]) || (k == 10 && n == 0)) := fun n => rfl
  rw [hfit] at HR0
  generalize intP ⟨k, tx, un, wh, fl⟩ = np at *
  obtain ⟨n, ok⟩ := np
  simp only at hI HDG hbd hit HR0
  generalize W.itS n = its at *
  generalize foldS un = f at *
  have HR1 : R = if ok = false ∨ ((k == 12 && f.toList == [112, 120]) || (k == 10 && n == 0)) = false ∨ (false = true ∧ decide (n < 0) = true) then none else some (its ++ ⟨#[112, 120]⟩) := by
    rw [HR0]; simp only [decide_eq_true_eq]; rfl
  have HR := hid_mk HR1
  obtain ⟨hn0, hn1⟩ := hbd
  have hsum : ¬ (9223372036854775807 < its.size + (⟨#[112, 120]⟩ : ByteArray).size) := by
    have : (⟨#[112, 120]⟩ : ByteArray).size ≤ 2 := by decide
    omega
  clear hX0 hX1 hX2 hq hB1 hB2 hfit HR0 HR1 hz hu
  show Calls Tryz.prog 15 #[.string form, .agg #[.int .i64 k, .string tx, .string un, .bool wh, .bool fl, .slice ka 0 kc]] w _
  cases ok with
  | false =>
    have HN : Hid (R = none) := by show _ = _; rw [HR.out]; simp [true_or]
    clear HR
    go_enter Tryz.func15, Tryz.ntmps15
    go_wp2_with (go_at_call 35; fail)
    refine hI.mono ?_
    rintro e w3 ⟨rfl, hb3⟩
    have hend := HFIN.out _ hb3
    obtain ⟨⟨c0, c2⟩, v0, v1, v2, v3, v4, v5⟩ := HXC.out w3 hb3
    clear hI HXC hb3
    go_wp2_with (go_at_call 36; fail)
    refine (HDG.out _).mono ?_
    rintro e w' ⟨rfl, rfl⟩
    clear HDG
    go_wp2
    go_ret2
    exact ⟨by rw [HN.out]; rfl, hend⟩
  | true =>
    cases h12 : (k == 12) with
    | true =>
      have h10 : (k == 10) = false := by have := beq_iff_eq.1 h12; subst this; rfl
      cases hpx : (f.toList == [112, 120]) with
      | true =>
        cases hng : decide (n < 0) with
        | true =>
          have HN : Hid (R = some (its ++ ⟨#[112, 120]⟩)) := by show _ = _; rw [HR.out]; simp [h12, hpx, h10, hng]
          clear HR
          go_enter Tryz.func15, Tryz.ntmps15
          go_wp2_with (go_at_call 35; fail)
          refine hI.mono ?_
          rintro e w3 ⟨rfl, hb3⟩
          have hend := HFIN.out _ hb3
          obtain ⟨⟨c0, c2⟩, v0, v1, v2, v3, v4, v5⟩ := HXC.out w3 hb3
          clear hI HXC hb3
          go_wp2_with (go_at_call 36; fail)
          refine (HDG.out _).mono ?_
          rintro e w' ⟨rfl, rfl⟩
          clear HDG
          have hfu := HFU.out w'
          go_wp2_with (go_at_call 37; fail)
          refine hfu.mono ?_
          rintro e w4 ⟨rfl, hb4⟩
          obtain ⟨hend, c0⟩ := HKP.out w' w4 hend c0 hb4
          clear hfu hb4 c2 v0 v1 v2 v3 v4 v5
          go_wp2
          go_ret2
          exact ⟨by rw [HN.out]; rfl, hend⟩
        | false =>
          have HN : Hid (R = some (its ++ ⟨#[112, 120]⟩)) := by show _ = _; rw [HR.out]; simp [h12, hpx, h10, hng]
          clear HR
          go_enter Tryz.func15, Tryz.ntmps15
          go_wp2_with (go_at_call 35; fail)
          refine hI.mono ?_
          rintro e w3 ⟨rfl, hb3⟩
          have hend := HFIN.out _ hb3
          obtain ⟨⟨c0, c2⟩, v0, v1, v2, v3, v4, v5⟩ := HXC.out w3 hb3
          clear hI HXC hb3
          go_wp2_with (go_at_call 36; fail)
          refine (HDG.out _).mono ?_
          rintro e w' ⟨rfl, rfl⟩
          clear HDG
          have hfu := HFU.out w'
          go_wp2_with (go_at_call 37; fail)
          refine hfu.mono ?_
          rintro e w4 ⟨rfl, hb4⟩
          obtain ⟨hend, c0⟩ := HKP.out w' w4 hend c0 hb4
          clear hfu hb4 c2 v0 v1 v2 v3 v4 v5
          go_wp2
          go_ret2
          exact ⟨by rw [HN.out]; rfl, hend⟩
      | false =>
        have HN : Hid (R = none) := by show _ = _; rw [HR.out]; simp [h12, hpx, h10]
        clear HR
        go_enter Tryz.func15, Tryz.ntmps15
        go_wp2_with (go_at_call 35; fail)
        refine hI.mono ?_
        rintro e w3 ⟨rfl, hb3⟩
        have hend := HFIN.out _ hb3
        obtain ⟨⟨c0, c2⟩, v0, v1, v2, v3, v4, v5⟩ := HXC.out w3 hb3
        clear hI HXC hb3
        go_wp2_with (go_at_call 36; fail)
        refine (HDG.out _).mono ?_
        rintro e w' ⟨rfl, rfl⟩
        clear HDG
        have hfu := HFU.out w'
        go_wp2_with (go_at_call 37; fail)
        refine hfu.mono ?_
        rintro e w4 ⟨rfl, hb4⟩
        obtain ⟨hend, c0⟩ := HKP.out w' w4 hend c0 hb4
        clear hfu hb4 c2 v0 v1 v2 v3 v4 v5
        go_wp2
        go_ret2
        exact ⟨by rw [HN.out]; rfl, hend⟩
    | false =>
      cases h10 : (k == 10) with
      | true =>
        cases hz0 : (n == 0) with
        | true =>
          have hng : decide (n < 0) = false := by have := beq_iff_eq.1 hz0; subst this; rfl
          have HN : Hid (R = some (its ++ ⟨#[112, 120]⟩)) := by show _ = _; rw [HR.out]; simp [h12, h10, hz0, hng]
          clear HR
          go_enter Tryz.func15, Tryz.ntmps15
          go_wp2_with (go_at_call 35; fail)
          refine hI.mono ?_
          rintro e w3 ⟨rfl, hb3⟩
          have hend := HFIN.out _ hb3
          obtain ⟨⟨c0, c2⟩, v0, v1, v2, v3, v4, v5⟩ := HXC.out w3 hb3
          clear hI HXC hb3
          go_wp2_with (go_at_call 36; fail)
          refine (HDG.out _).mono ?_
          rintro e w' ⟨rfl, rfl⟩
          clear HDG
          go_wp2
          go_ret2
          exact ⟨by rw [HN.out]; rfl, hend⟩
        | false =>
          have HN : Hid (R = none) := by show _ = _; rw [HR.out]; simp [h12, h10, hz0]
          clear HR
          go_enter Tryz.func15, Tryz.ntmps15
          go_wp2_with (go_at_call 35; fail)
          refine hI.mono ?_
          rintro e w3 ⟨rfl, hb3⟩
          have hend := HFIN.out _ hb3
          obtain ⟨⟨c0, c2⟩, v0, v1, v2, v3, v4, v5⟩ := HXC.out w3 hb3
          clear hI HXC hb3
          go_wp2_with (go_at_call 36; fail)
          refine (HDG.out _).mono ?_
          rintro e w' ⟨rfl, rfl⟩
          clear HDG
          go_wp2
          go_ret2
          exact ⟨by rw [HN.out]; rfl, hend⟩
      | false =>
        have HN : Hid (R = none) := by show _ = _; rw [HR.out]; simp [h12, h10]
        clear HR
        go_enter Tryz.func15, Tryz.ntmps15
        go_wp2_with (go_at_call 35; fail)
        refine hI.mono ?_
        rintro e w3 ⟨rfl, hb3⟩
        have hend := HFIN.out _ hb3
        obtain ⟨⟨c0, c2⟩, v0, v1, v2, v3, v4, v5⟩ := HXC.out w3 hb3
        clear hI HXC hb3
        go_wp2_with (go_at_call 36; fail)
        refine (HDG.out _).mono ?_
        rintro e w' ⟨rfl, rfl⟩
        clear HDG
        go_wp2
        go_ret2
        exact ⟨by rw [HN.out]; rfl, hend⟩
set_option maxHeartbeats 4000000 in
theorem rpart_len_true (form : ByteArray) (b0 : (form.toList == [60, 108, 101, 110, 62]) = false) (b1 : (form.toList == [60, 108, 101, 110, 43, 62]) = true) (t : T5) (ka : Option Addr) (kc : Nat) (hz : t.tx.size ≤ 100000) (hu : t.un.size ≤ 1000000) (w : World) :
    Calls Tryz.prog 15 #[.string form, vA t (.slice ka 0 kc)] w fun e w' => e = .returned (res (wholeO .len true t)) ∧ Below w.heap.size w w' := by
  obtain ⟨k, tx, un, wh, fl⟩ := t
  have hB1 : Below w.heap.size w (w.alloc (.cells #[.int .i64 k, .string tx, .string un, .bool wh, .bool fl, .slice ka 0 kc] 32)) := (Below.refl _ w).alloc (Nat.le_refl _) _
  have hB2 : Below w.heap.size w ((w.alloc (.cells #[.int .i64 k, .string tx, .string un, .bool wh, .bool fl, .slice ka 0 kc] 32)).alloc (.cells #[.int .i64 k, .string tx, .string un, .bool wh, .bool fl] 30)) := hB1.alloc hB1.size _
  have hX0 := World.alloc_heap_new w (.cells #[.int .i64 k, .string tx, .string un, .bool wh, .bool fl, .slice ka 0 kc] 32)
  have hX1 : ((w.alloc (.cells #[.int .i64 k, .string tx, .string un, .bool wh, .bool fl, .slice ka 0 kc] 32)).alloc (.cells #[.int .i64 k, .string tx, .string un, .bool wh, .bool fl] 30)).heap[w.heap.size]? = _ := (((Below.refl _ (w.alloc (.cells #[.int .i64 k, .string tx, .string un, .bool wh, .bool fl, .slice ka 0 kc] 32))).alloc (Nat.le_refl _) (.cells #[.int .i64 k, .string tx, .string un, .bool wh, .bool fl] 30)).block _ (Array.getElem?_eq_some_iff.1 hX0).1).trans hX0
  have hX2 := World.alloc_heap_new (w.alloc (.cells #[.int .i64 k, .string tx, .string un, .bool wh, .bool fl, .slice ka 0 kc] 32)) (.cells #[.int .i64 k, .string tx, .string un, .bool wh, .bool fl] 30)
  have hq : (w.alloc (.cells #[.int .i64 k, .string tx, .string un, .bool wh, .bool fl, .slice ka 0 kc] 32)).heap.size = w.heap.size + 1 := by simp
  rw [hq] at hX2
  have hI : Calls Tryz.prog 35 #[.agg #[.int .i64 k, .string tx, .string un, .bool wh, .bool fl]] ((w.alloc (.cells #[.int .i64 k, .string tx, .string un, .bool wh, .bool fl, .slice ka 0 kc] 32)).alloc (.cells #[.int .i64 k, .string tx, .string un, .bool wh, .bool fl] 30)) _ := rint_any ⟨k, tx, un, wh, fl⟩ hz ((w.alloc (.cells #[.int .i64 k, .string tx, .string un, .bool wh, .bool fl, .slice ka 0 kc] 32)).alloc (.cells #[.int .i64 k, .string tx, .string un, .bool wh, .bool fl] 30))
  have HXC : Hid (∀ w', Below ((w.alloc (.cells #[.int .i64 k, .string tx, .string un, .bool wh, .bool fl, .slice ka 0 kc] 32)).alloc (.cells #[.int .i64 k, .string tx, .string un, .bool wh, .bool fl] 30)).heap.size ((w.alloc (.cells #[.int .i64 k, .string tx, .string un, .bool wh, .bool fl, .slice ka 0 kc] 32)).alloc (.cells #[.int .i64 k, .string tx, .string un, .bool wh, .bool fl] 30)) w' → (w'.cell? ⟨w.heap.size + 1, 0, none⟩ = some (.int .i64 k) ∧ w'.cell? ⟨w.heap.size + 1, 2, none⟩ = some (.string un)) ∧ w'.cell? ⟨w.heap.size, 0, none⟩ = some (.int .i64 k) ∧ w'.cell? ⟨w.heap.size, 1, none⟩ = some (.string tx) ∧ w'.cell? ⟨w.heap.size, 2, none⟩ = some (.string un) ∧ w'.cell? ⟨w.heap.size, 3, none⟩ = some (.bool wh) ∧ w'.cell? ⟨w.heap.size, 4, none⟩ = some (.bool fl) ∧ w'.cell? ⟨w.heap.size, 5, none⟩ = some (.slice ka 0 kc)) := fun w' hb => by
    have g1 := (hb.block _ (Array.getElem?_eq_some_iff.1 hX1).1).trans hX1
    have g2 := (hb.block _ (Array.getElem?_eq_some_iff.1 hX2).1).trans hX2
    exact ⟨⟨L.cellAt g2 0, L.cellAt g2 2⟩, L.cellAt g1 0, L.cellAt g1 1, L.cellAt g1 2, L.cellAt g1 3, L.cellAt g1 4, L.cellAt g1 5⟩
  have HFIN : Hid (∀ w', Below ((w.alloc (.cells #[.int .i64 k, .string tx, .string un, .bool wh, .bool fl, .slice ka 0 kc] 32)).alloc (.cells #[.int .i64 k, .string tx, .string un, .bool wh, .bool fl] 30)).heap.size ((w.alloc (.cells #[.int .i64 k, .string tx, .string un, .bool wh, .bool fl, .slice ka 0 kc] 32)).alloc (.cells #[.int .i64 k, .string tx, .string un, .bool wh, .bool fl] 30)) w' → Below w.heap.size w w') := fun w' hb => hB2.trans (hb.mono hB2.size)
  have hbd := intP_bd ⟨k, tx, un, wh, fl⟩
  have hit := W.it_size (intP ⟨k, tx, un, wh, fl⟩).1
  have HDG : Hid (∀ w, Calls Tryz.prog 36 #[.int .i64 (intP ⟨k, tx, un, wh, fl⟩).1] w fun e w' => e = .returned (.string (W.itS (intP ⟨k, tx, un, wh, fl⟩).1)) ∧ w' = w) := fun w => rdig_any _ (by omega) (by omega) w
  have HFU : Hid (∀ w', Calls Tryz.prog 37 #[.string un] w' fun e w'' => e = .returned (.string (foldS un)) ∧ Below w'.heap.size w' w'') := fun w' => refFold_any un w' (Nat.le_trans hu (by decide))
  have HKP : Hid (∀ w3 w4, Below w.heap.size w w3 → w3.cell? ⟨w.heap.size + 1, 0, none⟩ = some (.int .i64 k) → Below w3.heap.size w3 w4 → Below w.heap.size w w4 ∧ w4.cell? ⟨w.heap.size + 1, 0, none⟩ = some (.int .i64 k)) := fun w3 w4 h1 h2 h3 => ⟨h1.trans (h3.mono h1.size), (h3.cell (p := ⟨w.heap.size + 1, 0, none⟩) (P.lt_of_cell h2)).trans h2⟩
  have HR0 : wholeO .len true ⟨k, tx, un, wh, fl⟩ = if (intP ⟨k, tx, un, wh, fl⟩).2 = false ∨ Fits.ok .len ⟨k, tx, un, wh, fl⟩ (intP ⟨k, tx, un, wh, fl⟩).1 = false ∨ (true = true ∧ (intP ⟨k, tx, un, wh, fl⟩).1 < 0) then none else some (W.itS (intP ⟨k, tx, un, wh, fl⟩).1 ++ pxS) := rfl
  generalize wholeO .len true ⟨k, tx, un, wh, fl⟩ = R at *
  have hfit : ∀ n, Fits.ok .len ⟨k, tx, un, wh, fl⟩ n = ((k == 12 && (foldS un).toList == [112, 120]) || (k == 10 && n == 0)) := fun n => rfl
  rw [hfit] at HR0
  generalize intP ⟨k, tx, un, wh, fl⟩ = np at *
  obtain ⟨n, ok⟩ := np
  simp only at hI HDG hbd hit HR0
  generalize W.itS n = its at *
  generalize foldS un = f at *
  have HR1 : R = if ok = false ∨ ((k == 12 && f.toList == [112, 120]) || (k == 10 && n == 0)) = false ∨ (true = true ∧ decide (n < 0) = true) then none else some (its ++ ⟨#[112, 120]⟩) := by
    rw [HR0]; simp only [decide_eq_true_eq]; rfl
  have HR := hid_mk HR1
  obtain ⟨hn0, hn1⟩ := hbd
  have hsum : ¬ (9223372036854775807 < its.size + (⟨#[112, 120]⟩ : ByteArray).size) := by
    have : (⟨#[112, 120]⟩ : ByteArray).size ≤ 2 := by decide
    omega
  clear hX0 hX1 hX2 hq hB1 hB2 hfit HR0 HR1 hz hu
  show Calls Tryz.prog 15 #[.string form, .agg #[.int .i64 k, .string tx, .string un, .bool wh, .bool fl, .slice ka 0 kc]] w _
  cases ok with
  | false =>
    have HN : Hid (R = none) := by show _ = _; rw [HR.out]; simp [true_or]
    clear HR
    go_enter Tryz.func15, Tryz.ntmps15
    go_wp2_with (go_at_call 35; fail)
    refine hI.mono ?_
    rintro e w3 ⟨rfl, hb3⟩
    have hend := HFIN.out _ hb3
    obtain ⟨⟨c0, c2⟩, v0, v1, v2, v3, v4, v5⟩ := HXC.out w3 hb3
    clear hI HXC hb3
    go_wp2_with (go_at_call 36; fail)
    refine (HDG.out _).mono ?_
    rintro e w' ⟨rfl, rfl⟩
    clear HDG
    go_wp2
    go_ret2
    exact ⟨by rw [HN.out]; rfl, hend⟩
  | true =>
    cases h12 : (k == 12) with
    | true =>
      have h10 : (k == 10) = false := by have := beq_iff_eq.1 h12; subst this; rfl
      cases hpx : (f.toList == [112, 120]) with
      | true =>
        cases hng : decide (n < 0) with
        | true =>
          have HN : Hid (R = none) := by show _ = _; rw [HR.out]; simp [h12, hpx, h10, hng]
          clear HR
          go_enter Tryz.func15, Tryz.ntmps15
          go_wp2_with (go_at_call 35; fail)
          refine hI.mono ?_
          rintro e w3 ⟨rfl, hb3⟩
          have hend := HFIN.out _ hb3
          obtain ⟨⟨c0, c2⟩, v0, v1, v2, v3, v4, v5⟩ := HXC.out w3 hb3
          clear hI HXC hb3
          go_wp2_with (go_at_call 36; fail)
          refine (HDG.out _).mono ?_
          rintro e w' ⟨rfl, rfl⟩
          clear HDG
          have hfu := HFU.out w'
          go_wp2_with (go_at_call 37; fail)
          refine hfu.mono ?_
          rintro e w4 ⟨rfl, hb4⟩
          obtain ⟨hend, c0⟩ := HKP.out w' w4 hend c0 hb4
          clear hfu hb4 c2 v0 v1 v2 v3 v4 v5
          go_wp2
          go_ret2
          exact ⟨by rw [HN.out]; rfl, hend⟩
        | false =>
          have HN : Hid (R = some (its ++ ⟨#[112, 120]⟩)) := by show _ = _; rw [HR.out]; simp [h12, hpx, h10, hng]
          clear HR
          go_enter Tryz.func15, Tryz.ntmps15
          go_wp2_with (go_at_call 35; fail)
          refine hI.mono ?_
          rintro e w3 ⟨rfl, hb3⟩
          have hend := HFIN.out _ hb3
          obtain ⟨⟨c0, c2⟩, v0, v1, v2, v3, v4, v5⟩ := HXC.out w3 hb3
          clear hI HXC hb3
          go_wp2_with (go_at_call 36; fail)
          refine (HDG.out _).mono ?_
          rintro e w' ⟨rfl, rfl⟩
          clear HDG
          have hfu := HFU.out w'
          go_wp2_with (go_at_call 37; fail)
          refine hfu.mono ?_
          rintro e w4 ⟨rfl, hb4⟩
          obtain ⟨hend, c0⟩ := HKP.out w' w4 hend c0 hb4
          clear hfu hb4 c2 v0 v1 v2 v3 v4 v5
          go_wp2
          go_ret2
          exact ⟨by rw [HN.out]; rfl, hend⟩
      | false =>
        have HN : Hid (R = none) := by show _ = _; rw [HR.out]; simp [h12, hpx, h10]
        clear HR
        go_enter Tryz.func15, Tryz.ntmps15
        go_wp2_with (go_at_call 35; fail)
        refine hI.mono ?_
        rintro e w3 ⟨rfl, hb3⟩
        have hend := HFIN.out _ hb3
        obtain ⟨⟨c0, c2⟩, v0, v1, v2, v3, v4, v5⟩ := HXC.out w3 hb3
        clear hI HXC hb3
        go_wp2_with (go_at_call 36; fail)
        refine (HDG.out _).mono ?_
        rintro e w' ⟨rfl, rfl⟩
        clear HDG
        have hfu := HFU.out w'
        go_wp2_with (go_at_call 37; fail)
        refine hfu.mono ?_
        rintro e w4 ⟨rfl, hb4⟩
        obtain ⟨hend, c0⟩ := HKP.out w' w4 hend c0 hb4
        clear hfu hb4 c2 v0 v1 v2 v3 v4 v5
        go_wp2
        go_ret2
        exact ⟨by rw [HN.out]; rfl, hend⟩
    | false =>
      cases h10 : (k == 10) with
      | true =>
        cases hz0 : (n == 0) with
        | true =>
          have hng : decide (n < 0) = false := by have := beq_iff_eq.1 hz0; subst this; rfl
          have HN : Hid (R = some (its ++ ⟨#[112, 120]⟩)) := by show _ = _; rw [HR.out]; simp [h12, h10, hz0, hng]
          clear HR
          go_enter Tryz.func15, Tryz.ntmps15
          go_wp2_with (go_at_call 35; fail)
          refine hI.mono ?_
          rintro e w3 ⟨rfl, hb3⟩
          have hend := HFIN.out _ hb3
          obtain ⟨⟨c0, c2⟩, v0, v1, v2, v3, v4, v5⟩ := HXC.out w3 hb3
          clear hI HXC hb3
          go_wp2_with (go_at_call 36; fail)
          refine (HDG.out _).mono ?_
          rintro e w' ⟨rfl, rfl⟩
          clear HDG
          go_wp2
          go_ret2
          exact ⟨by rw [HN.out]; rfl, hend⟩
        | false =>
          have HN : Hid (R = none) := by show _ = _; rw [HR.out]; simp [h12, h10, hz0]
          clear HR
          go_enter Tryz.func15, Tryz.ntmps15
          go_wp2_with (go_at_call 35; fail)
          refine hI.mono ?_
          rintro e w3 ⟨rfl, hb3⟩
          have hend := HFIN.out _ hb3
          obtain ⟨⟨c0, c2⟩, v0, v1, v2, v3, v4, v5⟩ := HXC.out w3 hb3
          clear hI HXC hb3
          go_wp2_with (go_at_call 36; fail)
          refine (HDG.out _).mono ?_
          rintro e w' ⟨rfl, rfl⟩
          clear HDG
          go_wp2
          go_ret2
          exact ⟨by rw [HN.out]; rfl, hend⟩
      | false =>
        have HN : Hid (R = none) := by show _ = _; rw [HR.out]; simp [h12, h10]
        clear HR
        go_enter Tryz.func15, Tryz.ntmps15
        go_wp2_with (go_at_call 35; fail)
        refine hI.mono ?_
        rintro e w3 ⟨rfl, hb3⟩
        have hend := HFIN.out _ hb3
        obtain ⟨⟨c0, c2⟩, v0, v1, v2, v3, v4, v5⟩ := HXC.out w3 hb3
        clear hI HXC hb3
        go_wp2_with (go_at_call 36; fail)
        refine (HDG.out _).mono ?_
        rintro e w' ⟨rfl, rfl⟩
        clear HDG
        go_wp2
        go_ret2
        exact ⟨by rw [HN.out]; rfl, hend⟩
set_option maxHeartbeats 4000000 in
theorem rpart_pct_false (form : ByteArray) (b0 : (form.toList == [60, 108, 101, 110, 62]) = false) (b1 : (form.toList == [60, 108, 101, 110, 43, 62]) = false) (b2 : (form.toList == [60, 112, 99, 116, 62]) = true) (bx : (form.toList == [60, 112, 99, 116, 43, 62]) = false) (t : T5) (ka : Option Addr) (kc : Nat) (hz : t.tx.size ≤ 100000) (hu : t.un.size ≤ 1000000) (w : World) :
    Calls Tryz.prog 15 #[.string form, vA t (.slice ka 0 kc)] w fun e w' => e = .returned (res (wholeO .pct false t)) ∧ Below w.heap.size w w' := by
  obtain ⟨k, tx, un, wh, fl⟩ := t
  have hB1 : Below w.heap.size w (w.alloc (.cells #[.int .i64 k, .string tx, .string un, .bool wh, .bool fl, .slice ka 0 kc] 32)) := (Below.refl _ w).alloc (Nat.le_refl _) _
  have hB2 : Below w.heap.size w ((w.alloc (.cells #[.int .i64 k, .string tx, .string un, .bool wh, .bool fl, .slice ka 0 kc] 32)).alloc (.cells #[.int .i64 k, .string tx, .string un, .bool wh, .bool fl] 30)) := hB1.alloc hB1.size _
  have hX0 := World.alloc_heap_new w (.cells #[.int .i64 k, .string tx, .string un, .bool wh, .bool fl, .slice ka 0 kc] 32)
  have hX1 : ((w.alloc (.cells #[.int .i64 k, .string tx, .string un, .bool wh, .bool fl, .slice ka 0 kc] 32)).alloc (.cells #[.int .i64 k, .string tx, .string un, .bool wh, .bool fl] 30)).heap[w.heap.size]? = _ := (((Below.refl _ (w.alloc (.cells #[.int .i64 k, .string tx, .string un, .bool wh, .bool fl, .slice ka 0 kc] 32))).alloc (Nat.le_refl _) (.cells #[.int .i64 k, .string tx, .string un, .bool wh, .bool fl] 30)).block _ (Array.getElem?_eq_some_iff.1 hX0).1).trans hX0
  have hX2 := World.alloc_heap_new (w.alloc (.cells #[.int .i64 k, .string tx, .string un, .bool wh, .bool fl, .slice ka 0 kc] 32)) (.cells #[.int .i64 k, .string tx, .string un, .bool wh, .bool fl] 30)
  have hq : (w.alloc (.cells #[.int .i64 k, .string tx, .string un, .bool wh, .bool fl, .slice ka 0 kc] 32)).heap.size = w.heap.size + 1 := by simp
  rw [hq] at hX2
  have hI : Calls Tryz.prog 35 #[.agg #[.int .i64 k, .string tx, .string un, .bool wh, .bool fl]] ((w.alloc (.cells #[.int .i64 k, .string tx, .string un, .bool wh, .bool fl, .slice ka 0 kc] 32)).alloc (.cells #[.int .i64 k, .string tx, .string un, .bool wh, .bool fl] 30)) _ := rint_any ⟨k, tx, un, wh, fl⟩ hz ((w.alloc (.cells #[.int .i64 k, .string tx, .string un, .bool wh, .bool fl, .slice ka 0 kc] 32)).alloc (.cells #[.int .i64 k, .string tx, .string un, .bool wh, .bool fl] 30))
  have HXC : Hid (∀ w', Below ((w.alloc (.cells #[.int .i64 k, .string tx, .string un, .bool wh, .bool fl, .slice ka 0 kc] 32)).alloc (.cells #[.int .i64 k, .string tx, .string un, .bool wh, .bool fl] 30)).heap.size ((w.alloc (.cells #[.int .i64 k, .string tx, .string un, .bool wh, .bool fl, .slice ka 0 kc] 32)).alloc (.cells #[.int .i64 k, .string tx, .string un, .bool wh, .bool fl] 30)) w' → (w'.cell? ⟨w.heap.size + 1, 0, none⟩ = some (.int .i64 k) ∧ w'.cell? ⟨w.heap.size + 1, 2, none⟩ = some (.string un)) ∧ w'.cell? ⟨w.heap.size, 0, none⟩ = some (.int .i64 k) ∧ w'.cell? ⟨w.heap.size, 1, none⟩ = some (.string tx) ∧ w'.cell? ⟨w.heap.size, 2, none⟩ = some (.string un) ∧ w'.cell? ⟨w.heap.size, 3, none⟩ = some (.bool wh) ∧ w'.cell? ⟨w.heap.size, 4, none⟩ = some (.bool fl) ∧ w'.cell? ⟨w.heap.size, 5, none⟩ = some (.slice ka 0 kc)) := fun w' hb => by
    have g1 := (hb.block _ (Array.getElem?_eq_some_iff.1 hX1).1).trans hX1
    have g2 := (hb.block _ (Array.getElem?_eq_some_iff.1 hX2).1).trans hX2
    exact ⟨⟨L.cellAt g2 0, L.cellAt g2 2⟩, L.cellAt g1 0, L.cellAt g1 1, L.cellAt g1 2, L.cellAt g1 3, L.cellAt g1 4, L.cellAt g1 5⟩
  have HFIN : Hid (∀ w', Below ((w.alloc (.cells #[.int .i64 k, .string tx, .string un, .bool wh, .bool fl, .slice ka 0 kc] 32)).alloc (.cells #[.int .i64 k, .string tx, .string un, .bool wh, .bool fl] 30)).heap.size ((w.alloc (.cells #[.int .i64 k, .string tx, .string un, .bool wh, .bool fl, .slice ka 0 kc] 32)).alloc (.cells #[.int .i64 k, .string tx, .string un, .bool wh, .bool fl] 30)) w' → Below w.heap.size w w') := fun w' hb => hB2.trans (hb.mono hB2.size)
  have hbd := intP_bd ⟨k, tx, un, wh, fl⟩
  have hit := W.it_size (intP ⟨k, tx, un, wh, fl⟩).1
  have HDG : Hid (∀ w, Calls Tryz.prog 36 #[.int .i64 (intP ⟨k, tx, un, wh, fl⟩).1] w fun e w' => e = .returned (.string (W.itS (intP ⟨k, tx, un, wh, fl⟩).1)) ∧ w' = w) := fun w => rdig_any _ (by omega) (by omega) w
  have HFU : Hid (∀ w', Calls Tryz.prog 37 #[.string un] w' fun e w'' => e = .returned (.string (foldS un)) ∧ Below w'.heap.size w' w'') := fun w' => refFold_any un w' (Nat.le_trans hu (by decide))
  have HKP : Hid (∀ w3 w4, Below w.heap.size w w3 → w3.cell? ⟨w.heap.size + 1, 0, none⟩ = some (.int .i64 k) → Below w3.heap.size w3 w4 → Below w.heap.size w w4 ∧ w4.cell? ⟨w.heap.size + 1, 0, none⟩ = some (.int .i64 k)) := fun w3 w4 h1 h2 h3 => ⟨h1.trans (h3.mono h1.size), (h3.cell (p := ⟨w.heap.size + 1, 0, none⟩) (P.lt_of_cell h2)).trans h2⟩
  have HR0 : wholeO .pct false ⟨k, tx, un, wh, fl⟩ = if (intP ⟨k, tx, un, wh, fl⟩).2 = false ∨ Fits.ok .pct ⟨k, tx, un, wh, fl⟩ (intP ⟨k, tx, un, wh, fl⟩).1 = false ∨ (false = true ∧ (intP ⟨k, tx, un, wh, fl⟩).1 < 0) then none else some (W.itS (intP ⟨k, tx, un, wh, fl⟩).1 ++ pcS) := rfl
  generalize wholeO .pct false ⟨k, tx, un, wh, fl⟩ = R at *
  have hfit : ∀ n, Fits.ok .pct ⟨k, tx, un, wh, fl⟩ n = (k == 11) := fun n => rfl
  rw [hfit] at HR0
  generalize intP ⟨k, tx, un, wh, fl⟩ = np at *
  obtain ⟨n, ok⟩ := np
  simp only at hI HDG hbd hit HR0
  generalize W.itS n = its at *
  generalize foldS un = f at *
  have HR1 : R = if ok = false ∨ (k == 11) = false ∨ (false = true ∧ decide (n < 0) = true) then none else some (its ++ ⟨#[37]⟩) := by
    rw [HR0]; simp only [decide_eq_true_eq]; rfl
  have HR := hid_mk HR1
  obtain ⟨hn0, hn1⟩ := hbd
  have hsum : ¬ (9223372036854775807 < its.size + (⟨#[37]⟩ : ByteArray).size) := by
    have : (⟨#[37]⟩ : ByteArray).size ≤ 2 := by decide
    omega
  clear hX0 hX1 hX2 hq hB1 hB2 hfit HR0 HR1 hz hu
  show Calls Tryz.prog 15 #[.string form, .agg #[.int .i64 k, .string tx, .string un, .bool wh, .bool fl, .slice ka 0 kc]] w _
  cases ok with
  | false =>
    have HN : Hid (R = none) := by show _ = _; rw [HR.out]; simp [true_or]
    clear HR
    go_enter Tryz.func15, Tryz.ntmps15
    go_wp2_with (go_at_call 35; fail)
    refine hI.mono ?_
    rintro e w3 ⟨rfl, hb3⟩
    have hend := HFIN.out _ hb3
    obtain ⟨⟨c0, c2⟩, v0, v1, v2, v3, v4, v5⟩ := HXC.out w3 hb3
    clear hI HXC hb3
    go_wp2_with (go_at_call 36; fail)
    refine (HDG.out _).mono ?_
    rintro e w' ⟨rfl, rfl⟩
    clear HDG
    go_wp2
    go_ret2
    exact ⟨by rw [HN.out]; rfl, hend⟩
  | true =>
    cases hk : (k == 11) with
    | true =>
      have hk2 : (k != 11) = false := by simp only [bne, hk]; rfl
      cases hng : decide (n < 0) with
      | true =>
        have HN : Hid (R = some (its ++ ⟨#[37]⟩)) := by show _ = _; rw [HR.out]; simp [hk, hng]
        clear HR
        go_enter Tryz.func15, Tryz.ntmps15
        go_wp2_with (go_at_call 35; fail)
        refine hI.mono ?_
        rintro e w3 ⟨rfl, hb3⟩
        have hend := HFIN.out _ hb3
        obtain ⟨⟨c0, c2⟩, v0, v1, v2, v3, v4, v5⟩ := HXC.out w3 hb3
        clear hI HXC hb3
        go_wp2_with (go_at_call 36; fail)
        refine (HDG.out _).mono ?_
        rintro e w' ⟨rfl, rfl⟩
        clear HDG
        go_wp2
        go_ret2
        exact ⟨by rw [HN.out]; rfl, hend⟩
      | false =>
        have HN : Hid (R = some (its ++ ⟨#[37]⟩)) := by show _ = _; rw [HR.out]; simp [hk, hng]
        clear HR
        go_enter Tryz.func15, Tryz.ntmps15
        go_wp2_with (go_at_call 35; fail)
        refine hI.mono ?_
        rintro e w3 ⟨rfl, hb3⟩
        have hend := HFIN.out _ hb3
        obtain ⟨⟨c0, c2⟩, v0, v1, v2, v3, v4, v5⟩ := HXC.out w3 hb3
        clear hI HXC hb3
        go_wp2_with (go_at_call 36; fail)
        refine (HDG.out _).mono ?_
        rintro e w' ⟨rfl, rfl⟩
        clear HDG
        go_wp2
        go_ret2
        exact ⟨by rw [HN.out]; rfl, hend⟩
    | false =>
      have hk2 : (k != 11) = true := by simp only [bne, hk]; rfl
      have HN : Hid (R = none) := by show _ = _; rw [HR.out]; simp [hk]
      clear HR
      go_enter Tryz.func15, Tryz.ntmps15
      go_wp2_with (go_at_call 35; fail)
      refine hI.mono ?_
      rintro e w3 ⟨rfl, hb3⟩
      have hend := HFIN.out _ hb3
      obtain ⟨⟨c0, c2⟩, v0, v1, v2, v3, v4, v5⟩ := HXC.out w3 hb3
      clear hI HXC hb3
      go_wp2_with (go_at_call 36; fail)
      refine (HDG.out _).mono ?_
      rintro e w' ⟨rfl, rfl⟩
      clear HDG
      go_wp2
      go_ret2
      exact ⟨by rw [HN.out]; rfl, hend⟩
set_option maxHeartbeats 4000000 in
theorem rpart_pct_true (form : ByteArray) (b0 : (form.toList == [60, 108, 101, 110, 62]) = false) (b1 : (form.toList == [60, 108, 101, 110, 43, 62]) = false) (b2 : (form.toList == [60, 112, 99, 116, 62]) = false) (b3 : (form.toList == [60, 112, 99, 116, 43, 62]) = true) (t : T5) (ka : Option Addr) (kc : Nat) (hz : t.tx.size ≤ 100000) (hu : t.un.size ≤ 1000000) (w : World) :
    Calls Tryz.prog 15 #[.string form, vA t (.slice ka 0 kc)] w fun e w' => e = .returned (res (wholeO .pct true t)) ∧ Below w.heap.size w w' := by
  obtain ⟨k, tx, un, wh, fl⟩ := t
  have hB1 : Below w.heap.size w (w.alloc (.cells #[.int .i64 k, .string tx, .string un, .bool wh, .bool fl, .slice ka 0 kc] 32)) := (Below.refl _ w).alloc (Nat.le_refl _) _
  have hB2 : Below w.heap.size w ((w.alloc (.cells #[.int .i64 k, .string tx, .string un, .bool wh, .bool fl, .slice ka 0 kc] 32)).alloc (.cells #[.int .i64 k, .string tx, .string un, .bool wh, .bool fl] 30)) := hB1.alloc hB1.size _
  have hX0 := World.alloc_heap_new w (.cells #[.int .i64 k, .string tx, .string un, .bool wh, .bool fl, .slice ka 0 kc] 32)
  have hX1 : ((w.alloc (.cells #[.int .i64 k, .string tx, .string un, .bool wh, .bool fl, .slice ka 0 kc] 32)).alloc (.cells #[.int .i64 k, .string tx, .string un, .bool wh, .bool fl] 30)).heap[w.heap.size]? = _ := (((Below.refl _ (w.alloc (.cells #[.int .i64 k, .string tx, .string un, .bool wh, .bool fl, .slice ka 0 kc] 32))).alloc (Nat.le_refl _) (.cells #[.int .i64 k, .string tx, .string un, .bool wh, .bool fl] 30)).block _ (Array.getElem?_eq_some_iff.1 hX0).1).trans hX0
  have hX2 := World.alloc_heap_new (w.alloc (.cells #[.int .i64 k, .string tx, .string un, .bool wh, .bool fl, .slice ka 0 kc] 32)) (.cells #[.int .i64 k, .string tx, .string un, .bool wh, .bool fl] 30)
  have hq : (w.alloc (.cells #[.int .i64 k, .string tx, .string un, .bool wh, .bool fl, .slice ka 0 kc] 32)).heap.size = w.heap.size + 1 := by simp
  rw [hq] at hX2
  have hI : Calls Tryz.prog 35 #[.agg #[.int .i64 k, .string tx, .string un, .bool wh, .bool fl]] ((w.alloc (.cells #[.int .i64 k, .string tx, .string un, .bool wh, .bool fl, .slice ka 0 kc] 32)).alloc (.cells #[.int .i64 k, .string tx, .string un, .bool wh, .bool fl] 30)) _ := rint_any ⟨k, tx, un, wh, fl⟩ hz ((w.alloc (.cells #[.int .i64 k, .string tx, .string un, .bool wh, .bool fl, .slice ka 0 kc] 32)).alloc (.cells #[.int .i64 k, .string tx, .string un, .bool wh, .bool fl] 30))
  have HXC : Hid (∀ w', Below ((w.alloc (.cells #[.int .i64 k, .string tx, .string un, .bool wh, .bool fl, .slice ka 0 kc] 32)).alloc (.cells #[.int .i64 k, .string tx, .string un, .bool wh, .bool fl] 30)).heap.size ((w.alloc (.cells #[.int .i64 k, .string tx, .string un, .bool wh, .bool fl, .slice ka 0 kc] 32)).alloc (.cells #[.int .i64 k, .string tx, .string un, .bool wh, .bool fl] 30)) w' → (w'.cell? ⟨w.heap.size + 1, 0, none⟩ = some (.int .i64 k) ∧ w'.cell? ⟨w.heap.size + 1, 2, none⟩ = some (.string un)) ∧ w'.cell? ⟨w.heap.size, 0, none⟩ = some (.int .i64 k) ∧ w'.cell? ⟨w.heap.size, 1, none⟩ = some (.string tx) ∧ w'.cell? ⟨w.heap.size, 2, none⟩ = some (.string un) ∧ w'.cell? ⟨w.heap.size, 3, none⟩ = some (.bool wh) ∧ w'.cell? ⟨w.heap.size, 4, none⟩ = some (.bool fl) ∧ w'.cell? ⟨w.heap.size, 5, none⟩ = some (.slice ka 0 kc)) := fun w' hb => by
    have g1 := (hb.block _ (Array.getElem?_eq_some_iff.1 hX1).1).trans hX1
    have g2 := (hb.block _ (Array.getElem?_eq_some_iff.1 hX2).1).trans hX2
    exact ⟨⟨L.cellAt g2 0, L.cellAt g2 2⟩, L.cellAt g1 0, L.cellAt g1 1, L.cellAt g1 2, L.cellAt g1 3, L.cellAt g1 4, L.cellAt g1 5⟩
  have HFIN : Hid (∀ w', Below ((w.alloc (.cells #[.int .i64 k, .string tx, .string un, .bool wh, .bool fl, .slice ka 0 kc] 32)).alloc (.cells #[.int .i64 k, .string tx, .string un, .bool wh, .bool fl] 30)).heap.size ((w.alloc (.cells #[.int .i64 k, .string tx, .string un, .bool wh, .bool fl, .slice ka 0 kc] 32)).alloc (.cells #[.int .i64 k, .string tx, .string un, .bool wh, .bool fl] 30)) w' → Below w.heap.size w w') := fun w' hb => hB2.trans (hb.mono hB2.size)
  have hbd := intP_bd ⟨k, tx, un, wh, fl⟩
  have hit := W.it_size (intP ⟨k, tx, un, wh, fl⟩).1
  have HDG : Hid (∀ w, Calls Tryz.prog 36 #[.int .i64 (intP ⟨k, tx, un, wh, fl⟩).1] w fun e w' => e = .returned (.string (W.itS (intP ⟨k, tx, un, wh, fl⟩).1)) ∧ w' = w) := fun w => rdig_any _ (by omega) (by omega) w
  have HFU : Hid (∀ w', Calls Tryz.prog 37 #[.string un] w' fun e w'' => e = .returned (.string (foldS un)) ∧ Below w'.heap.size w' w'') := fun w' => refFold_any un w' (Nat.le_trans hu (by decide))
  have HKP : Hid (∀ w3 w4, Below w.heap.size w w3 → w3.cell? ⟨w.heap.size + 1, 0, none⟩ = some (.int .i64 k) → Below w3.heap.size w3 w4 → Below w.heap.size w w4 ∧ w4.cell? ⟨w.heap.size + 1, 0, none⟩ = some (.int .i64 k)) := fun w3 w4 h1 h2 h3 => ⟨h1.trans (h3.mono h1.size), (h3.cell (p := ⟨w.heap.size + 1, 0, none⟩) (P.lt_of_cell h2)).trans h2⟩
  have HR0 : wholeO .pct true ⟨k, tx, un, wh, fl⟩ = if (intP ⟨k, tx, un, wh, fl⟩).2 = false ∨ Fits.ok .pct ⟨k, tx, un, wh, fl⟩ (intP ⟨k, tx, un, wh, fl⟩).1 = false ∨ (true = true ∧ (intP ⟨k, tx, un, wh, fl⟩).1 < 0) then none else some (W.itS (intP ⟨k, tx, un, wh, fl⟩).1 ++ pcS) := rfl
  generalize wholeO .pct true ⟨k, tx, un, wh, fl⟩ = R at *
  have hfit : ∀ n, Fits.ok .pct ⟨k, tx, un, wh, fl⟩ n = (k == 11) := fun n => rfl
  rw [hfit] at HR0
  generalize intP ⟨k, tx, un, wh, fl⟩ = np at *
  obtain ⟨n, ok⟩ := np
  simp only at hI HDG hbd hit HR0
  generalize W.itS n = its at *
  generalize foldS un = f at *
  have HR1 : R = if ok = false ∨ (k == 11) = false ∨ (true = true ∧ decide (n < 0) = true) then none else some (its ++ ⟨#[37]⟩) := by
    rw [HR0]; simp only [decide_eq_true_eq]; rfl
  have HR := hid_mk HR1
  obtain ⟨hn0, hn1⟩ := hbd
  have hsum : ¬ (9223372036854775807 < its.size + (⟨#[37]⟩ : ByteArray).size) := by
    have : (⟨#[37]⟩ : ByteArray).size ≤ 2 := by decide
    omega
  clear hX0 hX1 hX2 hq hB1 hB2 hfit HR0 HR1 hz hu
  show Calls Tryz.prog 15 #[.string form, .agg #[.int .i64 k, .string tx, .string un, .bool wh, .bool fl, .slice ka 0 kc]] w _
  cases ok with
  | false =>
    have HN : Hid (R = none) := by show _ = _; rw [HR.out]; simp [true_or]
    clear HR
    go_enter Tryz.func15, Tryz.ntmps15
    go_wp2_with (go_at_call 35; fail)
    refine hI.mono ?_
    rintro e w3 ⟨rfl, hb3⟩
    have hend := HFIN.out _ hb3
    obtain ⟨⟨c0, c2⟩, v0, v1, v2, v3, v4, v5⟩ := HXC.out w3 hb3
    clear hI HXC hb3
    go_wp2_with (go_at_call 36; fail)
    refine (HDG.out _).mono ?_
    rintro e w' ⟨rfl, rfl⟩
    clear HDG
    go_wp2
    go_ret2
    exact ⟨by rw [HN.out]; rfl, hend⟩
  | true =>
    cases hk : (k == 11) with
    | true =>
      have hk2 : (k != 11) = false := by simp only [bne, hk]; rfl
      cases hng : decide (n < 0) with
      | true =>
        have HN : Hid (R = none) := by show _ = _; rw [HR.out]; simp [hk, hng]
        clear HR
        go_enter Tryz.func15, Tryz.ntmps15
        go_wp2_with (go_at_call 35; fail)
        refine hI.mono ?_
        rintro e w3 ⟨rfl, hb3⟩
        have hend := HFIN.out _ hb3
        obtain ⟨⟨c0, c2⟩, v0, v1, v2, v3, v4, v5⟩ := HXC.out w3 hb3
        clear hI HXC hb3
        go_wp2_with (go_at_call 36; fail)
        refine (HDG.out _).mono ?_
        rintro e w' ⟨rfl, rfl⟩
        clear HDG
        go_wp2
        go_ret2
        exact ⟨by rw [HN.out]; rfl, hend⟩
      | false =>
        have HN : Hid (R = some (its ++ ⟨#[37]⟩)) := by show _ = _; rw [HR.out]; simp [hk, hng]
        clear HR
        go_enter Tryz.func15, Tryz.ntmps15
        go_wp2_with (go_at_call 35; fail)
        refine hI.mono ?_
        rintro e w3 ⟨rfl, hb3⟩
        have hend := HFIN.out _ hb3
        obtain ⟨⟨c0, c2⟩, v0, v1, v2, v3, v4, v5⟩ := HXC.out w3 hb3
        clear hI HXC hb3
        go_wp2_with (go_at_call 36; fail)
        refine (HDG.out _).mono ?_
        rintro e w' ⟨rfl, rfl⟩
        clear HDG
        go_wp2
        go_ret2
        exact ⟨by rw [HN.out]; rfl, hend⟩
    | false =>
      have hk2 : (k != 11) = true := by simp only [bne, hk]; rfl
      have HN : Hid (R = none) := by show _ = _; rw [HR.out]; simp [hk]
      clear HR
      go_enter Tryz.func15, Tryz.ntmps15
      go_wp2_with (go_at_call 35; fail)
      refine hI.mono ?_
      rintro e w3 ⟨rfl, hb3⟩
      have hend := HFIN.out _ hb3
      obtain ⟨⟨c0, c2⟩, v0, v1, v2, v3, v4, v5⟩ := HXC.out w3 hb3
      clear hI HXC hb3
      go_wp2_with (go_at_call 36; fail)
      refine (HDG.out _).mono ?_
      rintro e w' ⟨rfl, rfl⟩
      clear HDG
      go_wp2
      go_ret2
      exact ⟨by rw [HN.out]; rfl, hend⟩
set_option maxHeartbeats 4000000 in
theorem rpart_int_false (form : ByteArray) (b0 : (form.toList == [60, 108, 101, 110, 62]) = false) (b1 : (form.toList == [60, 108, 101, 110, 43, 62]) = false) (b2 : (form.toList == [60, 112, 99, 116, 62]) = false) (b3 : (form.toList == [60, 112, 99, 116, 43, 62]) = false) (b4 : (form.toList == [60, 105, 110, 116, 62]) = true) (bx : (form.toList == [60, 105, 110, 116, 43, 62]) = false) (t : T5) (ka : Option Addr) (kc : Nat) (hz : t.tx.size ≤ 100000) (hu : t.un.size ≤ 1000000) (w : World) :
    Calls Tryz.prog 15 #[.string form, vA t (.slice ka 0 kc)] w fun e w' => e = .returned (res (wholeO .int false t)) ∧ Below w.heap.size w w' := by
  obtain ⟨k, tx, un, wh, fl⟩ := t
  have hB1 : Below w.heap.size w (w.alloc (.cells #[.int .i64 k, .string tx, .string un, .bool wh, .bool fl, .slice ka 0 kc] 32)) := (Below.refl _ w).alloc (Nat.le_refl _) _
  have hB2 : Below w.heap.size w ((w.alloc (.cells #[.int .i64 k, .string tx, .string un, .bool wh, .bool fl, .slice ka 0 kc] 32)).alloc (.cells #[.int .i64 k, .string tx, .string un, .bool wh, .bool fl] 30)) := hB1.alloc hB1.size _
  have hX0 := World.alloc_heap_new w (.cells #[.int .i64 k, .string tx, .string un, .bool wh, .bool fl, .slice ka 0 kc] 32)
  have hX1 : ((w.alloc (.cells #[.int .i64 k, .string tx, .string un, .bool wh, .bool fl, .slice ka 0 kc] 32)).alloc (.cells #[.int .i64 k, .string tx, .string un, .bool wh, .bool fl] 30)).heap[w.heap.size]? = _ := (((Below.refl _ (w.alloc (.cells #[.int .i64 k, .string tx, .string un, .bool wh, .bool fl, .slice ka 0 kc] 32))).alloc (Nat.le_refl _) (.cells #[.int .i64 k, .string tx, .string un, .bool wh, .bool fl] 30)).block _ (Array.getElem?_eq_some_iff.1 hX0).1).trans hX0
  have hX2 := World.alloc_heap_new (w.alloc (.cells #[.int .i64 k, .string tx, .string un, .bool wh, .bool fl, .slice ka 0 kc] 32)) (.cells #[.int .i64 k, .string tx, .string un, .bool wh, .bool fl] 30)
  have hq : (w.alloc (.cells #[.int .i64 k, .string tx, .string un, .bool wh, .bool fl, .slice ka 0 kc] 32)).heap.size = w.heap.size + 1 := by simp
  rw [hq] at hX2
  have hI : Calls Tryz.prog 35 #[.agg #[.int .i64 k, .string tx, .string un, .bool wh, .bool fl]] ((w.alloc (.cells #[.int .i64 k, .string tx, .string un, .bool wh, .bool fl, .slice ka 0 kc] 32)).alloc (.cells #[.int .i64 k, .string tx, .string un, .bool wh, .bool fl] 30)) _ := rint_any ⟨k, tx, un, wh, fl⟩ hz ((w.alloc (.cells #[.int .i64 k, .string tx, .string un, .bool wh, .bool fl, .slice ka 0 kc] 32)).alloc (.cells #[.int .i64 k, .string tx, .string un, .bool wh, .bool fl] 30))
  have HXC : Hid (∀ w', Below ((w.alloc (.cells #[.int .i64 k, .string tx, .string un, .bool wh, .bool fl, .slice ka 0 kc] 32)).alloc (.cells #[.int .i64 k, .string tx, .string un, .bool wh, .bool fl] 30)).heap.size ((w.alloc (.cells #[.int .i64 k, .string tx, .string un, .bool wh, .bool fl, .slice ka 0 kc] 32)).alloc (.cells #[.int .i64 k, .string tx, .string un, .bool wh, .bool fl] 30)) w' → (w'.cell? ⟨w.heap.size + 1, 0, none⟩ = some (.int .i64 k) ∧ w'.cell? ⟨w.heap.size + 1, 2, none⟩ = some (.string un)) ∧ w'.cell? ⟨w.heap.size, 0, none⟩ = some (.int .i64 k) ∧ w'.cell? ⟨w.heap.size, 1, none⟩ = some (.string tx) ∧ w'.cell? ⟨w.heap.size, 2, none⟩ = some (.string un) ∧ w'.cell? ⟨w.heap.size, 3, none⟩ = some (.bool wh) ∧ w'.cell? ⟨w.heap.size, 4, none⟩ = some (.bool fl) ∧ w'.cell? ⟨w.heap.size, 5, none⟩ = some (.slice ka 0 kc)) := fun w' hb => by
    have g1 := (hb.block _ (Array.getElem?_eq_some_iff.1 hX1).1).trans hX1
    have g2 := (hb.block _ (Array.getElem?_eq_some_iff.1 hX2).1).trans hX2
    exact ⟨⟨L.cellAt g2 0, L.cellAt g2 2⟩, L.cellAt g1 0, L.cellAt g1 1, L.cellAt g1 2, L.cellAt g1 3, L.cellAt g1 4, L.cellAt g1 5⟩
  have HFIN : Hid (∀ w', Below ((w.alloc (.cells #[.int .i64 k, .string tx, .string un, .bool wh, .bool fl, .slice ka 0 kc] 32)).alloc (.cells #[.int .i64 k, .string tx, .string un, .bool wh, .bool fl] 30)).heap.size ((w.alloc (.cells #[.int .i64 k, .string tx, .string un, .bool wh, .bool fl, .slice ka 0 kc] 32)).alloc (.cells #[.int .i64 k, .string tx, .string un, .bool wh, .bool fl] 30)) w' → Below w.heap.size w w') := fun w' hb => hB2.trans (hb.mono hB2.size)
  have hbd := intP_bd ⟨k, tx, un, wh, fl⟩
  have hit := W.it_size (intP ⟨k, tx, un, wh, fl⟩).1
  have HDG : Hid (∀ w, Calls Tryz.prog 36 #[.int .i64 (intP ⟨k, tx, un, wh, fl⟩).1] w fun e w' => e = .returned (.string (W.itS (intP ⟨k, tx, un, wh, fl⟩).1)) ∧ w' = w) := fun w => rdig_any _ (by omega) (by omega) w
  have HFU : Hid (∀ w', Calls Tryz.prog 37 #[.string un] w' fun e w'' => e = .returned (.string (foldS un)) ∧ Below w'.heap.size w' w'') := fun w' => refFold_any un w' (Nat.le_trans hu (by decide))
  have HKP : Hid (∀ w3 w4, Below w.heap.size w w3 → w3.cell? ⟨w.heap.size + 1, 0, none⟩ = some (.int .i64 k) → Below w3.heap.size w3 w4 → Below w.heap.size w w4 ∧ w4.cell? ⟨w.heap.size + 1, 0, none⟩ = some (.int .i64 k)) := fun w3 w4 h1 h2 h3 => ⟨h1.trans (h3.mono h1.size), (h3.cell (p := ⟨w.heap.size + 1, 0, none⟩) (P.lt_of_cell h2)).trans h2⟩
  have HR0 : wholeO .int false ⟨k, tx, un, wh, fl⟩ = if (intP ⟨k, tx, un, wh, fl⟩).2 = false ∨ Fits.ok .int ⟨k, tx, un, wh, fl⟩ (intP ⟨k, tx, un, wh, fl⟩).1 = false ∨ (false = true ∧ (intP ⟨k, tx, un, wh, fl⟩).1 < 0) then none else some (W.itS (intP ⟨k, tx, un, wh, fl⟩).1 ++ noS) := rfl
  generalize wholeO .int false ⟨k, tx, un, wh, fl⟩ = R at *
  have hfit : ∀ n, Fits.ok .int ⟨k, tx, un, wh, fl⟩ n = (k == 10) := fun n => rfl
  rw [hfit] at HR0
  generalize intP ⟨k, tx, un, wh, fl⟩ = np at *
  obtain ⟨n, ok⟩ := np
  simp only at hI HDG hbd hit HR0
  generalize W.itS n = its at *
  generalize foldS un = f at *
  have HR1 : R = if ok = false ∨ (k == 10) = false ∨ (false = true ∧ decide (n < 0) = true) then none else some (its ++ ⟨#[]⟩) := by
    rw [HR0]; simp only [decide_eq_true_eq]; rfl
  have HR := hid_mk HR1
  obtain ⟨hn0, hn1⟩ := hbd
  have hsum : ¬ (9223372036854775807 < its.size + (⟨#[]⟩ : ByteArray).size) := by
    have : (⟨#[]⟩ : ByteArray).size ≤ 2 := by decide
    omega
  have hem : its ++ (⟨#[]⟩ : ByteArray) = its := by apply ByteArray.ext; simp [ByteArray.data_append]
  clear hX0 hX1 hX2 hq hB1 hB2 hfit HR0 HR1 hz hu
  show Calls Tryz.prog 15 #[.string form, .agg #[.int .i64 k, .string tx, .string un, .bool wh, .bool fl, .slice ka 0 kc]] w _
  cases ok with
  | false =>
    have HN : Hid (R = none) := by show _ = _; rw [HR.out]; simp [true_or]
    clear HR
    go_enter Tryz.func15, Tryz.ntmps15
    go_wp2_with (go_at_call 35; fail)
    refine hI.mono ?_
    rintro e w3 ⟨rfl, hb3⟩
    have hend := HFIN.out _ hb3
    obtain ⟨⟨c0, c2⟩, v0, v1, v2, v3, v4, v5⟩ := HXC.out w3 hb3
    clear hI HXC hb3
    go_wp2_with (go_at_call 36; fail)
    refine (HDG.out _).mono ?_
    rintro e w' ⟨rfl, rfl⟩
    clear HDG
    go_wp2
    go_ret2
    exact ⟨by rw [HN.out]; rfl, hend⟩
  | true =>
    cases hk : (k == 10) with
    | true =>
      have hk2 : (k != 10) = false := by simp only [bne, hk]; rfl
      cases hng : decide (n < 0) with
      | true =>
        have HN : Hid (R = some its) := by show _ = _; rw [HR.out, hem]; simp [hk, hng]
        clear HR
        go_enter Tryz.func15, Tryz.ntmps15
        go_wp2_with (go_at_call 35; fail)
        refine hI.mono ?_
        rintro e w3 ⟨rfl, hb3⟩
        have hend := HFIN.out _ hb3
        obtain ⟨⟨c0, c2⟩, v0, v1, v2, v3, v4, v5⟩ := HXC.out w3 hb3
        clear hI HXC hb3
        go_wp2_with (go_at_call 36; fail)
        refine (HDG.out _).mono ?_
        rintro e w' ⟨rfl, rfl⟩
        clear HDG
        go_wp2
        go_ret2
        exact ⟨by rw [HN.out]; rfl, hend⟩
      | false =>
        have HN : Hid (R = some its) := by show _ = _; rw [HR.out, hem]; simp [hk, hng]
        clear HR
        go_enter Tryz.func15, Tryz.ntmps15
        go_wp2_with (go_at_call 35; fail)
        refine hI.mono ?_
        rintro e w3 ⟨rfl, hb3⟩
        have hend := HFIN.out _ hb3
        obtain ⟨⟨c0, c2⟩, v0, v1, v2, v3, v4, v5⟩ := HXC.out w3 hb3
        clear hI HXC hb3
        go_wp2_with (go_at_call 36; fail)
        refine (HDG.out _).mono ?_
        rintro e w' ⟨rfl, rfl⟩
        clear HDG
        go_wp2
        go_ret2
        exact ⟨by rw [HN.out]; rfl, hend⟩
    | false =>
      have hk2 : (k != 10) = true := by simp only [bne, hk]; rfl
      have HN : Hid (R = none) := by show _ = _; rw [HR.out]; simp [hk]
      clear HR
      go_enter Tryz.func15, Tryz.ntmps15
      go_wp2_with (go_at_call 35; fail)
      refine hI.mono ?_
      rintro e w3 ⟨rfl, hb3⟩
      have hend := HFIN.out _ hb3
      obtain ⟨⟨c0, c2⟩, v0, v1, v2, v3, v4, v5⟩ := HXC.out w3 hb3
      clear hI HXC hb3
      go_wp2_with (go_at_call 36; fail)
      refine (HDG.out _).mono ?_
      rintro e w' ⟨rfl, rfl⟩
      clear HDG
      go_wp2
      go_ret2
      exact ⟨by rw [HN.out]; rfl, hend⟩
set_option maxHeartbeats 4000000 in
theorem rpart_int_true (form : ByteArray) (b0 : (form.toList == [60, 108, 101, 110, 62]) = false) (b1 : (form.toList == [60, 108, 101, 110, 43, 62]) = false) (b2 : (form.toList == [60, 112, 99, 116, 62]) = false) (b3 : (form.toList == [60, 112, 99, 116, 43, 62]) = false) (b4 : (form.toList == [60, 105, 110, 116, 62]) = false) (b5 : (form.toList == [60, 105, 110, 116, 43, 62]) = true) (t : T5) (ka : Option Addr) (kc : Nat) (hz : t.tx.size ≤ 100000) (hu : t.un.size ≤ 1000000) (w : World) :
    Calls Tryz.prog 15 #[.string form, vA t (.slice ka 0 kc)] w fun e w' => e = .returned (res (wholeO .int true t)) ∧ Below w.heap.size w w' := by
  obtain ⟨k, tx, un, wh, fl⟩ := t
  have hB1 : Below w.heap.size w (w.alloc (.cells #[.int .i64 k, .string tx, .string un, .bool wh, .bool fl, .slice ka 0 kc] 32)) := (Below.refl _ w).alloc (Nat.le_refl _) _
  have hB2 : Below w.heap.size w ((w.alloc (.cells #[.int .i64 k, .string tx, .string un, .bool wh, .bool fl, .slice ka 0 kc] 32)).alloc (.cells #[.int .i64 k, .string tx, .string un, .bool wh, .bool fl] 30)) := hB1.alloc hB1.size _
  have hX0 := World.alloc_heap_new w (.cells #[.int .i64 k, .string tx, .string un, .bool wh, .bool fl, .slice ka 0 kc] 32)
  have hX1 : ((w.alloc (.cells #[.int .i64 k, .string tx, .string un, .bool wh, .bool fl, .slice ka 0 kc] 32)).alloc (.cells #[.int .i64 k, .string tx, .string un, .bool wh, .bool fl] 30)).heap[w.heap.size]? = _ := (((Below.refl _ (w.alloc (.cells #[.int .i64 k, .string tx, .string un, .bool wh, .bool fl, .slice ka 0 kc] 32))).alloc (Nat.le_refl _) (.cells #[.int .i64 k, .string tx, .string un, .bool wh, .bool fl] 30)).block _ (Array.getElem?_eq_some_iff.1 hX0).1).trans hX0
  have hX2 := World.alloc_heap_new (w.alloc (.cells #[.int .i64 k, .string tx, .string un, .bool wh, .bool fl, .slice ka 0 kc] 32)) (.cells #[.int .i64 k, .string tx, .string un, .bool wh, .bool fl] 30)
  have hq : (w.alloc (.cells #[.int .i64 k, .string tx, .string un, .bool wh, .bool fl, .slice ka 0 kc] 32)).heap.size = w.heap.size + 1 := by simp
  rw [hq] at hX2
  have hI : Calls Tryz.prog 35 #[.agg #[.int .i64 k, .string tx, .string un, .bool wh, .bool fl]] ((w.alloc (.cells #[.int .i64 k, .string tx, .string un, .bool wh, .bool fl, .slice ka 0 kc] 32)).alloc (.cells #[.int .i64 k, .string tx, .string un, .bool wh, .bool fl] 30)) _ := rint_any ⟨k, tx, un, wh, fl⟩ hz ((w.alloc (.cells #[.int .i64 k, .string tx, .string un, .bool wh, .bool fl, .slice ka 0 kc] 32)).alloc (.cells #[.int .i64 k, .string tx, .string un, .bool wh, .bool fl] 30))
  have HXC : Hid (∀ w', Below ((w.alloc (.cells #[.int .i64 k, .string tx, .string un, .bool wh, .bool fl, .slice ka 0 kc] 32)).alloc (.cells #[.int .i64 k, .string tx, .string un, .bool wh, .bool fl] 30)).heap.size ((w.alloc (.cells #[.int .i64 k, .string tx, .string un, .bool wh, .bool fl, .slice ka 0 kc] 32)).alloc (.cells #[.int .i64 k, .string tx, .string un, .bool wh, .bool fl] 30)) w' → (w'.cell? ⟨w.heap.size + 1, 0, none⟩ = some (.int .i64 k) ∧ w'.cell? ⟨w.heap.size + 1, 2, none⟩ = some (.string un)) ∧ w'.cell? ⟨w.heap.size, 0, none⟩ = some (.int .i64 k) ∧ w'.cell? ⟨w.heap.size, 1, none⟩ = some (.string tx) ∧ w'.cell? ⟨w.heap.size, 2, none⟩ = some (.string un) ∧ w'.cell? ⟨w.heap.size, 3, none⟩ = some (.bool wh) ∧ w'.cell? ⟨w.heap.size, 4, none⟩ = some (.bool fl) ∧ w'.cell? ⟨w.heap.size, 5, none⟩ = some (.slice ka 0 kc)) := fun w' hb => by
    have g1 := (hb.block _ (Array.getElem?_eq_some_iff.1 hX1).1).trans hX1
    have g2 := (hb.block _ (Array.getElem?_eq_some_iff.1 hX2).1).trans hX2
    exact ⟨⟨L.cellAt g2 0, L.cellAt g2 2⟩, L.cellAt g1 0, L.cellAt g1 1, L.cellAt g1 2, L.cellAt g1 3, L.cellAt g1 4, L.cellAt g1 5⟩
  have HFIN : Hid (∀ w', Below ((w.alloc (.cells #[.int .i64 k, .string tx, .string un, .bool wh, .bool fl, .slice ka 0 kc] 32)).alloc (.cells #[.int .i64 k, .string tx, .string un, .bool wh, .bool fl] 30)).heap.size ((w.alloc (.cells #[.int .i64 k, .string tx, .string un, .bool wh, .bool fl, .slice ka 0 kc] 32)).alloc (.cells #[.int .i64 k, .string tx, .string un, .bool wh, .bool fl] 30)) w' → Below w.heap.size w w') := fun w' hb => hB2.trans (hb.mono hB2.size)
  have hbd := intP_bd ⟨k, tx, un, wh, fl⟩
  have hit := W.it_size (intP ⟨k, tx, un, wh, fl⟩).1
  have HDG : Hid (∀ w, Calls Tryz.prog 36 #[.int .i64 (intP ⟨k, tx, un, wh, fl⟩).1] w fun e w' => e = .returned (.string (W.itS (intP ⟨k, tx, un, wh, fl⟩).1)) ∧ w' = w) := fun w => rdig_any _ (by omega) (by omega) w
  have HFU : Hid (∀ w', Calls Tryz.prog 37 #[.string un] w' fun e w'' => e = .returned (.string (foldS un)) ∧ Below w'.heap.size w' w'') := fun w' => refFold_any un w' (Nat.le_trans hu (by decide))
  have HKP : Hid (∀ w3 w4, Below w.heap.size w w3 → w3.cell? ⟨w.heap.size + 1, 0, none⟩ = some (.int .i64 k) → Below w3.heap.size w3 w4 → Below w.heap.size w w4 ∧ w4.cell? ⟨w.heap.size + 1, 0, none⟩ = some (.int .i64 k)) := fun w3 w4 h1 h2 h3 => ⟨h1.trans (h3.mono h1.size), (h3.cell (p := ⟨w.heap.size + 1, 0, none⟩) (P.lt_of_cell h2)).trans h2⟩
  have HR0 : wholeO .int true ⟨k, tx, un, wh, fl⟩ = if (intP ⟨k, tx, un, wh, fl⟩).2 = false ∨ Fits.ok .int ⟨k, tx, un, wh, fl⟩ (intP ⟨k, tx, un, wh, fl⟩).1 = false ∨ (true = true ∧ (intP ⟨k, tx, un, wh, fl⟩).1 < 0) then none else some (W.itS (intP ⟨k, tx, un, wh, fl⟩).1 ++ noS) := rfl
  generalize wholeO .int true ⟨k, tx, un, wh, fl⟩ = R at *
  have hfit : ∀ n, Fits.ok .int ⟨k, tx, un, wh, fl⟩ n = (k == 10) := fun n => rfl
  rw [hfit] at HR0
  generalize intP ⟨k, tx, un, wh, fl⟩ = np at *
  obtain ⟨n, ok⟩ := np
  simp only at hI HDG hbd hit HR0
  generalize W.itS n = its at *
  generalize foldS un = f at *
  have HR1 : R = if ok = false ∨ (k == 10) = false ∨ (true = true ∧ decide (n < 0) = true) then none else some (its ++ ⟨#[]⟩) := by
    rw [HR0]; simp only [decide_eq_true_eq]; rfl
  have HR := hid_mk HR1
  obtain ⟨hn0, hn1⟩ := hbd
  have hsum : ¬ (9223372036854775807 < its.size + (⟨#[]⟩ : ByteArray).size) := by
    have : (⟨#[]⟩ : ByteArray).size ≤ 2 := by decide
    omega
  have hem : its ++ (⟨#[]⟩ : ByteArray) = its := by apply ByteArray.ext; simp [ByteArray.data_append]
  clear hX0 hX1 hX2 hq hB1 hB2 hfit HR0 HR1 hz hu
  show Calls Tryz.prog 15 #[.string form, .agg #[.int .i64 k, .string tx, .string un, .bool wh, .bool fl, .slice ka 0 kc]] w _
  cases ok with
  | false =>
    have HN : Hid (R = none) := by show _ = _; rw [HR.out]; simp [true_or]
    clear HR
    go_enter Tryz.func15, Tryz.ntmps15
    go_wp2_with (go_at_call 35; fail)
    refine hI.mono ?_
    rintro e w3 ⟨rfl, hb3⟩
    have hend := HFIN.out _ hb3
    obtain ⟨⟨c0, c2⟩, v0, v1, v2, v3, v4, v5⟩ := HXC.out w3 hb3
    clear hI HXC hb3
    go_wp2_with (go_at_call 36; fail)
    refine (HDG.out _).mono ?_
    rintro e w' ⟨rfl, rfl⟩
    clear HDG
    go_wp2
    go_ret2
    exact ⟨by rw [HN.out]; rfl, hend⟩
  | true =>
    cases hk : (k == 10) with
    | true =>
      have hk2 : (k != 10) = false := by simp only [bne, hk]; rfl
      cases hng : decide (n < 0) with
      | true =>
        have HN : Hid (R = none) := by show _ = _; rw [HR.out]; simp [hk, hng]
        clear HR
        go_enter Tryz.func15, Tryz.ntmps15
        go_wp2_with (go_at_call 35; fail)
        refine hI.mono ?_
        rintro e w3 ⟨rfl, hb3⟩
        have hend := HFIN.out _ hb3
        obtain ⟨⟨c0, c2⟩, v0, v1, v2, v3, v4, v5⟩ := HXC.out w3 hb3
        clear hI HXC hb3
        go_wp2_with (go_at_call 36; fail)
        refine (HDG.out _).mono ?_
        rintro e w' ⟨rfl, rfl⟩
        clear HDG
        go_wp2
        go_ret2
        exact ⟨by rw [HN.out]; rfl, hend⟩
      | false =>
        have HN : Hid (R = some its) := by show _ = _; rw [HR.out, hem]; simp [hk, hng]
        clear HR
        go_enter Tryz.func15, Tryz.ntmps15
        go_wp2_with (go_at_call 35; fail)
        refine hI.mono ?_
        rintro e w3 ⟨rfl, hb3⟩
        have hend := HFIN.out _ hb3
        obtain ⟨⟨c0, c2⟩, v0, v1, v2, v3, v4, v5⟩ := HXC.out w3 hb3
        clear hI HXC hb3
        go_wp2_with (go_at_call 36; fail)
        refine (HDG.out _).mono ?_
        rintro e w' ⟨rfl, rfl⟩
        clear HDG
        go_wp2
        go_ret2
        exact ⟨by rw [HN.out]; rfl, hend⟩
    | false =>
      have hk2 : (k != 10) = true := by simp only [bne, hk]; rfl
      have HN : Hid (R = none) := by show _ = _; rw [HR.out]; simp [hk]
      clear HR
      go_enter Tryz.func15, Tryz.ntmps15
      go_wp2_with (go_at_call 35; fail)
      refine hI.mono ?_
      rintro e w3 ⟨rfl, hb3⟩
      have hend := HFIN.out _ hb3
      obtain ⟨⟨c0, c2⟩, v0, v1, v2, v3, v4, v5⟩ := HXC.out w3 hb3
      clear hI HXC hb3
      go_wp2_with (go_at_call 36; fail)
      refine (HDG.out _).mono ?_
      rintro e w' ⟨rfl, rfl⟩
      clear HDG
      go_wp2
      go_ret2
      exact ⟨by rw [HN.out]; rfl, hend⟩
end Go.Proofs.YtfgnlgkpgihbmaaGreatDoor.Z
