/- gouacheref15.Part of any form in small letters; Parse; Wide. -/
import Derived.Test.YtfgnlgkpgihbmaaGreatDoorZRp
import Derived.Test.YtfgnlgkpgihbmaaGreatDoorZCx
namespace Go.Proofs.YtfgnlgkpgihbmaaGreatDoor.Z
open Go.RowKit
open Go.Proofs.YtfgnlgkpgihbmaaGreatDoor.L (T5 V VsAt t5Cells vCells cell_of_heap hid_mk)
set_option maxRecDepth 100000

set_option maxHeartbeats 4000000 in
theorem rpart_col (form : ByteArray) (b0 : (form.toList == [60, 108, 101, 110, 62]) = false) (b1 : (form.toList == [60, 108, 101, 110, 43, 62]) = false) (b2 : (form.toList == [60, 112, 99, 116, 62]) = false) (b3 : (form.toList == [60, 112, 99, 116, 43, 62]) = false) (b4 : (form.toList == [60, 105, 110, 116, 62]) = false) (b5 : (form.toList == [60, 105, 110, 116, 43, 62]) = false) (b6 : (form.toList == [60, 99, 111, 108, 111, 114, 62]) = true) (t : T5) (ka : Option Addr) (kc : Nat) (hz : t.tx.size ≤ 100000) (w : World) :
    Calls Tryz.prog 15 #[.string form, vA t (.slice ka 0 kc)] w fun e w' => e = .returned (res (colorO t)) ∧ Below w.heap.size w w' := by
  obtain ⟨k, tx, un, wh, fl⟩ := t
  have hB1 : Below w.heap.size w (w.alloc (.cells #[.int .i64 k, .string tx, .string un, .bool wh, .bool fl, .slice ka 0 kc] 32)) := (Below.refl _ w).alloc (Nat.le_refl _) _
  have hB2 : Below w.heap.size w ((w.alloc (.cells #[.int .i64 k, .string tx, .string un, .bool wh, .bool fl, .slice ka 0 kc] 32)).alloc (.cells #[.int .i64 k, .string tx, .string un, .bool wh, .bool fl] 30)) := hB1.alloc hB1.size _
  have hX0 := World.alloc_heap_new w (.cells #[.int .i64 k, .string tx, .string un, .bool wh, .bool fl, .slice ka 0 kc] 32)
  have hX1 : ((w.alloc (.cells #[.int .i64 k, .string tx, .string un, .bool wh, .bool fl, .slice ka 0 kc] 32)).alloc (.cells #[.int .i64 k, .string tx, .string un, .bool wh, .bool fl] 30)).heap[w.heap.size]? = _ := (((Below.refl _ (w.alloc (.cells #[.int .i64 k, .string tx, .string un, .bool wh, .bool fl, .slice ka 0 kc] 32))).alloc (Nat.le_refl _) (.cells #[.int .i64 k, .string tx, .string un, .bool wh, .bool fl] 30)).block _ (Array.getElem?_eq_some_iff.1 hX0).1).trans hX0
  have hX2 := World.alloc_heap_new (w.alloc (.cells #[.int .i64 k, .string tx, .string un, .bool wh, .bool fl, .slice ka 0 kc] 32)) (.cells #[.int .i64 k, .string tx, .string un, .bool wh, .bool fl] 30)
  have hq : (w.alloc (.cells #[.int .i64 k, .string tx, .string un, .bool wh, .bool fl, .slice ka 0 kc] 32)).heap.size = w.heap.size + 1 := by simp
  rw [hq] at hX2
  have hI : Calls Tryz.prog 35 #[.agg #[.int .i64 k, .string tx, .string un, .bool wh, .bool fl]] ((w.alloc (.cells #[.int .i64 k, .string tx, .string un, .bool wh, .bool fl, .slice ka 0 kc] 32)).alloc (.cells #[.int .i64 k, .string tx, .string un, .bool wh, .bool fl] 30)) _ := rint_any ⟨k, tx, un, wh, fl⟩ hz ((w.alloc (.cells #[.int .i64 k, .string tx, .string un, .bool wh, .bool fl, .slice ka 0 kc] 32)).alloc (.cells #[.int .i64 k, .string tx, .string un, .bool wh, .bool fl] 30))
  have HXC : Hid (∀ w', Below ((w.alloc (.cells #[.int .i64 k, .string tx, .string un, .bool wh, .bool fl, .slice ka 0 kc] 32)).alloc (.cells #[.int .i64 k, .string tx, .string un, .bool wh, .bool fl] 30)).heap.size ((w.alloc (.cells #[.int .i64 k, .string tx, .string un, .bool wh, .bool fl, .slice ka 0 kc] 32)).alloc (.cells #[.int .i64 k, .string tx, .string un, .bool wh, .bool fl] 30)) w' → w'.cell? ⟨w.heap.size + 1, 0, none⟩ = some (.int .i64 k) ∧ w'.cell? ⟨w.heap.size, 0, none⟩ = some (.int .i64 k) ∧ w'.cell? ⟨w.heap.size, 1, none⟩ = some (.string tx) ∧ w'.cell? ⟨w.heap.size, 2, none⟩ = some (.string un) ∧ w'.cell? ⟨w.heap.size, 3, none⟩ = some (.bool wh) ∧ w'.cell? ⟨w.heap.size, 4, none⟩ = some (.bool fl) ∧ w'.cell? ⟨w.heap.size, 5, none⟩ = some (.slice ka 0 kc)) := fun w' hb => by
    have g1 := (hb.block _ (Array.getElem?_eq_some_iff.1 hX1).1).trans hX1
    have g2 := (hb.block _ (Array.getElem?_eq_some_iff.1 hX2).1).trans hX2
    exact ⟨L.cellAt g2 0, L.cellAt g1 0, L.cellAt g1 1, L.cellAt g1 2, L.cellAt g1 3, L.cellAt g1 4, L.cellAt g1 5⟩
  have HFIN : Hid (∀ w', Below ((w.alloc (.cells #[.int .i64 k, .string tx, .string un, .bool wh, .bool fl, .slice ka 0 kc] 32)).alloc (.cells #[.int .i64 k, .string tx, .string un, .bool wh, .bool fl] 30)).heap.size ((w.alloc (.cells #[.int .i64 k, .string tx, .string un, .bool wh, .bool fl, .slice ka 0 kc] 32)).alloc (.cells #[.int .i64 k, .string tx, .string un, .bool wh, .bool fl] 30)) w' → Below w.heap.size w w') := fun w' hb => hB2.trans (hb.mono hB2.size)
  have hbd := intP_bd ⟨k, tx, un, wh, fl⟩
  have HDG : Hid (∀ w, Calls Tryz.prog 36 #[.int .i64 (intP ⟨k, tx, un, wh, fl⟩).1] w fun e w' => e = .returned (.string (W.itS (intP ⟨k, tx, un, wh, fl⟩).1)) ∧ w' = w) := fun w => rdig_any _ (by omega) (by omega) w
  have hz : tx.size ≤ 100000 := hz
  have HCO : Hid (∀ w', Calls Tryz.prog 17 #[.agg #[.int .i64 k, .string tx, .string un, .bool wh, .bool fl, .slice ka 0 kc]] w' fun e w'' => e = .returned (res (colorO ⟨k, tx, un, wh, fl⟩)) ∧ Below w'.heap.size w' w'') := fun w' => rcolor_any ⟨k, tx, un, wh, fl⟩ ka 0 kc (by show tx.size ≤ 1000000; omega) w'
  generalize colorO ⟨k, tx, un, wh, fl⟩ = R at *
  obtain ⟨rs, rb, er, -, -⟩ := res_form R
  rw [er] at HCO ⊢
  generalize W.itS (intP ⟨k, tx, un, wh, fl⟩).1 = its at *
  generalize intP ⟨k, tx, un, wh, fl⟩ = np at *
  obtain ⟨n, ok⟩ := np
  simp only at hI HDG hbd
  clear hX0 hX1 hX2 hq hB1 hB2 hz hbd er
  show Calls Tryz.prog 15 #[.string form, .agg #[.int .i64 k, .string tx, .string un, .bool wh, .bool fl, .slice ka 0 kc]] w _
  go_enter Tryz.func15, Tryz.ntmps15
  go_wp2_with (go_at_call 35; fail)
  refine hI.mono ?_
  rintro e w3 ⟨rfl, hb3⟩
  have hend := HFIN.out _ hb3
  obtain ⟨c0, v0, v1, v2, v3, v4, v5⟩ := HXC.out w3 hb3
  clear hI HXC hb3
  go_wp2_with (go_at_call 36; fail)
  refine (HDG.out _).mono ?_
  rintro e w' ⟨rfl, rfl⟩
  clear HDG
  have hco := HCO.out w'
  go_wp2_with (go_at_call 17; fail)
  refine hco.mono ?_
  rintro e w4 ⟨rfl, hb4⟩
  have hend4 : Below w.heap.size w w4 := hend.trans (hb4.mono hend.size)
  clear hco hb4 hend c0 v0 v1 v2 v3 v4 v5
  go_wp2
  go_ret2
  exact ⟨rfl, hend4⟩
set_option maxHeartbeats 4000000 in
theorem rpart_word (form : ByteArray) (hff : foldS form = form) (b0 : (form.toList == [60, 108, 101, 110, 62]) = false) (b1 : (form.toList == [60, 108, 101, 110, 43, 62]) = false) (b2 : (form.toList == [60, 112, 99, 116, 62]) = false) (b3 : (form.toList == [60, 112, 99, 116, 43, 62]) = false) (b4 : (form.toList == [60, 105, 110, 116, 62]) = false) (b5 : (form.toList == [60, 105, 110, 116, 43, 62]) = false) (b6 : (form.toList == [60, 99, 111, 108, 111, 114, 62]) = false) (t : T5) (ka : Option Addr) (kc : Nat) (hz : t.tx.size ≤ 100000) (w : World) :
    Calls Tryz.prog 15 #[.string form, vA t (.slice ka 0 kc)] w fun e w' => e = .returned (res (wordO form t)) ∧ Below w.heap.size w w' := by
  obtain ⟨k, tx, un, wh, fl⟩ := t
  have hB1 : Below w.heap.size w (w.alloc (.cells #[.int .i64 k, .string tx, .string un, .bool wh, .bool fl, .slice ka 0 kc] 32)) := (Below.refl _ w).alloc (Nat.le_refl _) _
  have hB2 : Below w.heap.size w ((w.alloc (.cells #[.int .i64 k, .string tx, .string un, .bool wh, .bool fl, .slice ka 0 kc] 32)).alloc (.cells #[.int .i64 k, .string tx, .string un, .bool wh, .bool fl] 30)) := hB1.alloc hB1.size _
  have hX0 := World.alloc_heap_new w (.cells #[.int .i64 k, .string tx, .string un, .bool wh, .bool fl, .slice ka 0 kc] 32)
  have hX1 : ((w.alloc (.cells #[.int .i64 k, .string tx, .string un, .bool wh, .bool fl, .slice ka 0 kc] 32)).alloc (.cells #[.int .i64 k, .string tx, .string un, .bool wh, .bool fl] 30)).heap[w.heap.size]? = _ := (((Below.refl _ (w.alloc (.cells #[.int .i64 k, .string tx, .string un, .bool wh, .bool fl, .slice ka 0 kc] 32))).alloc (Nat.le_refl _) (.cells #[.int .i64 k, .string tx, .string un, .bool wh, .bool fl] 30)).block _ (Array.getElem?_eq_some_iff.1 hX0).1).trans hX0
  have hX2 := World.alloc_heap_new (w.alloc (.cells #[.int .i64 k, .string tx, .string un, .bool wh, .bool fl, .slice ka 0 kc] 32)) (.cells #[.int .i64 k, .string tx, .string un, .bool wh, .bool fl] 30)
  have hq : (w.alloc (.cells #[.int .i64 k, .string tx, .string un, .bool wh, .bool fl, .slice ka 0 kc] 32)).heap.size = w.heap.size + 1 := by simp
  rw [hq] at hX2
  have hI : Calls Tryz.prog 35 #[.agg #[.int .i64 k, .string tx, .string un, .bool wh, .bool fl]] ((w.alloc (.cells #[.int .i64 k, .string tx, .string un, .bool wh, .bool fl, .slice ka 0 kc] 32)).alloc (.cells #[.int .i64 k, .string tx, .string un, .bool wh, .bool fl] 30)) _ := rint_any ⟨k, tx, un, wh, fl⟩ hz ((w.alloc (.cells #[.int .i64 k, .string tx, .string un, .bool wh, .bool fl, .slice ka 0 kc] 32)).alloc (.cells #[.int .i64 k, .string tx, .string un, .bool wh, .bool fl] 30))
  have HXC : Hid (∀ w', Below ((w.alloc (.cells #[.int .i64 k, .string tx, .string un, .bool wh, .bool fl, .slice ka 0 kc] 32)).alloc (.cells #[.int .i64 k, .string tx, .string un, .bool wh, .bool fl] 30)).heap.size ((w.alloc (.cells #[.int .i64 k, .string tx, .string un, .bool wh, .bool fl, .slice ka 0 kc] 32)).alloc (.cells #[.int .i64 k, .string tx, .string un, .bool wh, .bool fl] 30)) w' → w'.cell? ⟨w.heap.size + 1, 0, none⟩ = some (.int .i64 k) ∧ w'.cell? ⟨w.heap.size, 0, none⟩ = some (.int .i64 k) ∧ w'.cell? ⟨w.heap.size, 1, none⟩ = some (.string tx) ∧ w'.cell? ⟨w.heap.size, 2, none⟩ = some (.string un) ∧ w'.cell? ⟨w.heap.size, 3, none⟩ = some (.bool wh) ∧ w'.cell? ⟨w.heap.size, 4, none⟩ = some (.bool fl) ∧ w'.cell? ⟨w.heap.size, 5, none⟩ = some (.slice ka 0 kc)) := fun w' hb => by
    have g1 := (hb.block _ (Array.getElem?_eq_some_iff.1 hX1).1).trans hX1
    have g2 := (hb.block _ (Array.getElem?_eq_some_iff.1 hX2).1).trans hX2
    exact ⟨L.cellAt g2 0, L.cellAt g1 0, L.cellAt g1 1, L.cellAt g1 2, L.cellAt g1 3, L.cellAt g1 4, L.cellAt g1 5⟩
  have HFIN : Hid (∀ w', Below ((w.alloc (.cells #[.int .i64 k, .string tx, .string un, .bool wh, .bool fl, .slice ka 0 kc] 32)).alloc (.cells #[.int .i64 k, .string tx, .string un, .bool wh, .bool fl] 30)).heap.size ((w.alloc (.cells #[.int .i64 k, .string tx, .string un, .bool wh, .bool fl, .slice ka 0 kc] 32)).alloc (.cells #[.int .i64 k, .string tx, .string un, .bool wh, .bool fl] 30)) w' → Below w.heap.size w w') := fun w' hb => hB2.trans (hb.mono hB2.size)
  have hbd := intP_bd ⟨k, tx, un, wh, fl⟩
  have HDG : Hid (∀ w, Calls Tryz.prog 36 #[.int .i64 (intP ⟨k, tx, un, wh, fl⟩).1] w fun e w' => e = .returned (.string (W.itS (intP ⟨k, tx, un, wh, fl⟩).1)) ∧ w' = w) := fun w => rdig_any _ (by omega) (by omega) w
  have hz : tx.size ≤ 100000 := hz
  have HID : Hid (∀ w', Calls Tryz.prog 33 #[.agg #[.int .i64 k, .string tx, .string un, .bool wh, .bool fl, .slice ka 0 kc]] w' fun e w'' => e = .returned (.string (idS ⟨k, tx, un, wh, fl⟩)) ∧ Below w'.heap.size w' w'') := fun w' => rident_any ⟨k, tx, un, wh, fl⟩ ka 0 kc (by show tx.size ≤ 1000000; omega) w'
  have HR : Hid (wordO form ⟨k, tx, un, wh, fl⟩ = if k = 1 ∧ foldS tx = form then some form else none) := by
    show _ = _
    unfold wordO
    rw [hff]
  have HIS : Hid (k = 1 → idS ⟨k, tx, un, wh, fl⟩ = foldS tx) := fun h => by unfold idS; rw [if_pos h]
  generalize wordO form ⟨k, tx, un, wh, fl⟩ = R at *
  generalize idS ⟨k, tx, un, wh, fl⟩ = is at *
  generalize foldS tx = f at *
  generalize W.itS (intP ⟨k, tx, un, wh, fl⟩).1 = its at *
  generalize intP ⟨k, tx, un, wh, fl⟩ = np at *
  obtain ⟨n, ok⟩ := np
  simp only at hI HDG hbd
  clear hX0 hX1 hX2 hq hB1 hB2 hz hbd hff
  show Calls Tryz.prog 15 #[.string form, .agg #[.int .i64 k, .string tx, .string un, .bool wh, .bool fl, .slice ka 0 kc]] w _
  by_cases hk : k = 1
  · have e := HIS.out hk
    subst e
    have k1 : (k != 1) = false := by rw [hk]; rfl
    cases hq : (is.toList == form.toList) with
    | true =>
      have HN : Hid (R = some form) := by show _ = _; rw [HR.out, if_pos ⟨hk, eq_list.2 hq⟩]
      have hq2 : (is.toList != form.toList) = false := by simp only [bne, hq]; rfl
      clear HR HIS hk
      go_enter Tryz.func15, Tryz.ntmps15
      go_wp2_with (go_at_call 35; fail)
      refine hI.mono ?_
      rintro e w3 ⟨rfl, hb3⟩
      have hend := HFIN.out _ hb3
      obtain ⟨c0, v0, v1, v2, v3, v4, v5⟩ := HXC.out w3 hb3
      clear hI HXC hb3
      go_wp2_with (go_at_call 36; fail)
      refine (HDG.out _).mono ?_
      rintro e w' ⟨rfl, rfl⟩
      clear HDG
      have hco := HID.out w'
      go_wp2_with (go_at_call 33; fail)
      refine hco.mono ?_
      rintro e w4 ⟨rfl, hb4⟩
      have hend4 : Below w.heap.size w w4 := hend.trans (hb4.mono hend.size)
      clear hco hb4 hend c0 v0 v1 v2 v3 v4 v5
      go_wp2
      go_ret2
      exact ⟨by rw [HN.out]; rfl, hend4⟩
    | false =>
      have HN : Hid (R = none) := by
        show _ = _
        rw [HR.out, if_neg]
        rintro ⟨_, h⟩
        rw [eq_list.1 h] at hq
        cases hq
      have hq2 : (is.toList != form.toList) = true := by simp only [bne, hq]; rfl
      clear HR HIS hk
      go_enter Tryz.func15, Tryz.ntmps15
      go_wp2_with (go_at_call 35; fail)
      refine hI.mono ?_
      rintro e w3 ⟨rfl, hb3⟩
      have hend := HFIN.out _ hb3
      obtain ⟨c0, v0, v1, v2, v3, v4, v5⟩ := HXC.out w3 hb3
      clear hI HXC hb3
      go_wp2_with (go_at_call 36; fail)
      refine (HDG.out _).mono ?_
      rintro e w' ⟨rfl, rfl⟩
      clear HDG
      have hco := HID.out w'
      go_wp2_with (go_at_call 33; fail)
      refine hco.mono ?_
      rintro e w4 ⟨rfl, hb4⟩
      have hend4 : Below w.heap.size w w4 := hend.trans (hb4.mono hend.size)
      clear hco hb4 hend c0 v0 v1 v2 v3 v4 v5
      go_wp2
      go_ret2
      exact ⟨by rw [HN.out]; rfl, hend4⟩
  · have HN : Hid (R = none) := by show _ = _; rw [HR.out, if_neg (fun h => hk h.1)]
    have k1 : (k != 1) = true := by simpa using hk
    clear HR HIS hk HID
    go_enter Tryz.func15, Tryz.ntmps15
    go_wp2_with (go_at_call 35; fail)
    refine hI.mono ?_
    rintro e w3 ⟨rfl, hb3⟩
    have hend := HFIN.out _ hb3
    obtain ⟨c0, v0, v1, v2, v3, v4, v5⟩ := HXC.out w3 hb3
    clear hI HXC hb3
    go_wp2_with (go_at_call 36; fail)
    refine (HDG.out _).mono ?_
    rintro e w' ⟨rfl, rfl⟩
    clear HDG
    go_wp2
    go_ret2
    exact ⟨by rw [HN.out]; rfl, hend⟩
set_option maxHeartbeats 1000000 in
theorem rpart_any (form : ByteArray) (hff : foldS form = form) (t : T5) (ka : Option Addr) (kn kc : Nat) (hz : t.tx.size ≤ 100000) (hu : t.un.size ≤ 1000000) (w : World) :
    Calls Tryz.prog 15 #[.string form, vA t (.slice ka kn kc)] w fun e w' => e = .returned (res (partO form t kn)) ∧ Below w.heap.size w w' := by
  by_cases h0 : 0 < kn
  · have HN : Hid (partO form t kn = none) := by show _ = _; unfold partO; rw [if_pos h0]
    rw [HN.out]
    obtain ⟨k, tx, un, wh, fl⟩ := t
    have hB : Below w.heap.size w (w.alloc (.cells #[.int .i64 k, .string tx, .string un, .bool wh, .bool fl, .slice ka kn kc] 32)) := (Below.refl _ w).alloc (Nat.le_refl _) _
    have hd : decide ((0 : Int) < (kn : Int)) = true := decide_eq_true (by omega)
    have hi : (0 : Int) < (kn : Int) := by omega
    have HB := hid_mk hB
    show Calls Tryz.prog 15 #[.string form, .agg #[.int .i64 k, .string tx, .string un, .bool wh, .bool fl, .slice ka kn kc]] w _
    clear HN hB
    go_enter Tryz.func15, Tryz.ntmps15
    go_wp2
    go_ret2
    exact ⟨rfl, HB.out⟩
  have hk0 : kn = 0 := by omega
  subst hk0
  have e : partO form t 0 = askO (asksA form) t := by unfold partO; rw [if_neg (by decide)]
  rw [e]
  by_cases e0 : form.toList = [60, 108, 101, 110, 62]
  · have hA : asksA form = .num .len false := by unfold asksA; rw [if_pos e0]
    rw [hA]
    exact rpart_len_false form  (by simpa using e0) (by rw [e0]; rfl) t ka kc hz hu w
  by_cases e1 : form.toList = [60, 108, 101, 110, 43, 62]
  · have hA : asksA form = .num .len true := by unfold asksA; rw [if_neg e0]; rw [if_pos e1]
    rw [hA]
    exact rpart_len_true form (by simpa using e0) (by simpa using e1)  t ka kc hz hu w
  by_cases e2 : form.toList = [60, 112, 99, 116, 62]
  · have hA : asksA form = .num .pct false := by unfold asksA; rw [if_neg e0]; rw [if_neg e1]; rw [if_pos e2]
    rw [hA]
    exact rpart_pct_false form (by simpa using e0) (by simpa using e1) (by simpa using e2) (by rw [e2]; rfl) t ka kc hz hu w
  by_cases e3 : form.toList = [60, 112, 99, 116, 43, 62]
  · have hA : asksA form = .num .pct true := by unfold asksA; rw [if_neg e0]; rw [if_neg e1]; rw [if_neg e2]; rw [if_pos e3]
    rw [hA]
    exact rpart_pct_true form (by simpa using e0) (by simpa using e1) (by simpa using e2) (by simpa using e3)  t ka kc hz hu w
  by_cases e4 : form.toList = [60, 105, 110, 116, 62]
  · have hA : asksA form = .num .int false := by unfold asksA; rw [if_neg e0]; rw [if_neg e1]; rw [if_neg e2]; rw [if_neg e3]; rw [if_pos e4]
    rw [hA]
    exact rpart_int_false form (by simpa using e0) (by simpa using e1) (by simpa using e2) (by simpa using e3) (by simpa using e4) (by rw [e4]; rfl) t ka kc hz hu w
  by_cases e5 : form.toList = [60, 105, 110, 116, 43, 62]
  · have hA : asksA form = .num .int true := by unfold asksA; rw [if_neg e0]; rw [if_neg e1]; rw [if_neg e2]; rw [if_neg e3]; rw [if_neg e4]; rw [if_pos e5]
    rw [hA]
    exact rpart_int_true form (by simpa using e0) (by simpa using e1) (by simpa using e2) (by simpa using e3) (by simpa using e4) (by simpa using e5)  t ka kc hz hu w
  by_cases e6 : form.toList = [60, 99, 111, 108, 111, 114, 62]
  · have hA : asksA form = .col := by unfold asksA; rw [if_neg e0]; rw [if_neg e1]; rw [if_neg e2]; rw [if_neg e3]; rw [if_neg e4]; rw [if_neg e5]; rw [if_pos e6]
    rw [hA]
    exact rpart_col form (by simpa using e0) (by simpa using e1) (by simpa using e2) (by simpa using e3) (by simpa using e4) (by simpa using e5) (by simpa using e6) t ka kc hz w
  have hA : asksA form = .word form := by unfold asksA; rw [if_neg e0]; rw [if_neg e1]; rw [if_neg e2]; rw [if_neg e3]; rw [if_neg e4]; rw [if_neg e5]; rw [if_neg e6]
  rw [hA]
  exact rpart_word form hff (by simpa using e0) (by simpa using e1) (by simpa using e2) (by simpa using e3) (by simpa using e4) (by simpa using e5) (by simpa using e6) t ka kc hz w
end Go.Proofs.YtfgnlgkpgihbmaaGreatDoor.Z
