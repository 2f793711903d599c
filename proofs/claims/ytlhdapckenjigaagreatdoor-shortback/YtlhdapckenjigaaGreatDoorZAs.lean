/- What a form of whole numbers asks; what a form asks that is a word. What a form asks that is a word; value.asks. value.asks, value.Part. -/
import Derived.Test.YtlhdapckenjigaaGreatDoorZCo
import Derived.Deep.RegionHeld3
import Derived.Shelf.Strings.Prefix
namespace Go.Proofs.YtlhdapckenjigaaGreatDoor.Z
open Go.RowKit
open Go.Proofs.YtlhdapckenjigaaGreatDoor.L (T5 V VsAt t5Cells vCells cell_of_heap)
set_option maxRecDepth 100000

def tA (t : T5) : Value := .agg #[.int .i64 t.k, .string t.tx, .string t.un, .bool t.wh, .bool t.fl]
theorem intP_bd (t : T5) : -1000000 ≤ (intP t).1 ∧ (intP t).1 ≤ 1000000 := by
  unfold intP
  split
  · unfold W.intV
    split
    · rename_i h
      have := W.satL_bd _ ((W.digB_iff _).1 h.2)
      unfold W.negZ
      split
      all_goals (simp only; omega)
    · simp
  · simp
theorem int_any (t : T5) (hz : t.tx.size ≤ 100000) (w : World) :
    Calls Tryz.prog 157 #[tA t] w fun e w' => e = .returned (.tuple #[.int .i64 (intP t).1, .bool (intP t).2]) ∧ Below w.heap.size w w' := by
  obtain ⟨k, tx, un, wh, fl⟩ := t
  by_cases hk : k = 10 ∨ k = 11 ∨ k = 12
  · cases wh with
    | true =>
      have e : intP ⟨k, tx, un, true, fl⟩ = W.intV (W.negB tx) (W.bytesL (W.bodyS tx)) := by unfold intP; rw [if_pos ⟨hk, rfl⟩]
      rw [e]
      exact W.int_whole k hk tx un fl hz w
    | false =>
      have e : intP ⟨k, tx, un, false, fl⟩ = (0, false) := by unfold intP; rw [if_neg (by rintro ⟨_, h⟩; cases h)]
      rw [e]
      exact W.int_not_whole k hk tx un fl w
  · have e : intP ⟨k, tx, un, wh, fl⟩ = (0, false) := by unfold intP; rw [if_neg (by rintro ⟨h, _⟩; exact hk h)]
    rw [e]
    exact W.int_no_kind k hk tx un wh fl w
def Fits.f : Fits → Nat
  | .len => 138
  | .pct => 139
  | .int => 140
set_option maxHeartbeats 1000000 in
theorem len_any (t : T5) (n : Int) (hu : t.un.size ≤ 1000000) (w : World) :
    Calls Tryz.prog 138 #[tA t, .int .i64 n] w fun e w' => e = .returned (.bool (Fits.len.ok t n)) ∧ Below w.heap.size w w' := by
  obtain ⟨k, tx, un, wh, fl⟩ := t
  have hB : Below w.heap.size w (w.alloc (.cells #[.int .i64 k, .string tx, .string un, .bool wh, .bool fl] 55)) := (Below.refl _ w).alloc (Nat.le_refl _) _
  have hf := fold_any un (w.alloc (.cells #[.int .i64 k, .string tx, .string un, .bool wh, .bool fl] 55)) (by exact Nat.le_trans hu (by decide))
  have HR : Hid (Fits.len.ok ⟨k, tx, un, wh, fl⟩ n = ((k == 12 && (foldS un).toList == [112, 120]) || (k == 10 && n == 0))) := rfl
  rw [HR.out]
  have HB := L.hid_mk hB
  clear hB HR
  show Calls Tryz.prog 138 #[.agg #[.int .i64 k, .string tx, .string un, .bool wh, .bool fl], .int .i64 n] w _
  generalize foldS un = f at *
  cases k12 : (k == 12) with
  | true =>
    have k10 : (k == 10) = false := by have := beq_iff_eq.1 k12; subst this; rfl
    cases hp : (f.toList == [112, 120]) with
    | true =>
      go_enter Tryz.func138, Tryz.ntmps138
      go_wp2_with (go_at_call 72; fail)
      refine hf.mono ?_
      rintro e w1 ⟨rfl, hb1⟩
      have hb2 : Below w.heap.size w w1 := HB.out.trans (hb1.mono HB.out.size)
      clear hb1 hf
      go_wp2
      go_ret
      exact ⟨rfl, hb2⟩
    | false =>
      have hc : (w.alloc (.cells #[.int .i64 k, .string tx, .string un, .bool wh, .bool fl] 55)).cell? ⟨w.heap.size, 0, none⟩ = some (.int .i64 k) := L.cellAt (World.alloc_heap_new w _) 0
      go_enter Tryz.func138, Tryz.ntmps138
      go_wp2_with (go_at_call 72; fail)
      refine hf.mono ?_
      rintro e w1 ⟨rfl, hb1⟩
      have hc1 : w1.cell? ⟨w.heap.size, 0, none⟩ = some (.int .i64 k) := (hb1.cell (p := ⟨w.heap.size, 0, none⟩) (Array.getElem?_eq_some_iff.1 (World.alloc_heap_new w _)).1).trans hc
      have hb2 : Below w.heap.size w w1 := HB.out.trans (hb1.mono HB.out.size)
      clear hb1 hf hc
      go_wp2
      go_ret
      exact ⟨by rw [k10]; rfl, hb2⟩
  | false =>
    clear hf
    cases k10 : (k == 10) with
    | true =>
      cases hn : (n == 0) with
      | true =>
        go_enter Tryz.func138, Tryz.ntmps138
        go_wp2
        go_ret
        exact ⟨rfl, HB.out⟩
      | false =>
        go_enter Tryz.func138, Tryz.ntmps138
        go_wp2
        go_ret
        exact ⟨rfl, HB.out⟩
    | false =>
      go_enter Tryz.func138, Tryz.ntmps138
      go_wp2
      go_ret
      exact ⟨rfl, HB.out⟩
theorem pct_any (t : T5) (n : Int) (w : World) :
    Calls Tryz.prog 139 #[tA t, .int .i64 n] w fun e w' => e = .returned (.bool (Fits.pct.ok t n)) ∧ Below w.heap.size w w' := by
  obtain ⟨k, tx, un, wh, fl⟩ := t
  have hB : Below w.heap.size w (w.alloc (.cells #[.int .i64 k, .string tx, .string un, .bool wh, .bool fl] 55)) := (Below.refl _ w).alloc (Nat.le_refl _) _
  show Calls Tryz.prog 139 #[.agg #[.int .i64 k, .string tx, .string un, .bool wh, .bool fl], .int .i64 n] w fun e w' => e = .returned (.bool (k == 11)) ∧ Below w.heap.size w w'
  go_enter Tryz.func139, Tryz.ntmps139
  go_wp2
  go_ret
  exact ⟨rfl, hB⟩
theorem num_any (t : T5) (n : Int) (w : World) :
    Calls Tryz.prog 140 #[tA t, .int .i64 n] w fun e w' => e = .returned (.bool (Fits.int.ok t n)) ∧ Below w.heap.size w w' := by
  obtain ⟨k, tx, un, wh, fl⟩ := t
  have hB : Below w.heap.size w (w.alloc (.cells #[.int .i64 k, .string tx, .string un, .bool wh, .bool fl] 55)) := (Below.refl _ w).alloc (Nat.le_refl _) _
  show Calls Tryz.prog 140 #[.agg #[.int .i64 k, .string tx, .string un, .bool wh, .bool fl], .int .i64 n] w fun e w' => e = .returned (.bool (k == 10)) ∧ Below w.heap.size w w'
  go_enter Tryz.func140, Tryz.ntmps140
  go_wp2
  go_ret
  exact ⟨rfl, hB⟩
theorem fits_any (f : Fits) (t : T5) (n : Int) (hu : t.un.size ≤ 1000000) (w : World) :
    Calls Tryz.prog f.f #[tA t, .int .i64 n] w fun e w' => e = .returned (.bool (f.ok t n)) ∧ Below w.heap.size w w' := by
  cases f
  · exact len_any t n hu w
  · exact pct_any t n w
  · exact num_any t n w
shelf_lay Lays.n100 Nm 100 at Tryz as laysHs
theorem suffix_any (s p : ByteArray) (hs : s.size ≤ 9223372036854775807) (w : World) : Calls Tryz.prog 155 #[.string s, .string p] w fun e w' => e = .returned (.bool (Lib.hasSuffix s.data.toList p.data.toList)) ∧ w' = w := Any.strings_HasSuffix laysHs s p w hs
/-- A block of one cell. -/
def One (w : World) (b : Nat) (v : Value) : Prop := w.cell? ⟨b, 0, none⟩ = some v
theorem One.keep {w w' : World} {b : Nat} {v : Value} (h : One w b v) (hb : Below w.heap.size w w') : One w' b v := (hb.cell (p := ⟨b, 0, none⟩) (P.lt_of_cell h)).trans h

set_option maxHeartbeats 2000000 in
/-- What a form of whole numbers asks: the closure. -/
theorem wcl_len (up : Bool) (t : T5) (ka : Option Addr) (kn kc bf bu bn : Nat) (hz : t.tx.size ≤ 100000) (hu : t.un.size ≤ 1000000) (w : World) (hp : W.Pow w)
    (h1 : One w bf (.func (.func 138) #[] #[])) (h2 : One w bu (.bool up)) (h3 : One w bn (.string pxS)) :
    Calls Tryz.prog 156 #[vA t (.slice ka kn kc), .pointer (some ⟨bf, 0, none⟩), .pointer (some ⟨bu, 0, none⟩), .pointer (some ⟨bn, 0, none⟩)] w fun e w' => e = .returned (res (wholeO .len up t)) ∧ Below w.heap.size w w' := by
  obtain ⟨k, tx, un, wh, fl⟩ := t
  have hI := fun w => int_any ⟨k, tx, un, wh, fl⟩ hz w
  have hF := fun n w => fits_any .len ⟨k, tx, un, wh, fl⟩ n hu w
  have hbd := intP_bd ⟨k, tx, un, wh, fl⟩
  have HR : Hid (wholeO .len up ⟨k, tx, un, wh, fl⟩ = if (intP ⟨k, tx, un, wh, fl⟩).2 = false ∨ Fits.ok .len ⟨k, tx, un, wh, fl⟩ (intP ⟨k, tx, un, wh, fl⟩).1 = false ∨ (up = true ∧ (intP ⟨k, tx, un, wh, fl⟩).1 < 0) then none else some (W.itS (intP ⟨k, tx, un, wh, fl⟩).1 ++ pxS)) := rfl
  have hus : (pxS : ByteArray).size ≤ 2 := by decide
  have hit := W.it_size (intP ⟨k, tx, un, wh, fl⟩).1
  have hB : Below w.heap.size w (w.alloc (.cells #[.int .i64 k, .string tx, .string un, .bool wh, .bool fl, .slice ka kn kc] 57)) := (Below.refl _ w).alloc (Nat.le_refl _) _
  have hI1 := hI (w.alloc (.cells #[.int .i64 k, .string tx, .string un, .bool wh, .bool fl, .slice ka kn kc] 57))
  have hX := World.alloc_heap_new w (.cells #[.int .i64 k, .string tx, .string un, .bool wh, .bool fl, .slice ka kn kc] 57)
  have HT : Hid (∀ w', Below w.heap.size w w' → Calls Tryz.prog 158 #[.int .i64 (intP ⟨k, tx, un, wh, fl⟩).1] w' fun e w'' => e = .returned (.string (W.itS (intP ⟨k, tx, un, wh, fl⟩).1)) ∧ Below w.heap.size w w'') := fun w' hb => (W.itoa_any _ (by omega) (by omega) w' (W.pow_below hp hb)).mono fun e w'' h => ⟨h.1, hb.trans (h.2.mono hb.size)⟩
  have HU : Hid (∀ w', Below w.heap.size w w' → w'.cell? ⟨bf, 0, none⟩ = some (.func (.func 138) #[] #[]) ∧ w'.cell? ⟨bu, 0, none⟩ = some (.bool up) ∧ w'.cell? ⟨bn, 0, none⟩ = some (.string pxS)) := fun w' hb => ⟨h1.keep hb, h2.keep hb, h3.keep hb⟩
  generalize wholeO .len up ⟨k, tx, un, wh, fl⟩ = R at *
  have HF := L.hid_mk (hF (intP ⟨k, tx, un, wh, fl⟩).1)
  generalize hn : (intP ⟨k, tx, un, wh, fl⟩).1 = n at *
  generalize hok : (intP ⟨k, tx, un, wh, fl⟩).2 = ok at *
  generalize Fits.ok .len ⟨k, tx, un, wh, fl⟩ n = fit at *
  generalize W.itS n = its at *
  generalize pxS = us at *
  obtain ⟨hn0, hn1⟩ := hbd
  have hsum : ¬ (9223372036854775807 < its.size + us.size) := by omega
  have hsum2 : its.size + us.size ≤ 9223372036854775807 := by omega
  have HB := L.hid_mk hB
  have HX := L.hid_mk hX
  clear hn hok hI hF hp hB hX h1 h2 h3
  show Calls Tryz.prog 156 #[.agg #[.int .i64 k, .string tx, .string un, .bool wh, .bool fl, .slice ka kn kc], .pointer (some ⟨bf, 0, none⟩), .pointer (some ⟨bu, 0, none⟩), .pointer (some ⟨bn, 0, none⟩)] w _
  cases ok with
  | false =>
    have HN : Hid (R = none) := by show _ = _; rw [HR.out, if_pos (.inl rfl)]
    clear HR
    go_enter Tryz.func156, Tryz.ntmps156
    go_wp2_with (go_at_call 157; fail)
    refine hI1.mono ?_
    rintro e w1 ⟨rfl, hb1⟩
    have hb2 : Below w.heap.size w w1 := HB.out.trans (hb1.mono HB.out.size)
    obtain ⟨x1, x2, x3⟩ := HU.out w1 hb2
    clear hb1 hI1
    go_wp2
    go_ret2
    exact ⟨by rw [HN.out]; rfl, hb2⟩
  | true =>
    go_enter Tryz.func156, Tryz.ntmps156
    go_wp2_with (go_at_call 157; fail)
    refine hI1.mono ?_
    rintro e w1 ⟨rfl, hb1⟩
    have hb2 : Below w.heap.size w w1 := HB.out.trans (hb1.mono HB.out.size)
    have hx1 : w1.heap[w.heap.size]? = _ := (hb1.block w.heap.size (Array.getElem?_eq_some_iff.1 HX.out).1).trans HX.out
    obtain ⟨x1, x2, x3⟩ := HU.out w1 hb2
    have y0 : w1.cell? ⟨w.heap.size, 0, none⟩ = some (.int .i64 k) := L.cellAt hx1 0
    have y1 : w1.cell? ⟨w.heap.size, 1, none⟩ = some (.string tx) := L.cellAt hx1 1
    have y2 : w1.cell? ⟨w.heap.size, 2, none⟩ = some (.string un) := L.cellAt hx1 2
    have y3 : w1.cell? ⟨w.heap.size, 3, none⟩ = some (.bool wh) := L.cellAt hx1 3
    have y4 : w1.cell? ⟨w.heap.size, 4, none⟩ = some (.bool fl) := L.cellAt hx1 4
    clear hb1 hI1 HX HB hx1
    have hf1 := HF.out w1
    have hs1 := hf1
    clear HF hf1
    go_wp2_with (go_at_call 138; fail)
    refine hs1.mono ?_
    rintro e w2 ⟨rfl, hb3⟩
    have hb4 : Below w.heap.size w w2 := hb2.trans (hb3.mono hb2.size)
    obtain ⟨z1, z2, z3⟩ := HU.out w2 hb4
    clear hs1 hb3 x1 x2 x3 y0 y1 y2 y3 y4
    cases fit with
    | false =>
      have HN : Hid (R = none) := by show _ = _; rw [HR.out, if_pos (.inr (.inl rfl))]
      clear HR
      go_wp2
      go_ret2
      exact ⟨by rw [HN.out]; rfl, hb4⟩
    | true =>
      by_cases hneg : up = true ∧ n < 0
      · have HN : Hid (R = none) := by show _ = _; rw [HR.out, if_pos (.inr (.inr hneg))]
        obtain ⟨rfl, hl⟩ := hneg
        have hd : decide (n < 0) = true := decide_eq_true hl
        clear HR hl
        go_wp2
        go_ret2
        exact ⟨by rw [HN.out]; rfl, hb4⟩
      · have HN : Hid (R = some (its ++ us)) := by
          show _ = _
          rw [HR.out, if_neg]
          rintro (h | h | h)
          · cases h
          · cases h
          · exact hneg h
        have hor : up = false ∨ (up = true ∧ decide (n < 0) = false) := by
          cases up
          · exact .inl rfl
          · exact .inr ⟨rfl, decide_eq_false fun h => hneg ⟨rfl, h⟩⟩
        clear HR hneg
        have HC : Hid (∀ w', Below w.heap.size w w' → w'.cell? ⟨bn, 0, none⟩ = some (.string us)) := fun w' h => (HU.out w' h).2.2
        have gd : Below w.heap.size w w2 := hb4
        have ge : Below w.heap.size w w2.drew := hb4.drew
        rcases hor with rfl | ⟨rfl, hd⟩
        all_goals
          go_upto_region 4 with (fail)
          go_region_held3 (fun w' => w'.cell? ⟨bn, 0, none⟩ = some (.string us))
            (first | with_reducible exact HC.out _ gd | with_reducible exact HC.out _ ge | with_reducible exact HC.out _ ga)
            (first
              | (go_at_call 158; with_reducible refine (HT.out _ ge).mono ?_; rintro e wa ⟨rfl, ga⟩))
          go_wp2
          go_ret2
          exact ⟨by rw [HN.out]; rfl, ga⟩
set_option maxHeartbeats 2000000 in
/-- What a form of whole numbers asks: the closure. -/
theorem wcl_pct (up : Bool) (t : T5) (ka : Option Addr) (kn kc bf bu bn : Nat) (hz : t.tx.size ≤ 100000) (hu : t.un.size ≤ 1000000) (w : World) (hp : W.Pow w)
    (h1 : One w bf (.func (.func 139) #[] #[])) (h2 : One w bu (.bool up)) (h3 : One w bn (.string pcS)) :
    Calls Tryz.prog 156 #[vA t (.slice ka kn kc), .pointer (some ⟨bf, 0, none⟩), .pointer (some ⟨bu, 0, none⟩), .pointer (some ⟨bn, 0, none⟩)] w fun e w' => e = .returned (res (wholeO .pct up t)) ∧ Below w.heap.size w w' := by
  obtain ⟨k, tx, un, wh, fl⟩ := t
  have hI := fun w => int_any ⟨k, tx, un, wh, fl⟩ hz w
  have hF := fun n w => fits_any .pct ⟨k, tx, un, wh, fl⟩ n hu w
  have hbd := intP_bd ⟨k, tx, un, wh, fl⟩
  have HR : Hid (wholeO .pct up ⟨k, tx, un, wh, fl⟩ = if (intP ⟨k, tx, un, wh, fl⟩).2 = false ∨ Fits.ok .pct ⟨k, tx, un, wh, fl⟩ (intP ⟨k, tx, un, wh, fl⟩).1 = false ∨ (up = true ∧ (intP ⟨k, tx, un, wh, fl⟩).1 < 0) then none else some (W.itS (intP ⟨k, tx, un, wh, fl⟩).1 ++ pcS)) := rfl
  have hus : (pcS : ByteArray).size ≤ 2 := by decide
  have hit := W.it_size (intP ⟨k, tx, un, wh, fl⟩).1
  have hB : Below w.heap.size w (w.alloc (.cells #[.int .i64 k, .string tx, .string un, .bool wh, .bool fl, .slice ka kn kc] 57)) := (Below.refl _ w).alloc (Nat.le_refl _) _
  have hI1 := hI (w.alloc (.cells #[.int .i64 k, .string tx, .string un, .bool wh, .bool fl, .slice ka kn kc] 57))
  have hX := World.alloc_heap_new w (.cells #[.int .i64 k, .string tx, .string un, .bool wh, .bool fl, .slice ka kn kc] 57)
  have HT : Hid (∀ w', Below w.heap.size w w' → Calls Tryz.prog 158 #[.int .i64 (intP ⟨k, tx, un, wh, fl⟩).1] w' fun e w'' => e = .returned (.string (W.itS (intP ⟨k, tx, un, wh, fl⟩).1)) ∧ Below w.heap.size w w'') := fun w' hb => (W.itoa_any _ (by omega) (by omega) w' (W.pow_below hp hb)).mono fun e w'' h => ⟨h.1, hb.trans (h.2.mono hb.size)⟩
  have HU : Hid (∀ w', Below w.heap.size w w' → w'.cell? ⟨bf, 0, none⟩ = some (.func (.func 139) #[] #[]) ∧ w'.cell? ⟨bu, 0, none⟩ = some (.bool up) ∧ w'.cell? ⟨bn, 0, none⟩ = some (.string pcS)) := fun w' hb => ⟨h1.keep hb, h2.keep hb, h3.keep hb⟩
  generalize wholeO .pct up ⟨k, tx, un, wh, fl⟩ = R at *
  have HF := L.hid_mk (hF (intP ⟨k, tx, un, wh, fl⟩).1)
  generalize hn : (intP ⟨k, tx, un, wh, fl⟩).1 = n at *
  generalize hok : (intP ⟨k, tx, un, wh, fl⟩).2 = ok at *
  generalize Fits.ok .pct ⟨k, tx, un, wh, fl⟩ n = fit at *
  generalize W.itS n = its at *
  generalize pcS = us at *
  obtain ⟨hn0, hn1⟩ := hbd
  have hsum : ¬ (9223372036854775807 < its.size + us.size) := by omega
  have hsum2 : its.size + us.size ≤ 9223372036854775807 := by omega
  have HB := L.hid_mk hB
  have HX := L.hid_mk hX
  clear hn hok hI hF hp hB hX h1 h2 h3
  show Calls Tryz.prog 156 #[.agg #[.int .i64 k, .string tx, .string un, .bool wh, .bool fl, .slice ka kn kc], .pointer (some ⟨bf, 0, none⟩), .pointer (some ⟨bu, 0, none⟩), .pointer (some ⟨bn, 0, none⟩)] w _
  cases ok with
  | false =>
    have HN : Hid (R = none) := by show _ = _; rw [HR.out, if_pos (.inl rfl)]
    clear HR
    go_enter Tryz.func156, Tryz.ntmps156
    go_wp2_with (go_at_call 157; fail)
    refine hI1.mono ?_
    rintro e w1 ⟨rfl, hb1⟩
    have hb2 : Below w.heap.size w w1 := HB.out.trans (hb1.mono HB.out.size)
    obtain ⟨x1, x2, x3⟩ := HU.out w1 hb2
    clear hb1 hI1
    go_wp2
    go_ret2
    exact ⟨by rw [HN.out]; rfl, hb2⟩
  | true =>
    go_enter Tryz.func156, Tryz.ntmps156
    go_wp2_with (go_at_call 157; fail)
    refine hI1.mono ?_
    rintro e w1 ⟨rfl, hb1⟩
    have hb2 : Below w.heap.size w w1 := HB.out.trans (hb1.mono HB.out.size)
    have hx1 : w1.heap[w.heap.size]? = _ := (hb1.block w.heap.size (Array.getElem?_eq_some_iff.1 HX.out).1).trans HX.out
    obtain ⟨x1, x2, x3⟩ := HU.out w1 hb2
    have y0 : w1.cell? ⟨w.heap.size, 0, none⟩ = some (.int .i64 k) := L.cellAt hx1 0
    have y1 : w1.cell? ⟨w.heap.size, 1, none⟩ = some (.string tx) := L.cellAt hx1 1
    have y2 : w1.cell? ⟨w.heap.size, 2, none⟩ = some (.string un) := L.cellAt hx1 2
    have y3 : w1.cell? ⟨w.heap.size, 3, none⟩ = some (.bool wh) := L.cellAt hx1 3
    have y4 : w1.cell? ⟨w.heap.size, 4, none⟩ = some (.bool fl) := L.cellAt hx1 4
    clear hb1 hI1 HX HB hx1
    have hf1 := HF.out w1
    have hs1 := hf1
    clear HF hf1
    go_wp2_with (go_at_call 139; fail)
    refine hs1.mono ?_
    rintro e w2 ⟨rfl, hb3⟩
    have hb4 : Below w.heap.size w w2 := hb2.trans (hb3.mono hb2.size)
    obtain ⟨z1, z2, z3⟩ := HU.out w2 hb4
    clear hs1 hb3 x1 x2 x3 y0 y1 y2 y3 y4
    cases fit with
    | false =>
      have HN : Hid (R = none) := by show _ = _; rw [HR.out, if_pos (.inr (.inl rfl))]
      clear HR
      go_wp2
      go_ret2
      exact ⟨by rw [HN.out]; rfl, hb4⟩
    | true =>
      by_cases hneg : up = true ∧ n < 0
      · have HN : Hid (R = none) := by show _ = _; rw [HR.out, if_pos (.inr (.inr hneg))]
        obtain ⟨rfl, hl⟩ := hneg
        have hd : decide (n < 0) = true := decide_eq_true hl
        clear HR hl
        go_wp2
        go_ret2
        exact ⟨by rw [HN.out]; rfl, hb4⟩
      · have HN : Hid (R = some (its ++ us)) := by
          show _ = _
          rw [HR.out, if_neg]
          rintro (h | h | h)
          · cases h
          · cases h
          · exact hneg h
        have hor : up = false ∨ (up = true ∧ decide (n < 0) = false) := by
          cases up
          · exact .inl rfl
          · exact .inr ⟨rfl, decide_eq_false fun h => hneg ⟨rfl, h⟩⟩
        clear HR hneg
        have HC : Hid (∀ w', Below w.heap.size w w' → w'.cell? ⟨bn, 0, none⟩ = some (.string us)) := fun w' h => (HU.out w' h).2.2
        have gd : Below w.heap.size w w2 := hb4
        have ge : Below w.heap.size w w2.drew := hb4.drew
        rcases hor with rfl | ⟨rfl, hd⟩
        all_goals
          go_upto_region 4 with (fail)
          go_region_held3 (fun w' => w'.cell? ⟨bn, 0, none⟩ = some (.string us))
            (first | with_reducible exact HC.out _ gd | with_reducible exact HC.out _ ge | with_reducible exact HC.out _ ga)
            (first
              | (go_at_call 158; with_reducible refine (HT.out _ ge).mono ?_; rintro e wa ⟨rfl, ga⟩))
          go_wp2
          go_ret2
          exact ⟨by rw [HN.out]; rfl, ga⟩
set_option maxHeartbeats 2000000 in
/-- What a form of whole numbers asks: the closure. -/
theorem wcl_int (up : Bool) (t : T5) (ka : Option Addr) (kn kc bf bu bn : Nat) (hz : t.tx.size ≤ 100000) (hu : t.un.size ≤ 1000000) (w : World) (hp : W.Pow w)
    (h1 : One w bf (.func (.func 140) #[] #[])) (h2 : One w bu (.bool up)) (h3 : One w bn (.string noS)) :
    Calls Tryz.prog 156 #[vA t (.slice ka kn kc), .pointer (some ⟨bf, 0, none⟩), .pointer (some ⟨bu, 0, none⟩), .pointer (some ⟨bn, 0, none⟩)] w fun e w' => e = .returned (res (wholeO .int up t)) ∧ Below w.heap.size w w' := by
  obtain ⟨k, tx, un, wh, fl⟩ := t
  have hI := fun w => int_any ⟨k, tx, un, wh, fl⟩ hz w
  have hF := fun n w => fits_any .int ⟨k, tx, un, wh, fl⟩ n hu w
  have hbd := intP_bd ⟨k, tx, un, wh, fl⟩
  have HR : Hid (wholeO .int up ⟨k, tx, un, wh, fl⟩ = if (intP ⟨k, tx, un, wh, fl⟩).2 = false ∨ Fits.ok .int ⟨k, tx, un, wh, fl⟩ (intP ⟨k, tx, un, wh, fl⟩).1 = false ∨ (up = true ∧ (intP ⟨k, tx, un, wh, fl⟩).1 < 0) then none else some (W.itS (intP ⟨k, tx, un, wh, fl⟩).1 ++ noS)) := rfl
  have hus : (noS : ByteArray).size ≤ 2 := by decide
  have hit := W.it_size (intP ⟨k, tx, un, wh, fl⟩).1
  have hB : Below w.heap.size w (w.alloc (.cells #[.int .i64 k, .string tx, .string un, .bool wh, .bool fl, .slice ka kn kc] 57)) := (Below.refl _ w).alloc (Nat.le_refl _) _
  have hI1 := hI (w.alloc (.cells #[.int .i64 k, .string tx, .string un, .bool wh, .bool fl, .slice ka kn kc] 57))
  have hX := World.alloc_heap_new w (.cells #[.int .i64 k, .string tx, .string un, .bool wh, .bool fl, .slice ka kn kc] 57)
  have HT : Hid (∀ w', Below w.heap.size w w' → Calls Tryz.prog 158 #[.int .i64 (intP ⟨k, tx, un, wh, fl⟩).1] w' fun e w'' => e = .returned (.string (W.itS (intP ⟨k, tx, un, wh, fl⟩).1)) ∧ Below w.heap.size w w'') := fun w' hb => (W.itoa_any _ (by omega) (by omega) w' (W.pow_below hp hb)).mono fun e w'' h => ⟨h.1, hb.trans (h.2.mono hb.size)⟩
  have HU : Hid (∀ w', Below w.heap.size w w' → w'.cell? ⟨bf, 0, none⟩ = some (.func (.func 140) #[] #[]) ∧ w'.cell? ⟨bu, 0, none⟩ = some (.bool up) ∧ w'.cell? ⟨bn, 0, none⟩ = some (.string noS)) := fun w' hb => ⟨h1.keep hb, h2.keep hb, h3.keep hb⟩
  generalize wholeO .int up ⟨k, tx, un, wh, fl⟩ = R at *
  have HF := L.hid_mk (hF (intP ⟨k, tx, un, wh, fl⟩).1)
  generalize hn : (intP ⟨k, tx, un, wh, fl⟩).1 = n at *
  generalize hok : (intP ⟨k, tx, un, wh, fl⟩).2 = ok at *
  generalize Fits.ok .int ⟨k, tx, un, wh, fl⟩ n = fit at *
  generalize W.itS n = its at *
  generalize noS = us at *
  obtain ⟨hn0, hn1⟩ := hbd
  have hsum : ¬ (9223372036854775807 < its.size + us.size) := by omega
  have hsum2 : its.size + us.size ≤ 9223372036854775807 := by omega
  have HB := L.hid_mk hB
  have HX := L.hid_mk hX
  clear hn hok hI hF hp hB hX h1 h2 h3
  show Calls Tryz.prog 156 #[.agg #[.int .i64 k, .string tx, .string un, .bool wh, .bool fl, .slice ka kn kc], .pointer (some ⟨bf, 0, none⟩), .pointer (some ⟨bu, 0, none⟩), .pointer (some ⟨bn, 0, none⟩)] w _
  cases ok with
  | false =>
    have HN : Hid (R = none) := by show _ = _; rw [HR.out, if_pos (.inl rfl)]
    clear HR
    go_enter Tryz.func156, Tryz.ntmps156
    go_wp2_with (go_at_call 157; fail)
    refine hI1.mono ?_
    rintro e w1 ⟨rfl, hb1⟩
    have hb2 : Below w.heap.size w w1 := HB.out.trans (hb1.mono HB.out.size)
    obtain ⟨x1, x2, x3⟩ := HU.out w1 hb2
    clear hb1 hI1
    go_wp2
    go_ret2
    exact ⟨by rw [HN.out]; rfl, hb2⟩
  | true =>
    go_enter Tryz.func156, Tryz.ntmps156
    go_wp2_with (go_at_call 157; fail)
    refine hI1.mono ?_
    rintro e w1 ⟨rfl, hb1⟩
    have hb2 : Below w.heap.size w w1 := HB.out.trans (hb1.mono HB.out.size)
    have hx1 : w1.heap[w.heap.size]? = _ := (hb1.block w.heap.size (Array.getElem?_eq_some_iff.1 HX.out).1).trans HX.out
    obtain ⟨x1, x2, x3⟩ := HU.out w1 hb2
    have y0 : w1.cell? ⟨w.heap.size, 0, none⟩ = some (.int .i64 k) := L.cellAt hx1 0
    have y1 : w1.cell? ⟨w.heap.size, 1, none⟩ = some (.string tx) := L.cellAt hx1 1
    have y2 : w1.cell? ⟨w.heap.size, 2, none⟩ = some (.string un) := L.cellAt hx1 2
    have y3 : w1.cell? ⟨w.heap.size, 3, none⟩ = some (.bool wh) := L.cellAt hx1 3
    have y4 : w1.cell? ⟨w.heap.size, 4, none⟩ = some (.bool fl) := L.cellAt hx1 4
    clear hb1 hI1 HX HB hx1
    have hf1 := HF.out w1
    have hs1 := hf1
    clear HF hf1
    go_wp2_with (go_at_call 140; fail)
    refine hs1.mono ?_
    rintro e w2 ⟨rfl, hb3⟩
    have hb4 : Below w.heap.size w w2 := hb2.trans (hb3.mono hb2.size)
    obtain ⟨z1, z2, z3⟩ := HU.out w2 hb4
    clear hs1 hb3 x1 x2 x3 y0 y1 y2 y3 y4
    cases fit with
    | false =>
      have HN : Hid (R = none) := by show _ = _; rw [HR.out, if_pos (.inr (.inl rfl))]
      clear HR
      go_wp2
      go_ret2
      exact ⟨by rw [HN.out]; rfl, hb4⟩
    | true =>
      by_cases hneg : up = true ∧ n < 0
      · have HN : Hid (R = none) := by show _ = _; rw [HR.out, if_pos (.inr (.inr hneg))]
        obtain ⟨rfl, hl⟩ := hneg
        have hd : decide (n < 0) = true := decide_eq_true hl
        clear HR hl
        go_wp2
        go_ret2
        exact ⟨by rw [HN.out]; rfl, hb4⟩
      · have HN : Hid (R = some (its ++ us)) := by
          show _ = _
          rw [HR.out, if_neg]
          rintro (h | h | h)
          · cases h
          · cases h
          · exact hneg h
        have hor : up = false ∨ (up = true ∧ decide (n < 0) = false) := by
          cases up
          · exact .inl rfl
          · exact .inr ⟨rfl, decide_eq_false fun h => hneg ⟨rfl, h⟩⟩
        clear HR hneg
        have HC : Hid (∀ w', Below w.heap.size w w' → w'.cell? ⟨bn, 0, none⟩ = some (.string us)) := fun w' h => (HU.out w' h).2.2
        have gd : Below w.heap.size w w2 := hb4
        have ge : Below w.heap.size w w2.drew := hb4.drew
        rcases hor with rfl | ⟨rfl, hd⟩
        all_goals
          go_upto_region 4 with (fail)
          go_region_held3 (fun w' => w'.cell? ⟨bn, 0, none⟩ = some (.string us))
            (first | with_reducible exact HC.out _ gd | with_reducible exact HC.out _ ge | with_reducible exact HC.out _ ga)
            (first
              | (go_at_call 158; with_reducible refine (HT.out _ ge).mono ?_; rintro e wa ⟨rfl, ga⟩))
          go_wp2
          go_ret2
          exact ⟨by rw [HN.out]; rfl, ga⟩
theorem wcl_any (f : Fits) (up : Bool) (t : T5) (ka : Option Addr) (kn kc bf bu bn : Nat) (hz : t.tx.size ≤ 100000) (hu : t.un.size ≤ 1000000) (w : World) (hp : W.Pow w)
    (h1 : One w bf (.func (.func f.f) #[] #[])) (h2 : One w bu (.bool up)) (h3 : One w bn (.string f.unit)) :
    Calls Tryz.prog 156 #[vA t (.slice ka kn kc), .pointer (some ⟨bf, 0, none⟩), .pointer (some ⟨bu, 0, none⟩), .pointer (some ⟨bn, 0, none⟩)] w fun e w' => e = .returned (res (wholeO f up t)) ∧ Below w.heap.size w w' := by
  cases f
  · exact wcl_len up t ka kn kc bf bu bn hz hu w hp h1 h2 h3
  · exact wcl_pct up t ka kn kc bf bu bn hz hu w hp h1 h2 h3
  · exact wcl_int up t ka kn kc bf bu bn hz hu w hp h1 h2 h3
end Go.Proofs.YtlhdapckenjigaaGreatDoor.Z
namespace Go.Proofs.YtlhdapckenjigaaGreatDoor.Z
open Go.RowKit
open Go.Proofs.YtlhdapckenjigaaGreatDoor.L (T5 V VsAt t5Cells vCells cell_of_heap)
set_option maxRecDepth 100000

theorem eq_list {a b : ByteArray} : a = b ↔ (a.toList == b.toList) = true := by
  rw [beq_iff_eq, ByteArray.toList_eq, ByteArray.toList_eq]
  constructor
  · rintro rfl; rfl
  · intro h; exact ByteArray.ext (Array.ext' h)

set_option maxHeartbeats 2000000 in
/-- What a form asks that is a word: the closure. -/
theorem ocl_any (form : ByteArray) (t : T5) (ka : Option Addr) (kn kc bf : Nat) (hz : t.tx.size ≤ 1000000) (hu : form.size ≤ 1000000) (w : World)
    (h1 : w.cell? ⟨bf, 0, none⟩ = some (.string form)) :
    Calls Tryz.prog 161 #[vA t (.slice ka kn kc), .pointer (some ⟨bf, 0, none⟩)] w fun e w' => e = .returned (res (wordO form t)) ∧ Below w.heap.size w w' := by
  obtain ⟨k, tx, un, wh, fl⟩ := t
  have hB : Below w.heap.size w (w.alloc (.cells #[.int .i64 k, .string tx, .string un, .bool wh, .bool fl, .slice ka kn kc] 57)) := (Below.refl _ w).alloc (Nat.le_refl _) _
  have hX := World.alloc_heap_new w (.cells #[.int .i64 k, .string tx, .string un, .bool wh, .bool fl, .slice ka kn kc] 57)
  have HR : Hid (wordO form ⟨k, tx, un, wh, fl⟩ = if k = 1 ∧ foldS tx = foldS form then some form else none) := rfl
  have HF1 : Hid (∀ w', Below (w.alloc (.cells #[.int .i64 k, .string tx, .string un, .bool wh, .bool fl, .slice ka kn kc] 57)).heap.size (w.alloc (.cells #[.int .i64 k, .string tx, .string un, .bool wh, .bool fl, .slice ka kn kc] 57)) w' → Calls Tryz.prog 72 #[.string tx] w' fun e w'' => e = .returned (.string (foldS tx)) ∧ Below (w.alloc (.cells #[.int .i64 k, .string tx, .string un, .bool wh, .bool fl, .slice ka kn kc] 57)).heap.size (w.alloc (.cells #[.int .i64 k, .string tx, .string un, .bool wh, .bool fl, .slice ka kn kc] 57)) w'') := fun w' hb => (fold_any tx w' (Nat.le_trans hz (by decide))).mono fun e w'' h => ⟨h.1, hb.trans (h.2.mono hb.size)⟩
  have HF2 : Hid (∀ w', Below (w.alloc (.cells #[.int .i64 k, .string tx, .string un, .bool wh, .bool fl, .slice ka kn kc] 57)).heap.size (w.alloc (.cells #[.int .i64 k, .string tx, .string un, .bool wh, .bool fl, .slice ka kn kc] 57)) w' → Calls Tryz.prog 72 #[.string form] w' fun e w'' => e = .returned (.string (foldS form)) ∧ Below (w.alloc (.cells #[.int .i64 k, .string tx, .string un, .bool wh, .bool fl, .slice ka kn kc] 57)).heap.size (w.alloc (.cells #[.int .i64 k, .string tx, .string un, .bool wh, .bool fl, .slice ka kn kc] 57)) w'') := fun w' hb => (fold_any form w' (Nat.le_trans hu (by decide))).mono fun e w'' h => ⟨h.1, hb.trans (h.2.mono hb.size)⟩
  have HK : Hid (∀ w', Below (w.alloc (.cells #[.int .i64 k, .string tx, .string un, .bool wh, .bool fl, .slice ka kn kc] 57)).heap.size (w.alloc (.cells #[.int .i64 k, .string tx, .string un, .bool wh, .bool fl, .slice ka kn kc] 57)) w' → (w'.cell? ⟨w.heap.size, 0, none⟩ = some (.int .i64 k) ∧ w'.cell? ⟨w.heap.size, 1, none⟩ = some (.string tx)) ∧ w'.cell? ⟨bf, 0, none⟩ = some (.string form)) := fun w' hb => by
    have hx := (hb.block w.heap.size (Array.getElem?_eq_some_iff.1 hX).1).trans hX
    exact ⟨⟨L.cellAt hx 0, L.cellAt hx 1⟩, (hB.trans (hb.mono hB.size)).cell (p := ⟨bf, 0, none⟩) (P.lt_of_cell h1) |>.trans h1⟩
  have HFIN : Hid (∀ w', Below (w.alloc (.cells #[.int .i64 k, .string tx, .string un, .bool wh, .bool fl, .slice ka kn kc] 57)).heap.size (w.alloc (.cells #[.int .i64 k, .string tx, .string un, .bool wh, .bool fl, .slice ka kn kc] 57)) w' → Below w.heap.size w w') := fun w' hb => hB.trans (hb.mono hB.size)
  generalize wordO form ⟨k, tx, un, wh, fl⟩ = R at *
  have HEQ : Hid (foldS tx = foldS form ↔ ((foldS tx).toList == (foldS form).toList) = true) := eq_list
  generalize foldS tx = f1 at *
  generalize foldS form = f2 at *
  show Calls Tryz.prog 161 #[.agg #[.int .i64 k, .string tx, .string un, .bool wh, .bool fl, .slice ka kn kc], .pointer (some ⟨bf, 0, none⟩)] w _
  clear hX hB h1
  have gd := Below.refl (w.alloc (.cells #[.int .i64 k, .string tx, .string un, .bool wh, .bool fl, .slice ka kn kc] 57)).heap.size (w.alloc (.cells #[.int .i64 k, .string tx, .string un, .bool wh, .bool fl, .slice ka kn kc] 57))
  have ge : Below (w.alloc (.cells #[.int .i64 k, .string tx, .string un, .bool wh, .bool fl, .slice ka kn kc] 57)).heap.size (w.alloc (.cells #[.int .i64 k, .string tx, .string un, .bool wh, .bool fl, .slice ka kn kc] 57)) (w.alloc (.cells #[.int .i64 k, .string tx, .string un, .bool wh, .bool fl, .slice ka kn kc] 57)).drew := gd.drew
  go_enter Tryz.func161, Tryz.ntmps161
  go_upto_region 1 with (fail)
  generalize w.alloc (.cells #[.int .i64 k, .string tx, .string un, .bool wh, .bool fl, .slice ka kn kc] 57) = W at *
  by_cases hk : k = 1
  · have hk1 : (k != 1) = false := by rw [hk]; rfl
    have hk2 : (k == 1) = true := by rw [hk]; rfl
    cases hq : (f1.toList == f2.toList) with
    | true =>
      have HN : Hid (R = some form) := by show _ = _; rw [HR.out, if_pos ⟨hk, HEQ.out.2 hq⟩]
      clear HR HEQ hk
      go_region_held3 (fun w' => (w'.cell? ⟨w.heap.size, 0, none⟩ = some (.int .i64 k) ∧ w'.cell? ⟨w.heap.size, 1, none⟩ = some (.string tx)) ∧ w'.cell? ⟨bf, 0, none⟩ = some (.string form))
        (first | with_reducible exact HK.out _ gd | with_reducible exact HK.out _ ge | with_reducible exact HK.out _ ga | with_reducible exact HK.out _ gb)
        (first
          | (go_at_call 72; with_reducible refine (HF1.out _ ge).mono ?_; rintro e wa ⟨rfl, ga⟩)
          | (go_at_call 72; with_reducible refine (HF2.out _ ga).mono ?_; rintro e wb ⟨rfl, gb⟩))
      have hend := HFIN.out _ gb
      obtain ⟨⟨c0, c1⟩, c2⟩ := HK.out _ gb
      go_wp2
      go_ret2
      exact ⟨by rw [HN.out]; rfl, hend⟩
    | false =>
      have HN : Hid (R = none) := by
        show _ = _
        rw [HR.out, if_neg]
        rintro ⟨_, h⟩
        rw [HEQ.out.1 h] at hq
        cases hq
      clear HR HEQ hk
      go_region_held3 (fun w' => (w'.cell? ⟨w.heap.size, 0, none⟩ = some (.int .i64 k) ∧ w'.cell? ⟨w.heap.size, 1, none⟩ = some (.string tx)) ∧ w'.cell? ⟨bf, 0, none⟩ = some (.string form))
        (first | with_reducible exact HK.out _ gd | with_reducible exact HK.out _ ge | with_reducible exact HK.out _ ga | with_reducible exact HK.out _ gb)
        (first
          | (go_at_call 72; with_reducible refine (HF1.out _ ge).mono ?_; rintro e wa ⟨rfl, ga⟩)
          | (go_at_call 72; with_reducible refine (HF2.out _ ga).mono ?_; rintro e wb ⟨rfl, gb⟩))
      have hend := HFIN.out _ gb
      go_wp2
      go_ret2
      exact ⟨by rw [HN.out]; rfl, hend⟩
  · have hk1 : (k != 1) = true := by simpa using hk
    have hk2 : (k == 1) = false := beq_eq_false_iff_ne.2 hk
    have HN : Hid (R = none) := by
      show _ = _
      rw [HR.out, if_neg]
      rintro ⟨h, _⟩
      exact hk h
    clear HR HEQ hk
    have HFD := L.hid_mk (HFIN.out _ gd)
    obtain ⟨⟨c0, c1⟩, c2⟩ := HK.out _ gd
    clear HK HF1 HF2 HFIN gd ge
    go_quiet (fail)
    go_wp2
    go_ret2
    exact ⟨by rw [HN.out]; rfl, by first | exact HFD.out.drewN _ | exact HFD.out.trans ((Kept.drewN w.heap.size _ nq).below HFD.out.size)⟩
end Go.Proofs.YtlhdapckenjigaaGreatDoor.Z
namespace Go.Proofs.YtlhdapckenjigaaGreatDoor.Z
open Go.RowKit
open Go.Proofs.YtlhdapckenjigaaGreatDoor.L (T5 V VsAt t5Cells vCells cell_of_heap)
set_option maxRecDepth 100000

/-- The closure that asks makes. -/
inductive AskAt (w : World) : Value → Ask → Prop
  | num (f : Fits) (up : Bool) (bf bu bn : Nat) (h1 : One w bf (.func (.func f.f) #[] #[])) (h2 : One w bu (.bool up)) (h3 : One w bn (.string f.unit)) : AskAt w (.func (.func 156) #[] #[.pointer (some ⟨bf, 0, none⟩), .pointer (some ⟨bu, 0, none⟩), .pointer (some ⟨bn, 0, none⟩)]) (.num f up)
  | col : AskAt w (.func (.func 141) #[] #[]) .col
  | word (form : ByteArray) (b : Nat) (h : One w b (.string form)) : AskAt w (.func (.func 161) #[] #[.pointer (some ⟨b, 0, none⟩)]) (.word form)
theorem one_new {w : World} {v : Value} (t : TypeId) : One (w.alloc (.cells #[v] t)) w.heap.size v := L.cellAt (World.alloc_heap_new w _) 0
set_option maxHeartbeats 1000000 in
theorem whole_mk (f : Fits) (form : ByteArray) (up : Bool) (hs : form.size ≤ 1000000) (hup : Lib.hasSuffix form.data.toList [43, 62] = up) (w : World) :
    Calls Tryz.prog 137 #[.string form, .string f.unit, .func (.func f.f) #[] #[]] w fun e w' => ∃ v, e = .returned v ∧ AskAt w' v (.num f up) ∧ Below w.heap.size w w' := by
  have h1 : One (w.alloc (.cells #[.string f.unit] 9)) w.heap.size (.string f.unit) := one_new 9
  have hB1 : Below w.heap.size w (w.alloc (.cells #[.string f.unit] 9)) := (Below.refl _ w).alloc (Nat.le_refl _) _
  have h2 : One ((w.alloc (.cells #[.string f.unit] 9)).alloc (.cells #[.func (.func f.f) #[] #[]] 165)) (w.alloc (.cells #[.string f.unit] 9)).heap.size (.func (.func f.f) #[] #[]) := one_new 165
  have hB2 : Below (w.alloc (.cells #[.string f.unit] 9)).heap.size (w.alloc (.cells #[.string f.unit] 9)) ((w.alloc (.cells #[.string f.unit] 9)).alloc (.cells #[.func (.func f.f) #[] #[]] 165)) := (Below.refl _ _).alloc (Nat.le_refl _) _
  have h12 := h1.keep hB2
  have hB12 : Below w.heap.size w ((w.alloc (.cells #[.string f.unit] 9)).alloc (.cells #[.func (.func f.f) #[] #[]] 165)) := hB1.trans (hB2.mono hB1.size)
  have hsf := suffix_any form ⟨#[43, 62]⟩ (by omega) ((w.alloc (.cells #[.string f.unit] 9)).alloc (.cells #[.func (.func f.f) #[] #[]] 165))
  rw [show Lib.hasSuffix form.data.toList (⟨#[43, 62]⟩ : ByteArray).data.toList = up from hup] at hsf
  have HEND : Hid (∀ W, W = ((w.alloc (.cells #[.string f.unit] 9)).alloc (.cells #[.func (.func f.f) #[] #[]] 165)) → AskAt (W.alloc (.cells #[.bool up] 4)) (.func (.func 156) #[] #[.pointer (some ⟨(w.alloc (.cells #[.string f.unit] 9)).heap.size, 0, none⟩), .pointer (some ⟨W.heap.size, 0, none⟩), .pointer (some ⟨w.heap.size, 0, none⟩)]) (.num f up) ∧ Below w.heap.size w (W.alloc (.cells #[.bool up] 4))) := by
    rintro W rfl
    have hB3 : Below ((w.alloc (.cells #[.string f.unit] 9)).alloc (.cells #[.func (.func f.f) #[] #[]] 165)).heap.size ((w.alloc (.cells #[.string f.unit] 9)).alloc (.cells #[.func (.func f.f) #[] #[]] 165)) (((w.alloc (.cells #[.string f.unit] 9)).alloc (.cells #[.func (.func f.f) #[] #[]] 165)).alloc (.cells #[.bool up] 4)) := (Below.refl _ _).alloc (Nat.le_refl _) _
    exact ⟨.num f up _ _ _ (h2.keep hB3) (one_new 4) (h12.keep hB3), hB12.trans (hB3.mono hB12.size)⟩
  clear h1 h2 hB1 hB2 h12 hB12
  have hend := HEND.out _ rfl
  have q : ∀ (x : World) (o : Obj), (x.alloc o).heap.size = x.heap.size + 1 := fun x o => by simp
  simp only [q] at hend
  clear q
  generalize f.unit = us at *
  generalize f.f = fn at *
  clear hup HEND
  go_enter Tryz.func137, Tryz.ntmps137
  go_wp2_with (go_at_call 155; fail)
  refine hsf.mono ?_
  rintro e w1 ⟨rfl, rfl⟩
  clear hsf
  go_wp2
  go_ret
  exact ⟨_, rfl, hend.1, hend.2⟩
set_option maxHeartbeats 1000000 in
theorem word_mk (form : ByteArray) (w : World) :
    Calls Tryz.prog 142 #[.string form] w fun e w' => ∃ v, e = .returned v ∧ AskAt w' v (.word form) ∧ Below w.heap.size w w' := by
  have hB1 : Below w.heap.size w (w.alloc (.cells #[.string form] 9)) := (Below.refl _ w).alloc (Nat.le_refl _) _
  have hend : AskAt (w.alloc (.cells #[.string form] 9)) (.func (.func 161) #[] #[.pointer (some ⟨w.heap.size, 0, none⟩)]) (.word form) := .word form _ (one_new 9)
  go_enter Tryz.func142, Tryz.ntmps142
  go_wp2
  go_ret
  exact ⟨_, rfl, hend, hB1⟩
/-- The forms. -/
theorem suf_of {form : ByteArray} {l : List UInt8} (h : form.toList = l) : Lib.hasSuffix form.data.toList [43, 62] = Lib.hasSuffix l [43, 62] := by
  rw [← h, ByteArray.toList_eq]
set_option maxHeartbeats 2000000 in
theorem asks_any (form : ByteArray) (hs : form.size ≤ 1000000) (w : World) :
    Calls Tryz.prog 111 #[.string form] w fun e w' => ∃ v, e = .returned v ∧ AskAt w' v (asksA form) ∧ Below w.heap.size w w' := by
  have HA : Hid (asksA form = _) := rfl
  unfold asksA at HA
  by_cases e0 : form.toList = [60, 108, 101, 110, 62]
  · have hm := whole_mk .len form false hs ((suf_of e0).trans (by decide)) w
    have HQ : Hid (asksA form = .num .len false) := by show _ = _; unfold asksA; rw [if_pos e0]
    rw [HQ.out]
    have b0 : (form.toList == [60, 108, 101, 110, 62]) = true := by simpa using e0
    clear HA HQ e0
    have hm : Calls Tryz.prog 137 #[.string form, .string ⟨#[112, 120]⟩, .func (.func 138) #[] #[]] w fun e w' => ∃ v, e = .returned v ∧ AskAt w' v (.num .len false) ∧ Below w.heap.size w w' := hm
    go_enter Tryz.func111, Tryz.ntmps111
    go_wp2_with (go_at_call 137; fail)
    refine hm.mono ?_
    rintro e w1 ⟨v, rfl, ha, hb⟩
    have hv : ∃ g xs, v = .func g #[] xs := by cases ha; exact ⟨_, _, rfl⟩
    obtain ⟨g, xs, rfl⟩ := hv
    clear hm
    go_wp2
    go_ret
    exact ⟨_, rfl, ha, hb⟩
  by_cases e1 : form.toList = [60, 108, 101, 110, 43, 62]
  · have hm := whole_mk .len form true hs ((suf_of e1).trans (by decide)) w
    have HQ : Hid (asksA form = .num .len true) := by show _ = _; unfold asksA; rw [if_neg e0]; rw [if_pos e1]
    rw [HQ.out]
    have b0 : (form.toList == [60, 108, 101, 110, 62]) = false := by simpa using e0
    have b1 : (form.toList == [60, 108, 101, 110, 43, 62]) = true := by simpa using e1
    clear HA HQ e0 e1
    have hm : Calls Tryz.prog 137 #[.string form, .string ⟨#[112, 120]⟩, .func (.func 138) #[] #[]] w fun e w' => ∃ v, e = .returned v ∧ AskAt w' v (.num .len true) ∧ Below w.heap.size w w' := hm
    go_enter Tryz.func111, Tryz.ntmps111
    go_wp2_with (go_at_call 137; fail)
    refine hm.mono ?_
    rintro e w1 ⟨v, rfl, ha, hb⟩
    have hv : ∃ g xs, v = .func g #[] xs := by cases ha; exact ⟨_, _, rfl⟩
    obtain ⟨g, xs, rfl⟩ := hv
    clear hm
    go_wp2
    go_ret
    exact ⟨_, rfl, ha, hb⟩
  by_cases e2 : form.toList = [60, 112, 99, 116, 62]
  · have hm := whole_mk .pct form false hs ((suf_of e2).trans (by decide)) w
    have HQ : Hid (asksA form = .num .pct false) := by show _ = _; unfold asksA; rw [if_neg e0]; rw [if_neg e1]; rw [if_pos e2]
    rw [HQ.out]
    have b0 : (form.toList == [60, 108, 101, 110, 62]) = false := by simpa using e0
    have b1 : (form.toList == [60, 108, 101, 110, 43, 62]) = false := by simpa using e1
    have b2 : (form.toList == [60, 112, 99, 116, 62]) = true := by simpa using e2
    clear HA HQ e0 e1 e2
    have hm : Calls Tryz.prog 137 #[.string form, .string ⟨#[37]⟩, .func (.func 139) #[] #[]] w fun e w' => ∃ v, e = .returned v ∧ AskAt w' v (.num .pct false) ∧ Below w.heap.size w w' := hm
    go_enter Tryz.func111, Tryz.ntmps111
    go_wp2_with (go_at_call 137; fail)
    refine hm.mono ?_
    rintro e w1 ⟨v, rfl, ha, hb⟩
    have hv : ∃ g xs, v = .func g #[] xs := by cases ha; exact ⟨_, _, rfl⟩
    obtain ⟨g, xs, rfl⟩ := hv
    clear hm
    go_wp2
    go_ret
    exact ⟨_, rfl, ha, hb⟩
  by_cases e3 : form.toList = [60, 112, 99, 116, 43, 62]
  · have hm := whole_mk .pct form true hs ((suf_of e3).trans (by decide)) w
    have HQ : Hid (asksA form = .num .pct true) := by show _ = _; unfold asksA; rw [if_neg e0]; rw [if_neg e1]; rw [if_neg e2]; rw [if_pos e3]
    rw [HQ.out]
    have b0 : (form.toList == [60, 108, 101, 110, 62]) = false := by simpa using e0
    have b1 : (form.toList == [60, 108, 101, 110, 43, 62]) = false := by simpa using e1
    have b2 : (form.toList == [60, 112, 99, 116, 62]) = false := by simpa using e2
    have b3 : (form.toList == [60, 112, 99, 116, 43, 62]) = true := by simpa using e3
    clear HA HQ e0 e1 e2 e3
    have hm : Calls Tryz.prog 137 #[.string form, .string ⟨#[37]⟩, .func (.func 139) #[] #[]] w fun e w' => ∃ v, e = .returned v ∧ AskAt w' v (.num .pct true) ∧ Below w.heap.size w w' := hm
    go_enter Tryz.func111, Tryz.ntmps111
    go_wp2_with (go_at_call 137; fail)
    refine hm.mono ?_
    rintro e w1 ⟨v, rfl, ha, hb⟩
    have hv : ∃ g xs, v = .func g #[] xs := by cases ha; exact ⟨_, _, rfl⟩
    obtain ⟨g, xs, rfl⟩ := hv
    clear hm
    go_wp2
    go_ret
    exact ⟨_, rfl, ha, hb⟩
  by_cases e4 : form.toList = [60, 105, 110, 116, 62]
  · have hm := whole_mk .int form false hs ((suf_of e4).trans (by decide)) w
    have HQ : Hid (asksA form = .num .int false) := by show _ = _; unfold asksA; rw [if_neg e0]; rw [if_neg e1]; rw [if_neg e2]; rw [if_neg e3]; rw [if_pos e4]
    rw [HQ.out]
    have b0 : (form.toList == [60, 108, 101, 110, 62]) = false := by simpa using e0
    have b1 : (form.toList == [60, 108, 101, 110, 43, 62]) = false := by simpa using e1
    have b2 : (form.toList == [60, 112, 99, 116, 62]) = false := by simpa using e2
    have b3 : (form.toList == [60, 112, 99, 116, 43, 62]) = false := by simpa using e3
    have b4 : (form.toList == [60, 105, 110, 116, 62]) = true := by simpa using e4
    clear HA HQ e0 e1 e2 e3 e4
    have hm : Calls Tryz.prog 137 #[.string form, .string ⟨#[]⟩, .func (.func 140) #[] #[]] w fun e w' => ∃ v, e = .returned v ∧ AskAt w' v (.num .int false) ∧ Below w.heap.size w w' := hm
    go_enter Tryz.func111, Tryz.ntmps111
    go_wp2_with (go_at_call 137; fail)
    refine hm.mono ?_
    rintro e w1 ⟨v, rfl, ha, hb⟩
    have hv : ∃ g xs, v = .func g #[] xs := by cases ha; exact ⟨_, _, rfl⟩
    obtain ⟨g, xs, rfl⟩ := hv
    clear hm
    go_wp2
    go_ret
    exact ⟨_, rfl, ha, hb⟩
  by_cases e5 : form.toList = [60, 105, 110, 116, 43, 62]
  · have hm := whole_mk .int form true hs ((suf_of e5).trans (by decide)) w
    have HQ : Hid (asksA form = .num .int true) := by show _ = _; unfold asksA; rw [if_neg e0]; rw [if_neg e1]; rw [if_neg e2]; rw [if_neg e3]; rw [if_neg e4]; rw [if_pos e5]
    rw [HQ.out]
    have b0 : (form.toList == [60, 108, 101, 110, 62]) = false := by simpa using e0
    have b1 : (form.toList == [60, 108, 101, 110, 43, 62]) = false := by simpa using e1
    have b2 : (form.toList == [60, 112, 99, 116, 62]) = false := by simpa using e2
    have b3 : (form.toList == [60, 112, 99, 116, 43, 62]) = false := by simpa using e3
    have b4 : (form.toList == [60, 105, 110, 116, 62]) = false := by simpa using e4
    have b5 : (form.toList == [60, 105, 110, 116, 43, 62]) = true := by simpa using e5
    clear HA HQ e0 e1 e2 e3 e4 e5
    have hm : Calls Tryz.prog 137 #[.string form, .string ⟨#[]⟩, .func (.func 140) #[] #[]] w fun e w' => ∃ v, e = .returned v ∧ AskAt w' v (.num .int true) ∧ Below w.heap.size w w' := hm
    go_enter Tryz.func111, Tryz.ntmps111
    go_wp2_with (go_at_call 137; fail)
    refine hm.mono ?_
    rintro e w1 ⟨v, rfl, ha, hb⟩
    have hv : ∃ g xs, v = .func g #[] xs := by cases ha; exact ⟨_, _, rfl⟩
    obtain ⟨g, xs, rfl⟩ := hv
    clear hm
    go_wp2
    go_ret
    exact ⟨_, rfl, ha, hb⟩
  by_cases e6 : form.toList = [60, 99, 111, 108, 111, 114, 62]
  · have HQ : Hid (asksA form = .col) := by show _ = _; unfold asksA; rw [if_neg e0]; rw [if_neg e1]; rw [if_neg e2]; rw [if_neg e3]; rw [if_neg e4]; rw [if_neg e5]; rw [if_pos e6]
    rw [HQ.out]
    have b0 : (form.toList == [60, 108, 101, 110, 62]) = false := by simpa using e0
    have b1 : (form.toList == [60, 108, 101, 110, 43, 62]) = false := by simpa using e1
    have b2 : (form.toList == [60, 112, 99, 116, 62]) = false := by simpa using e2
    have b3 : (form.toList == [60, 112, 99, 116, 43, 62]) = false := by simpa using e3
    have b4 : (form.toList == [60, 105, 110, 116, 62]) = false := by simpa using e4
    have b5 : (form.toList == [60, 105, 110, 116, 43, 62]) = false := by simpa using e5
    have b6 : (form.toList == [60, 99, 111, 108, 111, 114, 62]) = true := by simpa using e6
    clear HA HQ e0 e1 e2 e3 e4 e5 e6
    go_enter Tryz.func111, Tryz.ntmps111
    go_wp2
    go_ret
    exact ⟨_, rfl, .col, Below.refl _ _⟩
  have HQ : Hid (asksA form = .word form) := by show _ = _; unfold asksA; rw [if_neg e0]; rw [if_neg e1]; rw [if_neg e2]; rw [if_neg e3]; rw [if_neg e4]; rw [if_neg e5]; rw [if_neg e6]
  rw [HQ.out]
  have b0 : (form.toList == [60, 108, 101, 110, 62]) = false := by simpa using e0
  have b1 : (form.toList == [60, 108, 101, 110, 43, 62]) = false := by simpa using e1
  have b2 : (form.toList == [60, 112, 99, 116, 62]) = false := by simpa using e2
  have b3 : (form.toList == [60, 112, 99, 116, 43, 62]) = false := by simpa using e3
  have b4 : (form.toList == [60, 105, 110, 116, 62]) = false := by simpa using e4
  have b5 : (form.toList == [60, 105, 110, 116, 43, 62]) = false := by simpa using e5
  have b6 : (form.toList == [60, 99, 111, 108, 111, 114, 62]) = false := by simpa using e6
  have hm := word_mk form w
  clear HA HQ e0 e1 e2 e3 e4 e5 e6
  go_enter Tryz.func111, Tryz.ntmps111
  go_wp2_with (go_at_call 142; fail)
  refine hm.mono ?_
  rintro e w1 ⟨v, rfl, ha, hb⟩
  have hv : ∃ g xs, v = .func g #[] xs := by cases ha; exact ⟨_, _, rfl⟩
  obtain ⟨g, xs, rfl⟩ := hv
  clear hm
  go_wp2
  go_ret
  exact ⟨_, rfl, ha, hb⟩

theorem word_is {form f : ByteArray} (h : asksA form = .word f) : f = form := by
  unfold asksA at h
  repeat' split at h
  all_goals first
    | (cases h; done)
    | (cases h; rfl)
set_option maxHeartbeats 2000000 in
theorem part_any (form : ByteArray) (t : T5) (ka : Option Addr) (kn kc : Nat) (hs : form.size ≤ 1000000) (hz : t.tx.size ≤ 100000) (hu : t.un.size ≤ 1000000) (w : World) (hok : Ok w) :
    Calls Tryz.prog 76 #[.string form, vA t (.slice ka kn kc)] w fun e w' => e = .returned (res (partO form t kn)) ∧ Below w.heap.size w w' := by
  obtain ⟨k, tx, un, wh, fl⟩ := t
  have hB0 : Below w.heap.size w (w.alloc (.cells #[.int .i64 k, .string tx, .string un, .bool wh, .bool fl, .slice ka kn kc] 57)) := (Below.refl _ w).alloc (Nat.le_refl _) _
  show Calls Tryz.prog 76 #[.string form, .agg #[.int .i64 k, .string tx, .string un, .bool wh, .bool fl, .slice ka kn kc]] w _
  by_cases h0 : 0 < kn
  · have HN : Hid (partO form ⟨k, tx, un, wh, fl⟩ kn = none) := by show _ = _; unfold partO; rw [if_pos h0]
    rw [HN.out]
    have hd : decide ((0 : Int) < (kn : Int)) = true := decide_eq_true (by omega)
    have hi : (0 : Int) < (kn : Int) := by omega
    have HB := L.hid_mk hB0
    clear HN hok hB0
    go_enter Tryz.func76, Tryz.ntmps76
    go_wp2
    go_ret2
    exact ⟨rfl, HB.out⟩
  have HN : Hid (partO form ⟨k, tx, un, wh, fl⟩ kn = askO (asksA form) ⟨k, tx, un, wh, fl⟩) := by show _ = _; unfold partO; rw [if_neg h0]
  rw [HN.out]
  obtain ⟨rs, rb, er, -, -⟩ := res_form (askO (asksA form) ⟨k, tx, un, wh, fl⟩)
  rw [er]
  have HRS := L.hid_mk er
  have HA0 := L.hid_mk (fun w' => asks_any form hs w')
  have hk0 : kn = 0 := by omega
  subst hk0
  have HK : Hid (∀ w', Below (w.alloc (.cells #[.int .i64 k, .string tx, .string un, .bool wh, .bool fl, .slice ka 0 kc] 57)).heap.size (w.alloc (.cells #[.int .i64 k, .string tx, .string un, .bool wh, .bool fl, .slice ka 0 kc] 57)) w' → (w'.cell? ⟨w.heap.size, 0, none⟩ = some (.int .i64 k) ∧ w'.cell? ⟨w.heap.size, 1, none⟩ = some (.string tx)) ∧ (w'.cell? ⟨w.heap.size, 2, none⟩ = some (.string un) ∧ w'.cell? ⟨w.heap.size, 3, none⟩ = some (.bool wh)) ∧ w'.cell? ⟨w.heap.size, 4, none⟩ = some (.bool fl) ∧ w'.cell? ⟨w.heap.size, 5, none⟩ = some (.slice ka 0 kc)) := fun w' hb => by
    have hX := World.alloc_heap_new w (.cells #[.int .i64 k, .string tx, .string un, .bool wh, .bool fl, .slice ka 0 kc] 57)
    have hx := (hb.block w.heap.size (Array.getElem?_eq_some_iff.1 hX).1).trans hX
    exact ⟨⟨L.cellAt hx 0, L.cellAt hx 1⟩, ⟨L.cellAt hx 2, L.cellAt hx 3⟩, L.cellAt hx 4, L.cellAt hx 5⟩
  have HFIN : Hid (∀ w', Below (w.alloc (.cells #[.int .i64 k, .string tx, .string un, .bool wh, .bool fl, .slice ka 0 kc] 57)).heap.size (w.alloc (.cells #[.int .i64 k, .string tx, .string un, .bool wh, .bool fl, .slice ka 0 kc] 57)) w' → Below w.heap.size w w') := fun w' hb => hB0.trans (hb.mono hB0.size)
  clear HN h0 er
  cases hA : asksA form with
  | num f up =>
    rw [hA] at HA0 HRS
    have HA : Hid (∀ w', Below (w.alloc (.cells #[.int .i64 k, .string tx, .string un, .bool wh, .bool fl, .slice ka 0 kc] 57)).heap.size (w.alloc (.cells #[.int .i64 k, .string tx, .string un, .bool wh, .bool fl, .slice ka 0 kc] 57)) w' → Calls Tryz.prog 111 #[.string form] w' fun e w'' => (∃ bf bu bn, e = .returned (.func (.func 156) #[] #[.pointer (some ⟨bf, 0, none⟩), .pointer (some ⟨bu, 0, none⟩), .pointer (some ⟨bn, 0, none⟩)]) ∧ Hid (∀ w3, Below w''.heap.size w'' w3 → Calls Tryz.prog 156 #[.agg #[.int .i64 k, .string tx, .string un, .bool wh, .bool fl, .slice ka 0 kc], .pointer (some ⟨bf, 0, none⟩), .pointer (some ⟨bu, 0, none⟩), .pointer (some ⟨bn, 0, none⟩)] w3 fun e w4 => e = .returned (.tuple #[.string rs, .bool rb]) ∧ Below (w.alloc (.cells #[.int .i64 k, .string tx, .string un, .bool wh, .bool fl, .slice ka 0 kc] 57)).heap.size (w.alloc (.cells #[.int .i64 k, .string tx, .string un, .bool wh, .bool fl, .slice ka 0 kc] 57)) w4)) ∧ Below (w.alloc (.cells #[.int .i64 k, .string tx, .string un, .bool wh, .bool fl, .slice ka 0 kc] 57)).heap.size (w.alloc (.cells #[.int .i64 k, .string tx, .string un, .bool wh, .bool fl, .slice ka 0 kc] 57)) w'') := fun w' hb => (HA0.out w').mono fun e w'' h => by
      obtain ⟨v, he, ha, hb2⟩ := h
      have hb3 := hb.trans (hb2.mono hb.size)
      have hok3 : Ok w'' := hok.keep (hB0.trans (hb3.mono hB0.size))
      cases ha with
      | num _ _ bf bu bn h1 h2 h3 =>
        refine ⟨⟨bf, bu, bn, he, fun w3 hb4 => (wcl_any f up ⟨k, tx, un, wh, fl⟩ ka 0 kc bf bu bn hz hu w3 (W.pow_below hok3.pow hb4) (h1.keep hb4) (h2.keep hb4) (h3.keep hb4)).mono fun e w4 h => ⟨h.1.trans (congrArg Ending.returned HRS.out), ?_⟩⟩, hb3⟩
        have hb5 := hb3.trans (hb4.mono hb3.size)
        exact hb5.trans (h.2.mono hb5.size)
    clear HA0 hok hB0 HRS
    have gd := Below.refl (w.alloc (.cells #[.int .i64 k, .string tx, .string un, .bool wh, .bool fl, .slice ka 0 kc] 57)).heap.size (w.alloc (.cells #[.int .i64 k, .string tx, .string un, .bool wh, .bool fl, .slice ka 0 kc] 57))
    have ge : Below (w.alloc (.cells #[.int .i64 k, .string tx, .string un, .bool wh, .bool fl, .slice ka 0 kc] 57)).heap.size (w.alloc (.cells #[.int .i64 k, .string tx, .string un, .bool wh, .bool fl, .slice ka 0 kc] 57)) (w.alloc (.cells #[.int .i64 k, .string tx, .string un, .bool wh, .bool fl, .slice ka 0 kc] 57)).drew := gd.drew
    clear hs hz hu
    go_enter Tryz.func76, Tryz.ntmps76
    go_upto_region 3 with (fail)
    generalize (w.alloc (.cells #[.int .i64 k, .string tx, .string un, .bool wh, .bool fl, .slice ka 0 kc] 57)) = X at *
    go_region_held3 (fun w' => (w'.cell? ⟨w.heap.size, 0, none⟩ = some (.int .i64 k) ∧ w'.cell? ⟨w.heap.size, 1, none⟩ = some (.string tx)) ∧ (w'.cell? ⟨w.heap.size, 2, none⟩ = some (.string un) ∧ w'.cell? ⟨w.heap.size, 3, none⟩ = some (.bool wh)) ∧ w'.cell? ⟨w.heap.size, 4, none⟩ = some (.bool fl) ∧ w'.cell? ⟨w.heap.size, 5, none⟩ = some (.slice ka 0 kc))
      (first | with_reducible exact HK.out _ gd | with_reducible exact HK.out _ ge | with_reducible exact HK.out _ ga | with_reducible exact HK.out _ gb)
      (first
        | (go_at_call 111; with_reducible refine (HA.out _ ge).mono ?_; rintro e wa ⟨⟨bf, bu, bn, rfl, hcl⟩, ga⟩)
        | (go_at_call 156; with_reducible refine (hcl.out _ (Below.refl _ _)).mono ?_; rintro e wb ⟨rfl, gb⟩))
    have hend := HFIN.out _ gb
    go_wp2
    go_ret2
    exact ⟨rfl, hend⟩
  | col =>
    rw [hA] at HA0 HRS
    have HA : Hid (∀ w', Below (w.alloc (.cells #[.int .i64 k, .string tx, .string un, .bool wh, .bool fl, .slice ka 0 kc] 57)).heap.size (w.alloc (.cells #[.int .i64 k, .string tx, .string un, .bool wh, .bool fl, .slice ka 0 kc] 57)) w' → Calls Tryz.prog 111 #[.string form] w' fun e w'' => (e = .returned (.func (.func 141) #[] #[]) ∧ Hid (∀ w3, Below w''.heap.size w'' w3 → Calls Tryz.prog 141 #[.agg #[.int .i64 k, .string tx, .string un, .bool wh, .bool fl, .slice ka 0 kc]] w3 fun e w4 => e = .returned (.tuple #[.string rs, .bool rb]) ∧ Below (w.alloc (.cells #[.int .i64 k, .string tx, .string un, .bool wh, .bool fl, .slice ka 0 kc] 57)).heap.size (w.alloc (.cells #[.int .i64 k, .string tx, .string un, .bool wh, .bool fl, .slice ka 0 kc] 57)) w4)) ∧ Below (w.alloc (.cells #[.int .i64 k, .string tx, .string un, .bool wh, .bool fl, .slice ka 0 kc] 57)).heap.size (w.alloc (.cells #[.int .i64 k, .string tx, .string un, .bool wh, .bool fl, .slice ka 0 kc] 57)) w'') := fun w' hb => (HA0.out w').mono fun e w'' h => by
      obtain ⟨v, he, ha, hb2⟩ := h
      have hb3 := hb.trans (hb2.mono hb.size)
      have hok3 : Ok w'' := hok.keep (hB0.trans (hb3.mono hB0.size))
      cases ha with
      | col =>
        refine ⟨⟨he, fun w3 hb4 => (color_any (hok3.col.keep hb4) ⟨k, tx, un, wh, fl⟩ ka 0 kc (by show tx.size ≤ 1000000; have : tx.size ≤ 100000 := hz; omega)).mono fun e w4 h => ⟨h.1.trans (congrArg Ending.returned HRS.out), ?_⟩⟩, hb3⟩
        have hb5 := hb3.trans (hb4.mono hb3.size)
        exact hb5.trans (h.2.mono hb5.size)
    clear HA0 hok hB0 HRS
    have gd := Below.refl (w.alloc (.cells #[.int .i64 k, .string tx, .string un, .bool wh, .bool fl, .slice ka 0 kc] 57)).heap.size (w.alloc (.cells #[.int .i64 k, .string tx, .string un, .bool wh, .bool fl, .slice ka 0 kc] 57))
    have ge : Below (w.alloc (.cells #[.int .i64 k, .string tx, .string un, .bool wh, .bool fl, .slice ka 0 kc] 57)).heap.size (w.alloc (.cells #[.int .i64 k, .string tx, .string un, .bool wh, .bool fl, .slice ka 0 kc] 57)) (w.alloc (.cells #[.int .i64 k, .string tx, .string un, .bool wh, .bool fl, .slice ka 0 kc] 57)).drew := gd.drew
    clear hs hz hu
    go_enter Tryz.func76, Tryz.ntmps76
    go_upto_region 3 with (fail)
    generalize (w.alloc (.cells #[.int .i64 k, .string tx, .string un, .bool wh, .bool fl, .slice ka 0 kc] 57)) = X at *
    go_region_held3 (fun w' => (w'.cell? ⟨w.heap.size, 0, none⟩ = some (.int .i64 k) ∧ w'.cell? ⟨w.heap.size, 1, none⟩ = some (.string tx)) ∧ (w'.cell? ⟨w.heap.size, 2, none⟩ = some (.string un) ∧ w'.cell? ⟨w.heap.size, 3, none⟩ = some (.bool wh)) ∧ w'.cell? ⟨w.heap.size, 4, none⟩ = some (.bool fl) ∧ w'.cell? ⟨w.heap.size, 5, none⟩ = some (.slice ka 0 kc))
      (first | with_reducible exact HK.out _ gd | with_reducible exact HK.out _ ge | with_reducible exact HK.out _ ga | with_reducible exact HK.out _ gb)
      (first
        | (go_at_call 111; with_reducible refine (HA.out _ ge).mono ?_; rintro e wa ⟨⟨rfl, hcl⟩, ga⟩)
        | (go_at_call 141; with_reducible refine (hcl.out _ (Below.refl _ _)).mono ?_; rintro e wb ⟨rfl, gb⟩))
    have hend := HFIN.out _ gb
    go_wp2
    go_ret2
    exact ⟨rfl, hend⟩
  | word f =>
    have ef := word_is hA
    subst ef
    rw [hA] at HA0 HRS
    have HA : Hid (∀ w', Below (w.alloc (.cells #[.int .i64 k, .string tx, .string un, .bool wh, .bool fl, .slice ka 0 kc] 57)).heap.size (w.alloc (.cells #[.int .i64 k, .string tx, .string un, .bool wh, .bool fl, .slice ka 0 kc] 57)) w' → Calls Tryz.prog 111 #[.string f] w' fun e w'' => (∃ b, e = .returned (.func (.func 161) #[] #[.pointer (some ⟨b, 0, none⟩)]) ∧ Hid (∀ w3, Below w''.heap.size w'' w3 → Calls Tryz.prog 161 #[.agg #[.int .i64 k, .string tx, .string un, .bool wh, .bool fl, .slice ka 0 kc], .pointer (some ⟨b, 0, none⟩)] w3 fun e w4 => e = .returned (.tuple #[.string rs, .bool rb]) ∧ Below (w.alloc (.cells #[.int .i64 k, .string tx, .string un, .bool wh, .bool fl, .slice ka 0 kc] 57)).heap.size (w.alloc (.cells #[.int .i64 k, .string tx, .string un, .bool wh, .bool fl, .slice ka 0 kc] 57)) w4)) ∧ Below (w.alloc (.cells #[.int .i64 k, .string tx, .string un, .bool wh, .bool fl, .slice ka 0 kc] 57)).heap.size (w.alloc (.cells #[.int .i64 k, .string tx, .string un, .bool wh, .bool fl, .slice ka 0 kc] 57)) w'') := fun w' hb => (HA0.out w').mono fun e w'' h => by
      obtain ⟨v, he, ha, hb2⟩ := h
      have hb3 := hb.trans (hb2.mono hb.size)
      have hok3 : Ok w'' := hok.keep (hB0.trans (hb3.mono hB0.size))
      cases ha with
      | word _ b h1 =>
        refine ⟨⟨b, he, fun w3 hb4 => (ocl_any f ⟨k, tx, un, wh, fl⟩ ka 0 kc b (by show tx.size ≤ 1000000; have : tx.size ≤ 100000 := hz; omega) hs w3 (h1.keep hb4)).mono fun e w4 h => ⟨h.1.trans (congrArg Ending.returned HRS.out), ?_⟩⟩, hb3⟩
        have hb5 := hb3.trans (hb4.mono hb3.size)
        exact hb5.trans (h.2.mono hb5.size)
    clear HA0 hok hB0 HRS
    have gd := Below.refl (w.alloc (.cells #[.int .i64 k, .string tx, .string un, .bool wh, .bool fl, .slice ka 0 kc] 57)).heap.size (w.alloc (.cells #[.int .i64 k, .string tx, .string un, .bool wh, .bool fl, .slice ka 0 kc] 57))
    have ge : Below (w.alloc (.cells #[.int .i64 k, .string tx, .string un, .bool wh, .bool fl, .slice ka 0 kc] 57)).heap.size (w.alloc (.cells #[.int .i64 k, .string tx, .string un, .bool wh, .bool fl, .slice ka 0 kc] 57)) (w.alloc (.cells #[.int .i64 k, .string tx, .string un, .bool wh, .bool fl, .slice ka 0 kc] 57)).drew := gd.drew
    clear hs hz hu
    go_enter Tryz.func76, Tryz.ntmps76
    go_upto_region 3 with (fail)
    generalize (w.alloc (.cells #[.int .i64 k, .string tx, .string un, .bool wh, .bool fl, .slice ka 0 kc] 57)) = X at *
    go_region_held3 (fun w' => (w'.cell? ⟨w.heap.size, 0, none⟩ = some (.int .i64 k) ∧ w'.cell? ⟨w.heap.size, 1, none⟩ = some (.string tx)) ∧ (w'.cell? ⟨w.heap.size, 2, none⟩ = some (.string un) ∧ w'.cell? ⟨w.heap.size, 3, none⟩ = some (.bool wh)) ∧ w'.cell? ⟨w.heap.size, 4, none⟩ = some (.bool fl) ∧ w'.cell? ⟨w.heap.size, 5, none⟩ = some (.slice ka 0 kc))
      (first | with_reducible exact HK.out _ gd | with_reducible exact HK.out _ ge | with_reducible exact HK.out _ ga | with_reducible exact HK.out _ gb)
      (first
        | (go_at_call 111; with_reducible refine (HA.out _ ge).mono ?_; rintro e wa ⟨⟨b, rfl, hcl⟩, ga⟩)
        | (go_at_call 161; with_reducible refine (hcl.out _ (Below.refl _ _)).mono ?_; rintro e wb ⟨rfl, gb⟩))
    have hend := HFIN.out _ gb
    go_wp2
    go_ret2
    exact ⟨rfl, hend⟩
end Go.Proofs.YtlhdapckenjigaaGreatDoor.Z
