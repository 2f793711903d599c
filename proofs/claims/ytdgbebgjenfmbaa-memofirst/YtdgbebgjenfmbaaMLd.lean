/- Clear, Load, Cas. -/
import Derived.Test.YtdgbebgjenfmbaaMNe
namespace Go.Proofs.Ytdgbebgjenfmbaa.M
open Go.RowKit
set_option maxRecDepth 100000

theorem at2 (w : World) (o1 o2 : Obj) : ((w.alloc o1).alloc o2).drew.heap[w.heap.size]? = some o1 ∧ ((w.alloc o1).alloc o2).drew.heap[w.heap.size + 1]? = some o2 := by
  have h2 := heap_alloc_last (w.alloc o1) o2
  have s1 := World.size_alloc w o1
  rw [s1] at h2
  exact ⟨(Below.heap_alloc _ _ _ (by omega)).trans (heap_alloc_last w o1), h2⟩
theorem at2_below (w : World) (o1 o2 : Obj) : Below w.heap.size w ((w.alloc o1).alloc o2).drew := (((Below.refl _ w).alloc (Nat.le_refl _) o1).alloc (by simp) o2).drew
/-- What Clear leaves. -/
def Cleared (w w' : World) (t r c n : Nat) : Prop := Kb (fun k => k ≠ t) w w' ∧ ∃ r' c', t ≠ c' ∧ ((c' = c ∧ r' = r) ∨ (c' = w.heap.size ∧ r' = w.heap.size + 1)) ∧ ∀ P' : Nat → Prop, ¬ P' t → ¬ P' c' → P' r' → Tab P' w' t r' c' (List.replicate n none)
set_option maxHeartbeats 1000000 in
theorem clear_any {P : Nat → Prop} {w : World} {t r c : Nat} {L : List (Option En)} (h : Tab P w t r c L) : Calls Try.prog 22 #[.pointer (some ⟨t, 0, none⟩)] w fun e w' => (∃ v, e = .returned v) ∧ Cleared w w' t r c L.length := by
  have hs := size_any h
  have HT := hid_mk h
  have hsm := h.small
  have htl := h.lt.1
  by_cases h0 : L.length = 0
  · have hd : decide ((0 : Int) < (L.length : Int)) = false := decide_eq_false (by omega)
    have HC : Hid (Cleared w w t r c L.length) := by
      refine ⟨Kb.refl _ w, r, c, h.ne, .inl ⟨rfl, rfl⟩, fun P' p1 p2 p3 => ?_⟩
      rw [h0]
      have hL : L = [] := List.length_eq_zero_iff.1 h0
      subst hL
      refine ⟨p1, p3, h.ne, h.box, h.var, h.small, p2, ?_⟩
      obtain ⟨vs, x1, x2, _⟩ := h.ring.row
      exact ⟨vs, x1, x2, fun j o hj => by simp at hj⟩
    clear h HT
    generalize L.length = n at *
    go_enter Try.func22, Try.ntmps22
    go_wp2_with (go_at_call 26; refine hs.mono ?_; rintro e w' ⟨rfl, hw⟩; rw [hw]; clear hw w')
    go_wp2
    go_end0
    exact ⟨⟨_, rfl⟩, HC.out⟩
  · have hd : decide ((0 : Int) < (L.length : Int)) = true := decide_eq_true (by omega)
    have htc := h.ne
    clear h
    have HBX : Hid (w.heap[t]? = some (.cells #[.pointer (some ⟨r, 0, none⟩)] 65 (0, 0))) := HT.out.box
    clear HT
    generalize L.length = n at *
    have HE : Hid (∀ o1 o2, ((w.alloc o1).alloc o2).drew.heap[t]? = some (.cells #[.pointer (some ⟨r, 0, none⟩)] 65 (0, 0))) := fun o1 o2 => ((at2_below w o1 o2).block t htl).trans HBX.out
    go_enter Try.func22, Try.ntmps22
    go_wp2_with (go_at_call 26; refine hs.mono ?_; rintro e w' ⟨rfl, hw⟩; rw [hw]; clear hw w')
    go_upto_region 2 with fail
    clear hs
    go_region_with (first
      | (go_at_call 30; refine (empty_any hsm).mono ?_; rintro e w1 ⟨rfl, hw1⟩)
      | (go_at_call 29; refine (storeR_any (w := ((w.alloc _).alloc _).drew) (box_cell (HE.out _ _)).1 (box_cell (HE.out _ _)).2 (at2 w _ _).2 rfl).mono ?_; rintro e w3 ⟨⟨v, rfl⟩, hw3⟩; replace hw3 := hid_mk hw3))
    all_goals
      have HC : Hid (Cleared w w3 t r c n) := by
        refine ⟨?_, w.heap.size + 1, w.heap.size, by omega, .inr ⟨rfl, rfl⟩, fun P' p1 p2 p3 => new_tab hsm ⟨_, HE.out _ _⟩ (at2 w _ _).1 (at2 w _ _).2 hw3.out (by omega) (by omega) P' p1 p2 p3⟩
        rw [hw3.out]
        exact (Kb.of_below (at2_below w _ _)).set (p := ⟨t, 0, none⟩) (fun hh => hh rfl) _
      clear hw3
      go_wp2
      go_end0
      exact ⟨⟨_, rfl⟩, HC.out⟩
theorem clear_none {w : World} {p : Option Addr} (h : p = none ∨ ∃ t, p = some ⟨t, 0, none⟩ ∧ w.cell? ⟨t, 0, none⟩ = some (.pointer none)) : Calls Try.prog 22 #[.pointer p] w fun e w' => (∃ v, e = .returned v) ∧ w' = w := by
  have hs := size_none h
  clear h
  go_enter Try.func22, Try.ntmps22
  go_wp2_with (go_at_call 26; refine hs.mono ?_; rintro e w' ⟨rfl, hw⟩; rw [hw]; clear hw w')
  go_wp2
  go_end0
  exact ⟨⟨_, rfl⟩, rfl⟩

/-- The entry in cell i. -/
def getC (L : List (Option En)) (i : Int) : Option En := if 0 ≤ i then (L[i.toNat]?).join else none
theorem box3 {w : World} {b : Nat} {u0 u1 u2 : Value} {t : TypeId} (h : w.heap[b]? = some (.cells #[u0, u1, u2] t (0, 0))) : (w.cell? ⟨b, 0, none⟩ = some u0 ∧ w.cell? ⟨b, 1, none⟩ = some u1 ∧ w.cell? ⟨b, 2, none⟩ = some u2) ∧ w.frozen? ⟨b, 0, none⟩ = false ∧ w.frozen? ⟨b, 1, none⟩ = false ∧ w.frozen? ⟨b, 2, none⟩ = false := by
  refine ⟨⟨?_, ?_, ?_⟩, ?_, ?_, ?_⟩
  · simp [World.cell?, h]
  · simp [World.cell?, h]
  · simp [World.cell?, h]
  · simp [World.frozen?, h]
  · simp [World.frozen?, h]
  · simp [World.frozen?, h]
theorem set3_below {w w' : World} (hb : Below w.heap.size w w') (v0 v1 v2 : Value) : Below w.heap.size w (((w'.setCell ⟨w.heap.size, 0, none⟩ v0).setCell ⟨w.heap.size, 1, none⟩ v1).setCell ⟨w.heap.size, 2, none⟩ v2) :=
  ((hb.setCell (p := ⟨w.heap.size, 0, none⟩) (Nat.le_refl _) _).setCell (p := ⟨w.heap.size, 1, none⟩) (Nat.le_refl _) _).setCell (p := ⟨w.heap.size, 2, none⟩) (Nat.le_refl _) _
theorem load_off {P : Nat → Prop} {w : World} {t r c : Nat} {L : List (Option En)} (h : Tab P w t r c L) {i : Int} (hi : getC L i = none) : Calls Try.prog 19 #[.pointer (some ⟨t, 0, none⟩), .int .i64 i] w fun e w' => e = .returned (.tuple #[.agg #[.int .i64 0, .int .i64 0, .slice none 0 0], .bool false]) ∧ Below w.heap.size w w' := by
  obtain ⟨wx, hwx⟩ : ∃ wx, wx = w.alloc (.cells #[.int .i64 0, .int .i64 0, .slice none 0 0] 31) := ⟨_, rfl⟩
  have HBX : Hid (Below w.heap.size w wx) := by rw [hwx]; exact (Below.refl _ w).alloc (Nat.le_refl _) _
  have hX : wx.heap[w.heap.size]? = some (.cells #[.int .i64 0, .int .i64 0, .slice none 0 0] 31 (0, 0)) := by rw [hwx]; exact heap_alloc_last w _
  have hT := h.below HBX.out
  have hc := cells_any hT
  have hh := has_any (w := wx) (a := some ⟨c, 0, none⟩) (n := L.length) i
  obtain ⟨⟨q0, q1, q2⟩, f0, f1, f2⟩ := box3 hX
  obtain ⟨k0, k1, k2⟩ := set3 q0 q1 q2 (.int .i64 0) (.int .i64 0) (.slice none 0 0)
  have HF : Hid (Below w.heap.size w (((wx.setCell ⟨w.heap.size, 0, none⟩ (.int .i64 0)).setCell ⟨w.heap.size, 1, none⟩ (.int .i64 0)).setCell ⟨w.heap.size, 2, none⟩ (.slice none 0 0))) := set3_below HBX.out _ _ _
  have K0 := hid_mk k0
  have K1 := hid_mk k1
  have K2 := hid_mk k2
  clear k0 k1 k2
  by_cases hin : 0 ≤ i ∧ i < (L.length : Int)
  · have e1 : (decide (0 ≤ i) && decide (i < (L.length : Int))) = true := by simp [hin.1, hin.2]
    rw [e1] at hh
    obtain ⟨j, rfl⟩ : ∃ j : Nat, i = (j : Int) := ⟨i.toNat, by omega⟩
    have hjl : j < L.length := by omega
    have hj : L[j]? = some none := by
      unfold getC at hi
      rw [if_pos hin.1, Int.toNat_natCast, List.getElem?_eq_getElem hjl] at hi
      rw [List.getElem?_eq_getElem hjl]
      exact congrArg some hi
    obtain ⟨v, hv, hV, _⟩ := hT.ring.cell hj
    have hl := loadE_any hv hV
    have hV : v = .pointer none := hV
    subst hV
    clear h hT hX hV hv hi hj hin e1 HBX
    generalize L.length = n at *
    go_enter Try.func19, Try.ntmps19
    go_upto_region 1 with fail
    rw [← hwx]
    clear hwx
    go_wp2_with (first
      | (go_at_call 31; refine hc.mono ?_; rintro e w' ⟨rfl, hw⟩; rw [hw]; clear hw w')
      | (go_at_call 38; refine hh.mono ?_; rintro e w' ⟨rfl, hw⟩; rw [hw]; clear hw w')
      | (go_at_call 35; refine hl.mono ?_; rintro e w' ⟨rfl, hw⟩; rw [hw]; clear hw w'))
    clear hc hh hl
    obtain ⟨W6, hW6⟩ : ∃ W6, W6 = ((wx.setCell ⟨w.heap.size, 0, none⟩ (.int .i64 0)).setCell ⟨w.heap.size, 1, none⟩ (.int .i64 0)).setCell ⟨w.heap.size, 2, none⟩ (.slice none 0 0) := ⟨_, rfl⟩
    rw [← hW6] at HF K0 K1 K2 ⊢
    clear hW6 q0 q1 q2 f0 f1 f2
    have k0 := K0.out
    have k1 := K1.out
    have k2 := K2.out
    exact bodyPost_ret (v := .tuple #[.agg #[.int .i64 0, .int .i64 0, .slice none 0 0], .bool false]) (by simp [results, Try.results19, go_sem, k0, k1, k2]) rfl ⟨rfl, HF.out⟩
  · have e1 : (decide (0 ≤ i) && decide (i < (L.length : Int))) = false := by
      by_cases h0 : 0 ≤ i
      · have : ¬ i < (L.length : Int) := fun hh => hin ⟨h0, hh⟩
        simp [this]
      · simp [h0]
    rw [e1] at hh
    clear h hT hX hi hin e1 HBX
    generalize L.length = n at *
    go_enter Try.func19, Try.ntmps19
    go_upto_region 1 with fail
    rw [← hwx]
    clear hwx
    go_wp2_with (first
      | (go_at_call 31; refine hc.mono ?_; rintro e w' ⟨rfl, hw⟩; rw [hw]; clear hw w')
      | (go_at_call 38; refine hh.mono ?_; rintro e w' ⟨rfl, hw⟩; rw [hw]; clear hw w'))
    clear hc hh
    obtain ⟨W6, hW6⟩ : ∃ W6, W6 = ((wx.setCell ⟨w.heap.size, 0, none⟩ (.int .i64 0)).setCell ⟨w.heap.size, 1, none⟩ (.int .i64 0)).setCell ⟨w.heap.size, 2, none⟩ (.slice none 0 0) := ⟨_, rfl⟩
    rw [← hW6] at HF K0 K1 K2 ⊢
    clear hW6 q0 q1 q2 f0 f1 f2
    have k0 := K0.out
    have k1 := K1.out
    have k2 := K2.out
    exact bodyPost_ret (v := .tuple #[.agg #[.int .i64 0, .int .i64 0, .slice none 0 0], .bool false]) (by simp [results, Try.results19, go_sem, k0, k1, k2]) rfl ⟨rfl, HF.out⟩
end Go.Proofs.Ytdgbebgjenfmbaa.M
