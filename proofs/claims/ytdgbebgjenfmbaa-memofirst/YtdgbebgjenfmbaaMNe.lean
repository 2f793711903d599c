/- New, Size, Home, around, Clear. -/
import Derived.Test.YtdgbebgjenfmbaaMRg
namespace Go.Proofs.Ytdgbebgjenfmbaa.M
open Go.RowKit
set_option maxRecDepth 100000

theorem size_any {P : Nat → Prop} {w : World} {t r c : Nat} {L : List (Option En)} (h : Tab P w t r c L) : Calls Try.prog 26 #[.pointer (some ⟨t, 0, none⟩)] w fun e w' => e = .returned (.int .i64 (L.length : Int)) ∧ w' = w := by
  have hc := cells_any h
  have hs := h.small
  clear h
  generalize L.length = n at *
  go_enter Try.func26, Try.ntmps26
  go_wp2_with (go_at_call 31; refine hc.mono ?_; rintro e w' ⟨rfl, hw⟩; rw [hw]; clear hw w')
  go_wp2
  go_ret
  exact ⟨rfl, rfl⟩
theorem size_none {w : World} {p : Option Addr} (h : p = none ∨ ∃ t, p = some ⟨t, 0, none⟩ ∧ w.cell? ⟨t, 0, none⟩ = some (.pointer none)) : Calls Try.prog 26 #[.pointer p] w fun e w' => e = .returned (.int .i64 0) ∧ w' = w := by
  have hc : Calls Try.prog 31 #[.pointer p] w fun e w' => e = .returned (.slice none 0 0) ∧ w' = w := by
    rcases h with rfl | ⟨t, rfl, h⟩
    · exact cells_nil
    · exact cells_zero h
  clear h
  go_enter Try.func26, Try.ntmps26
  go_wp2_with (go_at_call 31; refine hc.mono ?_; rintro e w' ⟨rfl, hw⟩; rw [hw]; clear hw w')
  go_wp2
  go_ret
  exact ⟨rfl, rfl⟩
theorem homeT_any {P : Nat → Prop} {w : World} {t r c : Nat} {L : List (Option En)} (h : Tab P w t r c L) (e d : Int) : Calls Try.prog 27 #[.pointer (some ⟨t, 0, none⟩), .int .i64 e, .int .i64 d] w fun q w' => q = .returned (.int .i64 (homeN L.length e d : Int)) ∧ w' = w := by
  have hc := cells_any h
  have hh := home_any (w := w) (a := some ⟨c, 0, none⟩) e d h.small
  clear h
  generalize L.length = n at *
  go_enter Try.func27, Try.ntmps27
  go_wp2_with (first
    | (go_at_call 31; refine hc.mono ?_; rintro e w' ⟨rfl, hw⟩; rw [hw]; clear hw w')
    | (go_at_call 33; refine hh.mono ?_; rintro e w' ⟨rfl, hw⟩; rw [hw]; clear hw w'))
  go_wp2
  go_ret
  exact ⟨rfl, rfl⟩
theorem home_none {w : World} {p : Option Addr} (h : p = none ∨ ∃ t, p = some ⟨t, 0, none⟩ ∧ w.cell? ⟨t, 0, none⟩ = some (.pointer none)) (e d : Int) : Calls Try.prog 27 #[.pointer p, .int .i64 e, .int .i64 d] w fun q w' => q = .returned (.int .i64 0) ∧ w' = w := by
  have hc : Calls Try.prog 31 #[.pointer p] w fun e w' => e = .returned (.slice none 0 0) ∧ w' = w := by
    rcases h with rfl | ⟨t, rfl, h⟩
    · exact cells_nil
    · exact cells_zero h
  have hh := home_any (w := w) (a := none) (n := 0) e d (by omega)
  have e0 : (homeN 0 e d : Int) = 0 := rfl
  rw [e0] at hh
  clear h e0
  go_enter Try.func27, Try.ntmps27
  go_wp2_with (first
    | (go_at_call 31; refine hc.mono ?_; rintro e w' ⟨rfl, hw⟩; rw [hw]; clear hw w')
    | (go_at_call 33; refine hh.mono ?_; rintro e w' ⟨rfl, hw⟩; rw [hw]; clear hw w'))
  go_wp2
  go_ret
  exact ⟨rfl, rfl⟩
theorem around_any {w : World} {a : Option Addr} {n : Nat} (h : Int) : Calls Try.prog 32 #[.slice a n n, .int .i64 h] w fun q w' => q = .returned (.func (.func 41) #[] #[.pointer (some ⟨w.heap.size, 0, none⟩), .pointer (some ⟨w.heap.size + 1, 0, none⟩)]) ∧ w' = (w.alloc (.cells #[.slice a n n] 71)).alloc (.cells #[.int .i64 h] 3) := by
  go_enter Try.func32, Try.ntmps32
  go_wp2
  go_ret
  exact ⟨rfl, rfl⟩
theorem new_bad {w : World} (n : Int) (hn : n < 0 ∨ 65536 < n) : Calls Try.prog 10 #[.int .i64 n] w fun q w' => q = .returned (.pointer none) ∧ w' = w := by
  by_cases h0 : n < 0
  · have h1 : decide (n < 0) = true := decide_eq_true h0
    go_enter Try.func10, Try.ntmps10
    go_wp2
    go_ret
    exact ⟨rfl, rfl⟩
  · have h1 : decide (n < 0) = false := decide_eq_false h0
    have h2 : decide (65536 < n) = true := decide_eq_true (by omega)
    go_enter Try.func10, Try.ntmps10
    go_wp2
    go_ret
    exact ⟨rfl, rfl⟩
theorem new_ring {P : Nat → Prop} {w : World} {c n : Nat} (h : w.heap[c]? = some (.cells (madeCells #[Value.pointer none] n) 83 (0, 0))) (hc : ¬ P c) : Ring P w c (List.replicate n none) := by
  refine ⟨hc, _, h, by simp [size_madeCells], fun j o hj => ?_⟩
  rw [List.getElem?_replicate] at hj
  by_cases hl : j < n
  · rw [if_pos hl] at hj
    injection hj with hj
    subst hj
    exact ⟨_, made_ring n j hl, rfl⟩
  · rw [if_neg hl] at hj
    cases hj
theorem at3 (w : World) (o1 o2 o3 : Obj) : (((w.alloc o1).alloc o2).alloc o3).drew.heap[w.heap.size]? = some o1 ∧ (((w.alloc o1).alloc o2).alloc o3).drew.heap[w.heap.size + 1]? = some o2 ∧ (((w.alloc o1).alloc o2).alloc o3).drew.heap[w.heap.size + 1 + 1]? = some o3 := by
  have h2 := heap_alloc_last (w.alloc o1) o2
  have h3 := heap_alloc_last ((w.alloc o1).alloc o2) o3
  have s1 := World.size_alloc w o1
  have s2 := World.size_alloc (w.alloc o1) o2
  rw [s1] at h2
  rw [s2, s1] at h3
  refine ⟨?_, ?_, h3⟩
  · exact (Below.heap_alloc _ _ _ (by omega)).trans ((Below.heap_alloc _ _ _ (by omega)).trans (heap_alloc_last w o1))
  · exact (Below.heap_alloc _ _ _ (by omega)).trans h2
theorem at3_below (w : World) (o1 o2 o3 : Obj) : Below w.heap.size w (((w.alloc o1).alloc o2).alloc o3).drew :=
  ((((Below.refl _ w).alloc (Nat.le_refl _) o1).alloc (by simp) o2).alloc (by simp; omega) o3).drew
theorem new_tab {w W : World} {n : Nat} (hn : n ≤ 65536) {t c r : Nat} (h1 : ∃ v, W.heap[t]? = some (.cells #[v] 65 (0, 0))) (h2 : W.heap[c]? = some (.cells (madeCells #[Value.pointer none] n) 83 (0, 0))) (h3 : W.heap[r]? = some (.cells #[.slice (some ⟨c, 0, none⟩) n n] 71 (0, 0))) (hw : w = W.setCell ⟨t, 0, none⟩ (.pointer (some ⟨r, 0, none⟩))) (htc : t ≠ c) (htr : t ≠ r)
    (P : Nat → Prop) (p1 : ¬ P t) (p2 : ¬ P c) (p3 : P r) : Tab P w t r c (List.replicate n none) := by
  obtain ⟨v, h1⟩ := h1
  have hlen : (List.replicate n (none : Option En)).length = n := List.length_replicate
  refine ⟨p1, p3, htc, ?_, ?_, by rw [hlen]; exact hn, new_ring (n := n) ?_ p2⟩
  · rw [hw]
    simp only [World.setCell, Array.getElem?_modify, h1]
    simp
  · rw [hw, hlen]
    exact (Below.heap_setCell W ⟨t, 0, none⟩ _ r (fun e => htr e.symm)).trans h3
  · rw [hw]
    exact (Below.heap_setCell W ⟨t, 0, none⟩ _ c (fun e => htc e.symm)).trans h2
set_option maxHeartbeats 1000000 in
theorem new_any {w : World} {n : Nat} (hn : n ≤ 65536) : Calls Try.prog 10 #[.int .i64 (n : Int)] w fun e w' => e = .returned (.pointer (some ⟨w.heap.size, 0, none⟩)) ∧ Below w.heap.size w w' ∧ ∀ P : Nat → Prop, ¬ P w.heap.size → ¬ P (w.heap.size + 1) → P (w.heap.size + 2) → Tab P w' w.heap.size (w.heap.size + 2) (w.heap.size + 1) (List.replicate n none) := by
  have h1 : decide ((n : Int) < 0) = false := decide_eq_false (by omega)
  have h2 : decide ((65536 : Int) < (n : Int)) = false := decide_eq_false (by omega)
  have HN := hid_mk hn
  clear hn
  go_enter Try.func10, Try.ntmps10
  go_wp2
  go_upto_region 4 with fail
  go_region_with (first
    | (go_at_call 30; refine (empty_any HN.out).mono ?_; rintro e w1 ⟨rfl, hw1⟩)
    | (go_at_call 29; refine (storeR_any (w := (((w.alloc _).alloc _).alloc _).drew) (box_cell (at3 w _ _ _).1).1 (box_cell (at3 w _ _ _).1).2 (at3 w _ _ _).2.2 rfl).mono ?_; rintro e w3 ⟨⟨v, rfl⟩, hw3⟩; replace hw3 := hid_mk hw3))
  all_goals
    have HB : Hid (Below w.heap.size w w3) := by rw [hw3.out]; exact (at3_below w _ _ _).setCell (Nat.le_refl _) _
    have HT : Hid (∀ P : Nat → Prop, ¬ P w.heap.size → ¬ P (w.heap.size + 1) → P (w.heap.size + 2) → Tab P w3 w.heap.size (w.heap.size + 2) (w.heap.size + 1) (List.replicate n none)) := fun P p1 p2 p3 => new_tab HN.out ⟨_, (at3 w _ _ _).1⟩ (at3 w _ _ _).2.1 (at3 w _ _ _).2.2 hw3.out (by omega) (by omega) P p1 p2 p3
    clear hw3
    go_wp2
    go_ret
    exact ⟨rfl, HB.out, HT.out⟩
end Go.Proofs.Ytdgbebgjenfmbaa.M
