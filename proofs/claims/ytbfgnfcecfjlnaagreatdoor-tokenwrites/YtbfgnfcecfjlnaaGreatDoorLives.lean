/- The document's examples are as it says: gouachelaw02.lives. -/
import Derived.Test.YtbfgnfcecfjlnaaGreatDoorEscAll
namespace Go.Proofs.YtbfgnfcecfjlnaaGreatDoor
open Go.RowKit
set_option maxRecDepth 100000

theorem outs_cells {B : Nat} {w : World} {out : Value} {ts : List Tok} (h : Outs B w out ts) (h0 : ts ≠ []) :
    ∃ g cap, out = .slice (some ⟨g, 0, none⟩) ts.length cap ∧ g < w.heap.size ∧ ts.length ≤ cap ∧ ∀ (j : Nat) v, (ts.flatMap tokCells)[j]? = some v → w.cell? ⟨g, j, none⟩ = some v := by
  have hl : ts.length ≠ 0 := by simpa using h0
  rcases h.2 with ⟨_, hz⟩ | ⟨g, cap, cur, hv, hbg, hg, hnc, hcm, hsz, htk⟩
  · exact absurd hz hl
  · refine ⟨g, cap, hv, (Array.getElem?_eq_some_iff.1 hg).1, hnc, fun j v hj => ?_⟩
    have hlt : j < ts.length * 5 := by
      have := (List.getElem?_eq_some_iff.1 hj).1
      rw [h.1] at this
      exact this
    rw [Lib.cell_of_heap hg]
    rw [← htk, List.getElem?_take, if_pos hlt] at hj
    simpa using hj
theorem cut_one : cutZ ⟨#[97, 123, 98, 58, 49, 46, 53, 101, 109, 125]⟩ = [plainTok 1 [97], plainTok 23 [], plainTok 1 [98], plainTok 16 [], mkTok 12 [49, 46, 53] [101, 109] false false, plainTok 24 []] := by
  have e : runesZ ⟨#[97, 123, 98, 58, 49, 46, 53, 101, 109, 125]⟩ = [97, 123, 98, 58, 49, 46, 53, 101, 109, 125] := by decide +kernel
  unfold cutZ
  rw [e]
  exact example_one
theorem cut_two : cutZ ⟨#[34, 97, 10]⟩ = [plainTok 6 [], plainTok 13 []] := by
  have e : runesZ ⟨#[34, 97, 10]⟩ = [34, 97, 10] := by decide +kernel
  unfold cutZ
  rw [e]
  exact example_two
theorem esc_one : strOfNums (escL ⟨#[49]⟩) = ⟨#[92, 51, 49, 32]⟩ := by
  have e : escL ⟨#[49]⟩ = [92, 51, 49, 32] := by decide +kernel
  rw [e]
  rfl

set_option maxHeartbeats 2000000 in
set_option maxRecDepth 100000 in
theorem lives_any (w : World) (ht : Tab w) (h3 : 3 < w.heap.size) :
    Calls Tryz.prog 5 #[] w fun e w' => e = .returned (.bool true) ∧ Below w.heap.size w w' := by
  have hc1 := cut_any ⟨#[97, 123, 98, 58, 49, 46, 53, 101, 109, 125]⟩ w (by decide)
  rw [cut_one] at hc1
  go_enter Tryz.func5, Tryz.ntmps5
  go_wp2_with (go_at_call 19; fail)
  refine (hc1).mono ?_
  rintro e w1 ⟨o1, rfl, ho1, b1⟩
  have hc2 := cut_any ⟨#[34, 97, 10]⟩ w1 (by decide)
  rw [cut_two] at hc2
  go_wp2_with (go_at_call 19; fail)
  refine (hc2).mono ?_
  rintro e w2 ⟨o2, rfl, ho2, b2⟩
  obtain ⟨g1, cap1, rfl, hg1, hcap1, hcell1⟩ := outs_cells ho1 (by simp)
  obtain ⟨g2, cap2, rfl, hg2, hcap2, hcell2⟩ := outs_cells ho2 (by simp)
  have B2 : Below w.heap.size w w2 := b1.trans (b2.mono b1.size)
  have he := escape_str ⟨#[49]⟩ (by decide) w2 (tab_below ht B2 h3) (by have := B2.size; omega)
  rw [esc_one] at he
  have k0 : w2.cell? ⟨g1, 0, none⟩ = some (.int .i64 1) := (b2.cell (p := ⟨g1, 0, none⟩) hg1).trans (hcell1 0 _ rfl)
  have k20 : w2.cell? ⟨g1, 20, none⟩ = some (.int .i64 12) := (b2.cell (p := ⟨g1, 20, none⟩) hg1).trans (hcell1 20 _ rfl)
  have k21 : w2.cell? ⟨g1, 21, none⟩ = some (.string ⟨#[49, 46, 53]⟩) := (b2.cell (p := ⟨g1, 21, none⟩) hg1).trans (hcell1 21 _ rfl)
  have k22 : w2.cell? ⟨g1, 22, none⟩ = some (.string ⟨#[101, 109]⟩) := (b2.cell (p := ⟨g1, 22, none⟩) hg1).trans (hcell1 22 _ rfl)
  have k23 : w2.cell? ⟨g1, 23, none⟩ = some (.bool false) := (b2.cell (p := ⟨g1, 23, none⟩) hg1).trans (hcell1 23 _ rfl)
  have m0 : w2.cell? ⟨g2, 0, none⟩ = some (.int .i64 6) := hcell2 0 _ rfl
  have m5 : w2.cell? ⟨g2, 5, none⟩ = some (.int .i64 13) := hcell2 5 _ rfl
  have l1 : [plainTok 1 [97], plainTok 23 [], plainTok 1 [98], plainTok 16 [], mkTok 12 [49, 46, 53] [101, 109] false false, plainTok 24 []].length = 6 := rfl
  have l2 : [plainTok 6 [], plainTok 13 []].length = 2 := rfl
  clear hcell1 hcell2 ho1 ho2 hc1 hc2 ht
  go_wp2_with (go_at_call 13; fail)
  refine (he).mono ?_
  rintro e w3 ⟨rfl, b3⟩
  go_wp2
  go_ret
  exact ⟨rfl, B2.trans (b3.mono B2.size)⟩
end Go.Proofs.YtbfgnfcecfjlnaaGreatDoor
