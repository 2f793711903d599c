/- TokenSpaces is true whatever the text, where the laid table holds. -/
import Derived.Test.YtbfgnfcecfjlnabDoorApart
namespace Go.Proofs.YtbfgnfcecfjlnabDoor
open Go.RowKit

set_option maxHeartbeats 4000000 in
set_option maxRecDepth 100000 in
theorem spaces_walk (w : World) (s : ByteArray) (ht : Tab w) : Calls Tryd.prog 3 #[.string s] w fun e w' => e = .returned (.bool true) ∧ Below w.heap.size w w' := by
  have h3 : 3 < w.heap.size := World.block_lt_of_cell? w _ ht
  have hli := lives_any w ht h3
  by_cases hbig : 2000 < s.size
  · have hb2 : (2000 : Int) < (s.size : Int) := by omega
    go_enter Tryd.func3, Tryd.ntmps3
    go_wp2_with (go_at_call 4; fail)
    refine (hli).mono ?_
    rintro e w1 ⟨rfl, b1⟩
    go_wp2
    go_ret
    exact ⟨rfl, b1⟩
  · have hb2 : ¬ (2000 : Int) < (s.size : Int) := by omega
    go_enter Tryd.func3, Tryd.ntmps3
    go_wp2
    go_loopw [3] (fun i wr => ∃ k : Nat, i = .int .i64 k ∧ w = wr ∧ k ≤ s.size ∧ ∀ j (h : j < s.size), j < k → (s[j]'h).toNat ≠ 47) (fun i _ => s.size + 1 - (intOf i).toNat)
    case atStart => exact ⟨0, rfl, rfl, Nat.zero_le _, fun j _ hj => absurd hj (by omega)⟩
    case round =>
      obtain ⟨k, rfl, rfl, hk, hno⟩ := hrel
      have HNO : Hid (∀ j (h : j < s.size), j < k → (s[j]'h).toNat ≠ 47) := hno
      clear hno
      by_cases hlt : k < s.size
      · by_cases h47 : (s[k]'hlt).toNat = 47
        · have e47 : (((s[k]'hlt).toNat : Int) == 47) = true := by rw [h47]; rfl
          go_wp2_with (go_at_call 4; fail)
          refine (hli).mono ?_
          rintro e w1 ⟨rfl, b1⟩
          go_wp2
          go_ret
          exact ⟨rfl, b1⟩
        · have e47 : (((s[k]'hlt).toNat : Int) == 47) = false := by simp; omega
          go_wp2
          go_roundw
          case rel =>
            refine ⟨k + 1, by go_num, by first | rfl | trivial, by omega, fun j h hj => ?_⟩
            rcases Nat.lt_or_ge j k with h1 | h1
            · exact HNO.out j h h1
            · have : j = k := by omega
              subst this
              exact h47
          case measure => simp [intOf]; omega
      · have hap := cut_apart s (fun j h => HNO.out j h (by omega))
        have hlc := cut_len s
        have hc1 := cut_any s w (by omega)
        clear HNO hli
        generalize hts : cutZ s = ts at *
        have HTS : Hid (cutZ s = ts) := hts
        clear hts
        go_wp2_with (go_at_call 5; fail)
        refine (hc1).mono ?_
        rintro e w1 ⟨o1, rfl, ho1, b1⟩
        have hta := TokAt.outs ho1
        obtain ⟨a1, c1, rfl, hcap1, hcells⟩ := hta
        go_wp2
        go_loopw [5] (fun i wx => ∃ k : Nat, i = .int .i64 (k + 1 : Nat) ∧ w1 = wx) (fun i _ => ts.length + 1 - (intOf i).toNat)
        case atStart => exact ⟨0, rfl, rfl⟩
        case round =>
          obtain ⟨k2, rfl, rfl⟩ := hrel
          by_cases hlt2 : k2 + 1 < ts.length
          · obtain ⟨g, off, rfl, q⟩ := hcells (by omega)
            have hn13 := apart_at ts k2 hlt2 hap
            have c1 : w1.cell? ⟨g, off + (k2 + 1) * 5, none⟩ = some (.int .i64 (ts[k2 + 1]'hlt2).kind) := by
              have := q ((k2 + 1) * 5 + 0) _ ((flat_get ts (k2 + 1) 0 hlt2 (by omega)).trans rfl)
              simpa using this
            have c0 : w1.cell? ⟨g, off + k2 * 5, none⟩ = some (.int .i64 (ts[k2]'(by omega)).kind) := by
              have := q (k2 * 5 + 0) _ ((flat_get ts k2 0 (by omega) (by omega)).trans rfl)
              simpa using this
            generalize (ts[k2 + 1]'hlt2).kind = t1 at *
            generalize (ts[k2]'(by omega)).kind = t0 at *
            clear hcells q
            by_cases h13 : t1 = 13
            · have e0 : (t0 == 13) = false := by simp; intro e; exact hn13 ⟨h13, e⟩
              subst h13
              clear hn13
              go_wp2
              go_roundw
              case rel => exact ⟨k2 + 1, by go_num, by first | rfl | trivial⟩
              case measure => simp [intOf]; omega
            · have e1 : (t1 == 13) = false := by simpa using h13
              clear hn13
              go_wp2
              go_roundw
              case rel => exact ⟨k2 + 1, by go_num, by first | rfl | trivial⟩
              case measure => simp [intOf]; omega
          · have hsz : (⟨#[40]⟩ ++ s : ByteArray).size ≤ 1000000000 := by
              rw [ByteArray.size_append]
              have : (⟨#[40]⟩ : ByteArray).size = 1 := rfl
              omega
            have hc2 := cut_any (⟨#[40]⟩ ++ s) w1 hsz
            rw [round_text, HTS.out] at hc2
            have hg : ¬ ((k2 : Int) + 1 < (ts.length : Int)) := by omega
            go_wp2_with (go_at_call 5; fail)
            refine (hc2).mono ?_
            rintro e w2 ⟨o2, rfl, ho2, b2⟩
            obtain ⟨g2, cap2, rfl, hg2, hcap2, hcell2⟩ := outs_cells ho2 (by simp)
            have z0 : w2.cell? ⟨g2, 0, none⟩ = some (.int .i64 21) := hcell2 0 _ rfl
            have hl2 : (plainTok 21 [] :: ts).length = ts.length + 1 := rfl
            have hB2 : Below w.heap.size w w2 := b1.trans (b2.mono b1.size)
            have ht1 : TokAt w2 (.slice a1 ts.length c1) ts := TokAt.below ⟨a1, c1, rfl, hcap1, hcells⟩ b2
            have htl : ∀ ad, ad = (if cap2 = 1 then some (⟨g2, 0, none⟩ : Addr) else some ⟨g2, 5, none⟩) → TokAt w2 (.slice ad ts.length (cap2 - 1)) ts := by
              intro ad had
              by_cases hts0 : ts = []
              · subst hts0
                exact ⟨_, _, rfl, by simp, fun h => absurd h (by simp)⟩
              · have : 0 < ts.length := List.length_pos_iff.2 hts0
                rw [if_neg (by rw [hl2] at hcap2; omega)] at had
                subst had
                have := TokAt.tail (w := w2) (g := g2) (off := 0) (cap := cap2) (t := plainTok 21 []) (ts := ts) (by rw [hl2] at hcap2; omega) (fun j v hj => by simpa using hcell2 j v hj)
                simpa using this
            rw [hl2] at hcap2
            clear hcell2 ho2 hcells
            have hsy : ∀ ad, ad = (if cap2 = 1 then some (⟨g2, 0, none⟩ : Addr) else some ⟨g2, 5, none⟩) → Calls Tryd.prog 6 #[.slice ad ts.length (cap2 - 1), .slice a1 ts.length c1] w2 fun e w' => e = .returned (.bool true) ∧ Below w2.heap.size w2 w' := fun ad had => same_yes _ _ ts w2 (htl ad had) ht1 (by omega)
            clear htl ht1
            by_cases hcp : cap2 = 1
            · have hts0 : ts = [] := List.length_eq_zero_iff.1 (by omega)
              subst hts0
              subst hcp
              have hsy1 : Calls Tryd.prog 6 #[.slice (some ⟨g2, 0, none⟩) 0 0, .slice a1 0 c1] w2 fun e w' => e = .returned (.bool true) ∧ Below w2.heap.size w2 w' := hsy (some ⟨g2, 0, none⟩) rfl
              clear hsy hcap2 hl2 hap hlc hcap1 hlt2
              go_wp2_with (go_at_call 6; fail)
              refine hsy1.mono ?_
              rintro e w3 ⟨rfl, b3⟩
              have hB3 := hB2.trans (b3.mono hB2.size)
              have hc3 := cut_any ⟨#[32, 9, 10, 32]⟩ w3 (by decide)
              rw [blank_text] at hc3
              go_wp2_with (go_at_call 5; fail)
              refine hc3.mono ?_
              rintro e w4 ⟨o4, rfl, ho4, b4⟩
              obtain ⟨g4, cap4, rfl, _, hcap4, _⟩ := outs_cells ho4 (by simp)
              have hB4 := hB3.trans (b4.mono hB3.size)
              have hl4 := lives_any w4 (tab_below ht hB4 h3) (by have := hB4.size; omega)
              clear ho4
              go_wp2_with (go_at_call 4; fail)
              refine hl4.mono ?_
              rintro e w5 ⟨rfl, b5⟩
              go_wp2
              go_ret
              exact ⟨rfl, hB4.trans (b5.mono hB4.size)⟩
            · have hsy1 := hsy (some ⟨g2, 5, none⟩) (by rw [if_neg hcp])
              clear hsy
              go_wp2_with (go_at_call 6; fail)
              refine hsy1.mono ?_
              rintro e w3 ⟨rfl, b3⟩
              have hB3 := hB2.trans (b3.mono hB2.size)
              have hc3 := cut_any ⟨#[32, 9, 10, 32]⟩ w3 (by decide)
              rw [blank_text] at hc3
              go_wp2_with (go_at_call 5; fail)
              refine hc3.mono ?_
              rintro e w4 ⟨o4, rfl, ho4, b4⟩
              obtain ⟨g4, cap4, rfl, _, hcap4, _⟩ := outs_cells ho4 (by simp)
              have hB4 := hB3.trans (b4.mono hB3.size)
              have hl4 := lives_any w4 (tab_below ht hB4 h3) (by have := hB4.size; omega)
              clear ho4
              go_wp2_with (go_at_call 4; fail)
              refine hl4.mono ?_
              rintro e w5 ⟨rfl, b5⟩
              go_wp2
              go_ret
              exact ⟨rfl, hB4.trans (b5.mono hB4.size)⟩
end Go.Proofs.YtbfgnfcecfjlnabDoor
