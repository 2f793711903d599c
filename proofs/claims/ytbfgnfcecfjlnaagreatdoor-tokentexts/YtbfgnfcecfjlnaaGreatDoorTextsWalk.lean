/- TokenTexts is true whatever the bytes, where the laid table holds. -/
import Derived.Test.YtbfgnfcecfjlnaaGreatDoorAlike
import Derived.Test.YtbfgnfcecfjlnaaGreatDoorRRefToks
import Derived.Test.YtbfgnfcecfjlnaaGreatDoorRRunes
namespace Go.Proofs.YtbfgnfcecfjlnaaGreatDoor
open Go.RowKit

theorem toks_len : ∀ (n : Nat) (l : List Int), l.length ≤ n → (toks l).length ≤ l.length
  | 0, l, h => by
    have : l = [] := List.length_eq_zero_iff.1 (by omega)
    subst this; simp [toks, toksF]
  | n + 1, [], _ => by simp [toks, toksF]
  | n + 1, c :: t, h => by
    have hl := (one_less c t).length_le
    have ih := toks_len n (oneZ (c :: t)).2 (by simp at h; omega)
    have ho : (oneZ (c :: t)).1.toList.length ≤ 1 := by cases (oneZ (c :: t)).1 <;> simp
    rw [toks_cons, List.length_append]
    simp only [List.length_cons]
    omega

set_option maxHeartbeats 2000000 in
set_option maxRecDepth 100000 in
theorem texts_walk (W : World) (a : Option Addr) (len cap : Nat) (zs : List Int) (hrow : RowAt .u8 W (.slice a len cap) zs) (hb : ∀ n ∈ zs, (Lit.int .u8 n).wf = true) (hm : zs.length ≤ maxLen) (hT : Tab W) :
    Calls Tryz.prog 3 #[.slice a len cap] W fun e w' => e = .returned (.bool true) ∧ Below W.heap.size W w' := by
  unfold maxLen at hm
  have h3 : 3 < W.heap.size := World.block_lt_of_cell? W _ hT
  have hba := hrow.bytes hb
  obtain ⟨a', cap', e, hcap, hc⟩ := hrow
  cases e
  clear hc hb
  by_cases hbig : 5000 < zs.length
  · have hb2 : (5000 : Int) < (zs.length : Int) := by omega
    have hli := lives_any W hT h3
    clear hba
    go_enter Tryz.func3, Tryz.ntmps3
    go_wp2_with (go_at_call 5; fail)
    refine (hli).mono ?_
    rintro e w1 ⟨rfl, b1⟩
    go_wp2
    go_ret
    exact ⟨rfl, b1⟩
  · have hb2 : ¬ (5000 : Int) < (zs.length : Int) := by omega
    have hs : (strOfNums zs).size ≤ 5000 := by rw [strOf_size]; omega
    generalize strOfNums zs = s at *
    have hru := runes_any _ s W (by omega) hba
    have hlr := runes_len s
    go_enter Tryz.func3, Tryz.ntmps3
    go_wp2_with (go_at_call 8; fail)
    refine (hru).mono ?_
    rintro e w1 ⟨u1, rfl, hown, b1⟩
    have hrow1 := RowAt.own hown
    obtain ⟨a1, c1, hu⟩ : ∃ a1 c1, u1 = .slice a1 (runesZ s).length c1 := by
      rcases hown.2 with ⟨hv, hz⟩ | ⟨g2, c2, cur, hv, _⟩
      · exact ⟨none, 0, by rw [hv, hz]⟩
      · exact ⟨_, c2, hv⟩
    have hlow : ∀ ad, a1 = some ad → ad.block < w1.heap.size := by
      intro ad e
      rcases hown.2 with ⟨hv, _⟩ | ⟨g2, c3, cur, hv, _, hg2, _⟩
      · rw [hv, e] at hu; cases hu
      · rw [hv, e] at hu
        cases hu
        exact (Array.getElem?_eq_some_iff.1 hg2).1
    subst hu
    have ht := tokens_any a1 c1 (runesZ s) w1 (runes_fine s (by omega)) hrow1 hlow
    clear hown hrow1 hlow hru
    go_wp2_with (go_at_call 7; fail)
    refine (ht).mono ?_
    rintro e w2 ⟨o2, rfl, ho2, b2⟩
    have B2 : Below W.heap.size W w2 := b1.trans (b2.mono b1.size)
    have hrr := R2.refRunes_any _ s w2 (by omega) (hba.below B2)
    clear ht
    go_wp2_with (go_at_call 10; fail)
    refine (hrr).mono ?_
    rintro e w3 ⟨u3', rfl, hown3, b3⟩
    have B3 : Below W.heap.size W w3 := B2.trans (b3.mono B2.size)
    have hfine : R2.Fine (runesZ s) := ⟨(runes_fine s (by omega)).1, (runes_fine s (by omega)).2⟩
    have hrt := R2.rtokens_any (RowAt.own hown3) hfine
    clear hrr hown3
    go_wp2_with (go_at_call 9; fail)
    refine (hrt).mono ?_
    rintro e w4 ⟨o4, rfl, ho4, b4⟩
    have B4 : Below W.heap.size W w4 := B3.trans (b4.mono B3.size)
    have ho4' : Outs w3.heap.size w4 o4 (toks (runesZ s)) := ho4
    have hl4 := toks_len _ (runesZ s) (Nat.le_refl _)
    have hsy := same_yes _ _ (toks (runesZ s)) w4 (((TokAt.outs ho2).below b3).below b4) (TokAt.outs ho4') (by omega)
    clear ho4 ho4' ho2 hrt
    go_wp2_with (go_at_call 6; fail)
    refine (hsy).mono ?_
    rintro e w5 ⟨rfl, b5⟩
    have B5 : Below W.heap.size W w5 := B4.trans (b5.mono B4.size)
    have hli := lives_any w5 (tab_below hT B5 h3) (by have := B5.size; omega)
    clear hsy
    go_wp2_with (go_at_call 5; fail)
    refine (hli).mono ?_
    rintro e w6 ⟨rfl, b6⟩
    go_wp2
    go_ret
    exact ⟨rfl, B5.trans (b6.mono B5.size)⟩
end Go.Proofs.YtbfgnfcecfjlnaaGreatDoor
