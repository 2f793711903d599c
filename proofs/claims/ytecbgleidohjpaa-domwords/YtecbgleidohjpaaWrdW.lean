/- DomWords: the walk. -/
import Derived.Test.YtecbgleidohjpaaWrdN
namespace Go.Proofs.Ytecbgleidohjpaa.N
open Go.RowKit
set_option maxRecDepth 100000

set_option maxHeartbeats 1000000 in
theorem words_walk (W : World) (s : ByteArray) (hm : s.size ≤ maxLen) : Calls Try.prog 4 #[.string s] W fun e w' => e = .returned (.bool true) ∧ Below W.heap.size W w' := by
  unfold maxLen at hm
  by_cases hs : s.size ≤ 3000
  · have h1 := words_any s hs W
    have H2 : Hid (∀ w', _) := fun w' => rwords_any s hs w'
    have HLV : Hid (∀ w', Calls Try.prog 10 #[] w' fun e w'' => e = .returned (.bool true) ∧ Below w'.heap.size w' w'') := fun w' => lives_any w'
    have hl : (wordsL s).length ≤ 100000 := by
      unfold wordsL Lib.closeSpans pieces
      have := (runB_lt s s.size).2
      dsimp only
      rw [List.length_map]
      split
      · rw [List.length_append]; simp; omega
      · omega
    have HT : Hid (∀ w' a1 a2 c1 c2, RowAt w' 1 a1 (wordsL s).length c1 (strsV (wordsL s)) → RowAt w' 1 a2 (wordsL s).length c2 (strsV (wordsL s)) → _) := fun w' a1 a2 c1 c2 r1 r2 => texts_same (w := w') (a1 := a1) (a2 := a2) (c1 := c1) (c2 := c2) r1 r2 hl
    clear hl
    generalize wordsL s = L at *
    go_enter Try.func4, Try.ntmps4
    go_wp2_with (go_at_call 19; fail)
    refine h1.mono ?_
    rintro e w1 ⟨a1, c1, rfl, r1, hB1⟩
    have HR1 := hid_mk r1
    have HB1 := hid_mk hB1
    clear h1 r1 hB1
    go_wp2_with (go_at_call 20; fail)
    refine (H2.out w1).mono ?_
    rintro e w2 ⟨a2, c2, rfl, r2, hB2⟩
    have HB2 : Hid (Below W.heap.size W w2) := HB1.out.trans (hB2.mono HB1.out.size)
    have h3 := HT.out w2 a1 a2 c1 c2 (HR1.out.keep hB2) r2
    clear H2 hB2 r2 HR1 HB1 HT
    go_wp2_with (go_at_call 18; fail)
    refine h3.mono ?_
    rintro e w3 ⟨rfl, hB3⟩
    have HB3 : Hid (Below W.heap.size W w3) := HB2.out.trans (hB3.mono HB2.out.size)
    clear h3 hB3 HB2
    go_wp2_with (go_at_call 10; refine (HLV.out _).mono ?_; rintro e w4 ⟨rfl, hB4⟩)
    go_ret
    exact ⟨rfl, HB3.out.trans (hB4.mono HB3.out.size)⟩
  · go_enter Try.func4, Try.ntmps4
    go_wp2
    go_ret
    exact ⟨rfl, Below.refl _ _⟩

end Go.Proofs.Ytecbgleidohjpaa.N
