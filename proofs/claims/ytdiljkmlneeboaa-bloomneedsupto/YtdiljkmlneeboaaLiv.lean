/- The chapter's example. -/
import Derived.Test.YtdiljkmlneeboaaTel
namespace Go.Proofs.Ytdiljkmlneeboaa
open Go.RowKit
set_option maxRecDepth 100000

set_option maxHeartbeats 4000000 in
theorem lives_any (w : World) : Calls Try.prog 6 #[] w fun e w' => e = .returned (.bool true) ∧ Below w.heap.size w w' := by
  obtain ⟨W0, hW0⟩ : ∃ W0, W0 = ((((((((w.alloc (.cells #[.int .i64 1, .string ⟨#[97]⟩, .int .i64 0, .string ⟨#[]⟩, .int .i64 0, .int .i64 0, .slice none 0 0] 47)).alloc (.cells #[.int .i64 1, .string ⟨#[98]⟩, .int .i64 0, .string ⟨#[]⟩, .int .i64 0, .int .i64 0, .slice none 0 0] 47)).alloc (.cells #[.int .i64 1, .string ⟨#[97]⟩, .int .i64 0, .string ⟨#[]⟩, .int .i64 0, .int .i64 0, .slice none 0 0] 47)).alloc (.cells #[.int .i64 1, .string ⟨#[98]⟩, .int .i64 0, .string ⟨#[]⟩, .int .i64 0, .int .i64 0, .slice none 0 0] 47)).alloc (.cells #[.int .i64 1, .string ⟨#[98]⟩, .int .i64 0, .string ⟨#[]⟩, .int .i64 0, .int .i64 0, .slice none 0 0] 47)).alloc (.cells #[.slice (some ⟨w.heap.size + 1 + 1, 0, none⟩) 1 1, .slice (some ⟨w.heap.size + 1 + 1 + 1, 0, none⟩) 1 1, .slice (some ⟨w.heap.size + 1 + 1 + 1 + 1, 0, none⟩) 1 1] 48)).alloc (.cells #[.int .i64 2, .int .i64 3] 3)).alloc (.cells #[.slice (some ⟨w.heap.size + 1 + 1 + 1 + 1 + 1, 0, none⟩) 3 3, .slice (some ⟨w.heap.size + 1 + 1 + 1 + 1 + 1 + 1, 0, none⟩) 2 2] 36)) := ⟨_, rfl⟩
  have hB0 : Below w.heap.size w W0 := by
    rw [hW0]
    exact ((((((((Below.refl _ _).alloc (Nat.le_refl _) _).alloc (by simp) _).alloc (by simp; omega) _).alloc (by simp; omega) _).alloc (by simp; omega) _).alloc (by simp; omega) _).alloc (by simp; omega) _).alloc (by simp; omega) _
  have hP : W0.heap[w.heap.size + 1 + 1 + 1 + 1 + 1]? = some (.cells #[.slice (some ⟨w.heap.size + 1 + 1, 0, none⟩) 1 1, .slice (some ⟨w.heap.size + 1 + 1 + 1, 0, none⟩) 1 1, .slice (some ⟨w.heap.size + 1 + 1 + 1 + 1, 0, none⟩) 1 1] 48 (0, 0)) := by rw [hW0, Below.heap_alloc _ _ _ (by simp; try omega), Below.heap_alloc _ _ _ (by simp; try omega)]; exact alloc_at _ _ _ (by simp)
  have hC : W0.heap[w.heap.size + 1 + 1 + 1 + 1 + 1 + 1]? = some (.cells #[.int .i64 2, .int .i64 3] 3 (0, 0)) := by rw [hW0, Below.heap_alloc _ _ _ (by simp; try omega)]; exact alloc_at _ _ _ (by simp)
  have hA : W0.heap[w.heap.size + 1 + 1]? = some (.cells #[.int .i64 1, .string ⟨#[97]⟩, .int .i64 0, .string ⟨#[]⟩, .int .i64 0, .int .i64 0, .slice none 0 0] 47 (0, 0)) := by rw [hW0, Below.heap_alloc _ _ _ (by simp; try omega), Below.heap_alloc _ _ _ (by simp; try omega), Below.heap_alloc _ _ _ (by simp; try omega), Below.heap_alloc _ _ _ (by simp; try omega), Below.heap_alloc _ _ _ (by simp; try omega)]; exact alloc_at _ _ _ (by simp)
  have hb : W0.heap[w.heap.size + 1]? = some (.cells #[.int .i64 1, .string ⟨#[98]⟩, .int .i64 0, .string ⟨#[]⟩, .int .i64 0, .int .i64 0, .slice none 0 0] 47 (0, 0)) := by rw [hW0, Below.heap_alloc _ _ _ (by simp; try omega), Below.heap_alloc _ _ _ (by simp; try omega), Below.heap_alloc _ _ _ (by simp; try omega), Below.heap_alloc _ _ _ (by simp; try omega), Below.heap_alloc _ _ _ (by simp; try omega), Below.heap_alloc _ _ _ (by simp; try omega)]; exact alloc_at _ _ _ (by simp)
  have hc : W0.heap[w.heap.size + 1 + 1 + 1 + 1 + 1 + 1 + 1]? = some (.cells #[.slice (some ⟨w.heap.size + 1 + 1 + 1 + 1 + 1, 0, none⟩) 3 3, .slice (some ⟨w.heap.size + 1 + 1 + 1 + 1 + 1 + 1, 0, none⟩) 2 2] 36 (0, 0)) := by rw [hW0]; exact alloc_at _ _ _ (by simp)
  have hn := needs_1 hP hC hA
  have HSK : Hid (∀ W, Below W0.heap.size W0 W → Calls Try.prog 17 #[.agg #[.int .u64 0, .int .u64 0, .int .u64 0, .int .u64 0], .agg #[.slice (some ⟨w.heap.size + 1 + 1 + 1 + 1 + 1, 0, none⟩) 3 3, .slice (some ⟨w.heap.size + 1 + 1 + 1 + 1 + 1 + 1, 0, none⟩) 2 2]] W fun e w' => e = .returned (.bool true) ∧ Below W.heap.size W w') := fun W hW =>
    skip_1 ((hW.block _ (Array.getElem?_eq_some_iff.1 hP).1).trans hP) ((hW.block _ (Array.getElem?_eq_some_iff.1 hC).1).trans hC) ((hW.block _ (Array.getElem?_eq_some_iff.1 hA).1).trans hA)
  have HBC : Hid (∀ W, Below W0.heap.size W0 W → SAt W (w.heap.size + 1) ⟨#[98]⟩) := fun W hW => (hW.block _ (Array.getElem?_eq_some_iff.1 hb).1).trans hb
  have HCC : Hid (∀ W, Below W0.heap.size W0 W → W.cell? ⟨w.heap.size + 1 + 1 + 1 + 1 + 1 + 1 + 1, 0, none⟩ = some (.slice (some ⟨w.heap.size + 1 + 1 + 1 + 1 + 1, 0, none⟩) 3 3) ∧ W.cell? ⟨w.heap.size + 1 + 1 + 1 + 1 + 1 + 1 + 1, 1, none⟩ = some (.slice (some ⟨w.heap.size + 1 + 1 + 1 + 1 + 1 + 1, 0, none⟩) 2 2)) := fun W hW => by
    have h := (hW.block _ (Array.getElem?_eq_some_iff.1 hc).1).trans hc
    exact ⟨cellAt h 0, cellAt h 1⟩
  have HW0 := hid_mk hW0
  have HB0 := hid_mk hB0
  obtain ⟨q0, q1⟩ := HCC.out W0 (Below.refl _ _)
  clear hW0 hB0 hP hC hA hb hc
  go_enter Try.func6, Try.ntmps6
  go_upto_region 3 with (fail)
  rw [← HW0.out]
  clear HW0
  go_wp2_with (go_at_call 15; fail)
  refine hn.mono ?_
  rintro e w1 ⟨g, cap, rfl, hg, hgl, hB1'⟩
  have hB1 : Below W0.heap.size W0 w1 := hB1'
  have hk1 := key_a w1
  clear hn q0 q1 hB1'
  go_wp2_with (go_at_call 7; fail)
  refine hk1.mono ?_
  rintro e w2 ⟨rfl, rfl⟩
  clear hk1
  obtain ⟨w3, hw3⟩ : ∃ w3, w3 = w2.alloc (.cells #[.int .u32 (kA : Nat)] 25) := ⟨_, rfl⟩
  have hB3 : Below w2.heap.size w2 w3 := by rw [hw3]; exact (Below.refl _ _).alloc (Nat.le_refl _) _
  have hk3 : w3.cell? ⟨w2.heap.size, 0, none⟩ = some (.int .u32 (kA : Nat)) := by rw [hw3]; exact cellAt (heap_alloc_last w2 _) 0
  have hs3 := same_1 (c := cap) (d := 1) ((hB3.cell (p := ⟨g, 0, none⟩) hgl).trans hg) hk3
  have HB3 := hid_mk (hB1.trans (hB3.mono hB1.size))
  have HW3 := hid_mk hw3
  clear hw3 hB3 hk3 hg hgl hB1
  go_wp2_with (go_at_call 14; fail)
  rw [← HW3.out]
  refine hs3.mono ?_
  rintro e w4 ⟨rfl, hB4⟩
  have HB4 := hid_mk (HB3.out.trans (hB4.mono HB3.out.size))
  clear hs3 hB4 HB3 HW3
  obtain ⟨q0, q1⟩ := HCC.out w4 HB4.out
  have hsk := HSK.out w4 HB4.out
  go_wp2_with (go_at_call 17; fail)
  refine hsk.mono ?_
  rintro e w5 ⟨rfl, hB5⟩
  have HB5 := hid_mk (HB4.out.trans (hB5.mono HB4.out.size))
  clear hsk hB5 HB4 q0 q1 HCC HSK
  obtain ⟨s0, s1, s2, s3, s4, s5, s6⟩ := (HBC.out w5 HB5.out).cells
  obtain ⟨w6, hw6⟩ : ∃ w6, w6 = (w5.alloc (.cells #[.int .i64 1, .string ⟨#[98]⟩, .int .i64 0, .string ⟨#[]⟩, .int .i64 0, .int .i64 0, .slice none 0 0] 47)).alloc (.cells #[.slice (some ⟨w5.heap.size, 0, none⟩) 1 1] 48) := ⟨_, rfl⟩
  have hB6 : Below w5.heap.size w5 w6 := by rw [hw6]; exact ((Below.refl _ _).alloc (Nat.le_refl _) _).alloc (by simp) _
  have HB6 := hid_mk (HB5.out.trans (hB6.mono HB5.out.size))
  have HW6 := hid_mk hw6
  have hs6 := skip_0 (w := w6) (P := w5.heap.size + 1)
  clear hw6 hB6 HB5 HBC
  go_wp2_with (go_at_call 17; fail)
  rw [← HW6.out]
  refine hs6.mono ?_
  rintro e w7 ⟨rfl, hB7⟩
  have HB7 := hid_mk (HB6.out.trans (hB7.mono HB6.out.size))
  have hk7 := key_a w7
  clear hs6 hB7 HB6 HW6 s0 s1 s2 s3 s4 s5 s6
  go_wp2_with (go_at_call 7; fail)
  refine hk7.mono ?_
  rintro e w8 ⟨rfl, rfl⟩
  have hk8 := rkey_a w8
  clear hk7
  go_wp2_with (go_at_call 9; fail)
  refine hk8.mono ?_
  rintro e w9 ⟨rfl, hB9⟩
  have HB9 := hid_mk (HB7.out.trans (hB9.mono HB7.out.size))
  clear hk8 hB9 HB7
  generalize ((kA : Nat) : Int) = kk at *
  go_wp2
  go_ret
  exact ⟨rfl, HB0.out.trans (HB9.out.mono HB0.out.size)⟩
end Go.Proofs.Ytdiljkmlneeboaa
