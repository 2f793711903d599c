/- What the closures do that are told keys; Skip and Needs of the example's selectors. -/
import Derived.Test.YtdiljkmlneeboaaAsk
namespace Go.Proofs.Ytdiljkmlneeboaa
open Go.RowKit
set_option maxRecDepth 100000

set_option maxHeartbeats 1000000 in
theorem tell26 {w : World} {b : Nat} {f : Flt} (hf : f.ok) (h : FAt w b 27 f) (k : Nat) (hk : k < 4294967296) : Calls Try.prog 26 #[.int .u32 (k : Nat), .pointer (some ⟨b, 0, none⟩)] w fun e w' => e = .returned (.tuple #[]) ∧ FAt w' b 27 (f.add k) ∧ KeepX b w w' := by
  have ha := add_any f hf k hk w
  have HF := hid_mk h
  obtain ⟨⟨k0, k1, k2, k3⟩, f0, f1, f2, f3⟩ := h.cells
  obtain ⟨r, hr⟩ : ∃ r, r = f.add k := ⟨_, rfl⟩
  rw [← hr] at ha ⊢
  clear hr h
  unfold Flt.v at ha
  go_enter Try.func26, Try.ntmps26
  go_wp2_with (go_at_call 8; fail)
  refine ha.mono ?_
  rintro e w1 ⟨rfl, hB1⟩
  have HF1 := hid_mk (HF.out.keep hB1)
  have HB1 := hid_mk hB1
  clear k0 k1 k2 k3 f0 f1 f2 f3 HF hB1 ha
  obtain ⟨⟨k0, k1, k2, k3⟩, f0, f1, f2, f3⟩ := HF1.out.cells
  go_wp2
  have hr := HF1.out.put r
  have hX : KeepX b w (put4 w1 b r) := (KeepX.of HB1.out).trans ⟨rfl, rfl, rfl, by simp [put4], fun k hk hn => by
    unfold put4
    rw [Below.heap_setCell _ _ _ _ hn, Below.heap_setCell _ _ _ _ hn, Below.heap_setCell _ _ _ _ hn, Below.heap_setCell _ _ _ _ hn]⟩
  unfold put4 at hr hX
  exact bodyPost_end (v := .tuple #[]) (by simp [results, Try.results26, go_sem]) rfl ⟨rfl, hr, hX⟩

theorem info25 : ∃ i z, Try.prog.info? 25 = some i ∧ i.zero = some z ∧ i.size = 1 ∧ i.bytes = 4 ∧ z.cells.size = 1 := ⟨_, _, by rfl, by rfl, by rfl, by rfl, by rfl⟩

set_option maxHeartbeats 1000000 in
theorem tell27 {w : World} {b : Nat} (h : w.heap[b]? = some (.cells #[.slice none 0 0] 40 (0, 0))) (k : Nat) : Calls Try.prog 27 #[.int .u32 (k : Nat), .pointer (some ⟨b, 0, none⟩)] w fun e w' => e = .returned (.tuple #[]) ∧ (∃ g cap, w'.heap[b]? = some (.cells #[.slice (some ⟨g, 0, none⟩) 1 cap] 40 (0, 0)) ∧ w'.cell? ⟨g, 0, none⟩ = some (.int .u32 (k : Nat)) ∧ g < w'.heap.size) ∧ KeepX b w w' := by
  obtain ⟨i0, z0, hi, hz0, hz1, hz2, hz3⟩ := info25
  have hbl : b < w.heap.size := (Array.getElem?_eq_some_iff.1 h).1
  have c0 : w.cell? ⟨b, 0, none⟩ = some (.slice none 0 0) := cellAt h 0
  have hN : (w.alloc (.cells #[.int .u32 (k : Nat)] 25)).ownsRow w.heap.size 25 1 (.slice none 0 0) 0 [] := ⟨rfl, .inl ⟨rfl, rfl⟩⟩
  have hcell : ∀ (j : Nat) u, [Value.int .u32 ((k : Nat) : Int)][j]? = some u → (w.alloc (.cells #[.int .u32 (k : Nat)] 25)).cell? (Addr.add ⟨w.heap.size, 0, none⟩ j) = some u := fun j u hu => by
    have hj : j = 0 := by
      have := (List.getElem?_eq_some_iff.1 hu).1
      simp at this
      exact this
    subst hj
    rw [← hu]
    show World.cell? _ ⟨w.heap.size, 0 + 0, none⟩ = _
    rw [cellAt (heap_alloc_last w _)]
    rfl
  have HH := hid_mk h
  clear h
  go_enter Try.func27, Try.ntmps27
  go_wp2_with (at_builtin; with_reducible refine wpList_append_own _ rfl _ _ 40 rfl w.heap.size 25 i0 z0 1 4 Try.underlying40 hi hz0 hz1 hz2 hz3 (by decide) (.slice none 0 0) 0 [] rfl hN ⟨w.heap.size, 0, none⟩ 1 1 [.int .u32 ((k : Nat) : Int)] rfl rfl hcell ?c1 ?c2 ?c3 ?c4 ?_)
  case c1 => intro u hu; rw [List.mem_singleton.1 hu]; rfl
  case c2 => decide
  case c3 => decide
  case c4 => simp
  intro v' w2 ho2 hg _
  obtain ⟨g, cap, rfl⟩ : ∃ g cap, v' = .slice (some ⟨g, 0, none⟩) 1 cap := by
    rcases ho2.2 with ⟨_, h0⟩ | ⟨g, cap, cur, e, _⟩
    · omega
    · exact ⟨g, cap, e⟩
  have hX2 : KeepX b w w2 := (KeepX.of ((Below.refl w.heap.size w).alloc (Nat.le_refl _) _)).trans ⟨hg.os, hg.tape, hg.output, hg.size, fun j hj _ => hg.block j hj (by simp [Value.ownBlock])⟩
  have hb2 : w2.heap[b]? = some (.cells #[.slice none 0 0] 40 (0, 0)) := by
    rw [hg.block b (by simp; omega) (by simp [Value.ownBlock]), Below.heap_alloc _ _ _ hbl]
    exact HH.out
  have hgc : w2.cell? ⟨g, 0, none⟩ = some (.int .u32 (k : Nat)) := (ho2.cellAt 0 (by decide)).trans rfl
  have hgl : w.heap.size ≤ g ∧ g < w2.heap.size := by
    rcases ho2.2 with ⟨e, _⟩ | ⟨g', cap', cur, e, hge, hgh, _⟩
    · cases e
    · cases e
      exact ⟨hge, (Array.getElem?_eq_some_iff.1 hgh).1⟩
  have m0 : w2.cell? ⟨b, 0, none⟩ = some (.slice none 0 0) := cellAt hb2 0
  have m1 : w2.frozen? ⟨b, 0, none⟩ = false := by simp [World.frozen?, hb2]
  have HX2 := hid_mk hX2
  have HB2 := hid_mk hb2
  have HG := hid_mk hgc
  clear ho2 hg hX2 hb2 hgc hN hcell c0 HH hi hz0 hz1 hz2 hz3
  go_wp2
  refine bodyPost_end (v := .tuple #[]) (by simp [results, Try.results27, go_sem]) rfl ⟨rfl, ⟨g, cap, ?_, ?_, by simpa using hgl.2⟩, HX2.out.trans ⟨rfl, rfl, rfl, by simp, fun j _ hn => Below.heap_setCell _ _ _ _ hn⟩⟩
  · rw [set_at 0 _ _ HB2.out]
    rfl
  · rw [World.cell?_of_block (Below.heap_setCell _ _ _ _ (by dsimp only; omega))]
    exact HG.out

theorem or_ne (x j : Nat) : x ||| 2 ^ j ≠ 0 := fun h => by
  have h1 : (x ||| 2 ^ j).testBit j = true := by rw [Nat.testBit_or, Nat.testBit_two_pow_self, Bool.or_true]
  rw [h] at h1
  simp at h1
theorem bit_ne (f : Flt) (n : Nat) : (f.bit n).eqb fz = false := by
  unfold Flt.eqb fz
  refine decide_eq_false fun h => ?_
  obtain ⟨h1, h2, h3, h4⟩ := h
  unfold Flt.bit at h1 h2 h3 h4
  by_cases e0 : n / 64 = 0
  · rw [if_pos e0] at h1; exact or_ne _ _ h1
  · rw [if_neg e0] at h2 h3 h4
    by_cases e1 : n / 64 = 1
    · rw [if_pos e1] at h2; exact or_ne _ _ h2
    · rw [if_neg e1] at h3 h4
      by_cases e2 : n / 64 = 2
      · rw [if_pos e2] at h3; exact or_ne _ _ h3
      · rw [if_neg e2] at h4; exact or_ne _ _ h4
theorem add_ne (f : Flt) (k : Nat) : (f.add k).eqb fz = false := bit_ne _ _
theorem fz_ok : fz.ok := ⟨by decide, by decide, by decide, by decide⟩
theorem eqb_self (f : Flt) : f.eqb f = true := decide_eq_true ⟨rfl, rfl, rfl, rfl⟩

set_option maxHeartbeats 1000000 in
theorem skip_1 {w : World} {P C A : Nat} {v1 v2 : Value} (hP : w.heap[P]? = some (.cells #[.slice (some ⟨A, 0, none⟩) 1 1, v1, v2] 48 (0, 0))) (hC : w.heap[C]? = some (.cells #[.int .i64 2, .int .i64 3] 3 (0, 0))) (hA : SAt w A ⟨#[97]⟩) :
    Calls Try.prog 17 #[.agg #[.int .u64 0, .int .u64 0, .int .u64 0, .int .u64 0], .agg #[.slice (some ⟨P, 0, none⟩) 3 3, .slice (some ⟨C, 0, none⟩) 2 2]] w fun e w' => e = .returned (.bool true) ∧ Below w.heap.size w w' := by
  have hlC : C < w.heap.size := (Array.getElem?_eq_some_iff.1 hC).1
  have hlP : P < w.heap.size := (Array.getElem?_eq_some_iff.1 hP).1
  have hlA : A < w.heap.size := (Array.getElem?_eq_some_iff.1 hA).1
  obtain ⟨w1, hw1⟩ : ∃ w1, w1 = ((w.alloc (.cells #[.int .u64 0, .int .u64 0, .int .u64 0, .int .u64 0] 27)).alloc (.cells #[.slice (some ⟨P, 0, none⟩) 3 3, .slice (some ⟨C, 0, none⟩) 2 2] 36)).alloc (.cells #[.int .u64 0, .int .u64 0, .int .u64 0, .int .u64 0] 27) := ⟨_, rfl⟩
  have hB1 : Below w.heap.size w w1 := by rw [hw1]; exact (((Below.refl _ _).alloc (Nat.le_refl _) _).alloc (by simp) _).alloc (by simp; omega) _
  have hf1 : FAt w1 (w.heap.size + 2) 27 fz := by rw [hw1]; exact alloc_at _ _ _ (by simp)
  have hf0 : FAt w1 w.heap.size 27 fz := by
    rw [hw1]
    unfold FAt
    rw [Below.heap_alloc _ _ _ (by simp; omega), Below.heap_alloc _ _ _ (by simp)]
    exact heap_alloc_last w _
  have hs1 : w1.heap.size = w.heap.size + 3 := by rw [hw1]; simp
  have hask := asks_26 (Q := fun w' => FAt w' (w.heap.size + 2) 27 (fz.add kA)) ((hB1.block _ hlP).trans hP) ((hB1.block _ hlC).trans hC) ((hB1.block _ hlA).trans hA) (b := w.heap.size + 2) (by omega) (fun w' hw' => tell26 fz_ok (hf1.keep hw') kA kA_lt)
  have HF0 := hid_mk hf0
  have HB1 := hid_mk hB1
  have HS1 := hid_mk hs1
  have HW1 := hid_mk hw1
  have hE : ∀ W : World, (Op.equalIn 10000 27 (.agg #[.int .u64 ((fz.add kA).a : Int), .int .u64 ((fz.add kA).b : Int), .int .u64 ((fz.add kA).c : Int), .int .u64 ((fz.add kA).d : Int)]) (.agg #[.int .u64 0, .int .u64 0, .int .u64 0, .int .u64 0])).run Try.prog W = .ok false W := fun W => by
    have h := flt_eq W (fz.add kA) fz
    rw [add_ne] at h
    exact h
  generalize fz.add kA = r at hask hE
  clear hB1 hf1 hf0 hs1 hw1 hP hC hA
  go_enter Try.func17, Try.ntmps17
  go_wp2_with (go_at_call 24; fail)
  rw [← HW1.out]
  refine hask.mono ?_
  rintro e w2 ⟨rfl, hF2, hX⟩
  have hF0 : FAt w2 w.heap.size 27 fz := (hX.block _ (by rw [HS1.out]; omega) (by omega)).trans HF0.out
  have HB := hid_mk (HB1.out.trans (hX.below (B := w.heap.size) (by omega) (by rw [HS1.out]; omega)))
  obtain ⟨k0, k1, k2, k3⟩ := hF2.cells.1
  obtain ⟨m0, m1, m2, m3⟩ := hF0.cells.1
  unfold fz at m0 m1 m2 m3
  clear hask hF2 hX hF0 HF0 HB1 HS1 HW1
  go_wp2
  go_ret
  exact ⟨rfl, HB.out⟩

set_option maxHeartbeats 1000000 in
theorem asks_0 {w : World} {P b : Nat} : Calls Try.prog 24 #[.agg #[.slice (some ⟨P, 0, none⟩) 1 1, .slice none 0 0], .func (.func 26) #[] #[.pointer (some ⟨b, 0, none⟩)]] w fun e w' => e = .returned (.tuple #[]) ∧ Below w.heap.size w w' := by
  have HB : Hid (∀ o, Below w.heap.size w (w.alloc o)) := fun o => (Below.refl _ _).alloc (Nat.le_refl _) _
  go_enter Try.func24, Try.ntmps24
  go_wp2
  refine wp_loop_rounds 1 ?_
  rw [rounds_succ]
  go_wp2
  exact bodyPost_end (v := .tuple #[]) (by simp [results, Try.results24, go_sem]) rfl ⟨rfl, HB.out _⟩

set_option maxHeartbeats 1000000 in
theorem skip_0 {w : World} {P : Nat} :
    Calls Try.prog 17 #[.agg #[.int .u64 0, .int .u64 0, .int .u64 0, .int .u64 0], .agg #[.slice (some ⟨P, 0, none⟩) 1 1, .slice none 0 0]] w fun e w' => e = .returned (.bool false) ∧ Below w.heap.size w w' := by
  obtain ⟨w1, hw1⟩ : ∃ w1, w1 = ((w.alloc (.cells #[.int .u64 0, .int .u64 0, .int .u64 0, .int .u64 0] 27)).alloc (.cells #[.slice (some ⟨P, 0, none⟩) 1 1, .slice none 0 0] 36)).alloc (.cells #[.int .u64 0, .int .u64 0, .int .u64 0, .int .u64 0] 27) := ⟨_, rfl⟩
  have hB1 : Below w.heap.size w w1 := by rw [hw1]; exact (((Below.refl _ _).alloc (Nat.le_refl _) _).alloc (by simp) _).alloc (by simp; omega) _
  have hf1 : FAt w1 (w.heap.size + 2) 27 fz := by rw [hw1]; exact alloc_at _ _ _ (by simp)
  have hf0 : FAt w1 w.heap.size 27 fz := by
    rw [hw1]
    unfold FAt
    rw [Below.heap_alloc _ _ _ (by simp; omega), Below.heap_alloc _ _ _ (by simp)]
    exact heap_alloc_last w _
  have hask := asks_0 (w := w1) (P := P) (b := w.heap.size + 2)
  have HF0 := hid_mk hf0
  have HF1 := hid_mk hf1
  have HB1 := hid_mk hB1
  have HW1 := hid_mk hw1
  have hE : ∀ W : World, (Op.equalIn 10000 27 (.agg #[.int .u64 0, .int .u64 0, .int .u64 0, .int .u64 0]) (.agg #[.int .u64 0, .int .u64 0, .int .u64 0, .int .u64 0])).run Try.prog W = .ok true W := fun W => by
    have h := flt_eq W fz fz
    rw [eqb_self] at h
    exact h
  clear hB1 hf1 hf0 hw1
  go_enter Try.func17, Try.ntmps17
  go_wp2_with (go_at_call 24; fail)
  rw [← HW1.out]
  refine hask.mono ?_
  rintro e w2 ⟨rfl, hB2⟩
  have hF0 : FAt w2 w.heap.size 27 fz := HF0.out.keep hB2
  have hF2 : FAt w2 (w.heap.size + 2) 27 fz := HF1.out.keep hB2
  have HB := hid_mk (HB1.out.trans (hB2.mono HB1.out.size))
  obtain ⟨k0, k1, k2, k3⟩ := hF2.cells.1
  obtain ⟨m0, m1, m2, m3⟩ := hF0.cells.1
  unfold fz at m0 m1 m2 m3 k0 k1 k2 k3
  clear hask hF2 hB2 hF0 HF0 HF1 HB1 HW1
  go_wp2
  go_ret
  exact ⟨rfl, HB.out⟩

set_option maxHeartbeats 1000000 in
theorem need23 {w : World} {P C A b bc : Nat} {v1 v2 : Value} (hP : w.heap[P]? = some (.cells #[.slice (some ⟨A, 0, none⟩) 1 1, v1, v2] 48 (0, 0))) (hC : w.heap[C]? = some (.cells #[.int .i64 2, .int .i64 3] 3 (0, 0))) (hA : SAt w A ⟨#[97]⟩) (hb : b ≠ C) (hc : w.heap[bc]? = some (.cells #[.slice (some ⟨P, 0, none⟩) 3 3, .slice (some ⟨C, 0, none⟩) 2 2] 36 (0, 0))) (hk : w.heap[b]? = some (.cells #[.slice none 0 0] 40 (0, 0))) :
    Calls Try.prog 23 #[.func (.func 27) #[] #[.pointer (some ⟨b, 0, none⟩)], .pointer (some ⟨bc, 0, none⟩)] w fun e w' => e = .returned (.tuple #[]) ∧ (∃ g cap, w'.heap[b]? = some (.cells #[.slice (some ⟨g, 0, none⟩) 1 cap] 40 (0, 0)) ∧ w'.cell? ⟨g, 0, none⟩ = some (.int .u32 (kA : Nat)) ∧ g < w'.heap.size) ∧ KeepX b w w' := by
  have hask := asks_27 (Q := fun w' => ∃ g cap, w'.heap[b]? = some (.cells #[.slice (some ⟨g, 0, none⟩) 1 cap] 40 (0, 0)) ∧ w'.cell? ⟨g, 0, none⟩ = some (.int .u32 (kA : Nat)) ∧ g < w'.heap.size) hP hC hA hb (fun w' hw' => tell27 ((hw'.block _ (Array.getElem?_eq_some_iff.1 hk).1).trans hk) kA)
  have c0 : w.cell? ⟨bc, 0, none⟩ = some (.slice (some ⟨P, 0, none⟩) 3 3) := cellAt hc 0
  have c1 : w.cell? ⟨bc, 1, none⟩ = some (.slice (some ⟨C, 0, none⟩) 2 2) := cellAt hc 1
  clear hP hC hA hb hc hk
  go_enter Try.func23, Try.ntmps23
  go_wp2_with (go_at_call 24; fail)
  refine hask.mono ?_
  rintro e w2 ⟨rfl, hq, hX⟩
  have HQ := hid_mk hq
  have HX := hid_mk hX
  clear hask hq hX c0 c1
  go_wp2
  exact bodyPost_end (v := .tuple #[]) (by simp [results, Try.results23, go_sem]) rfl ⟨rfl, HQ.out, HX.out⟩

set_option maxHeartbeats 1000000 in
theorem needs_1 {w : World} {P C A : Nat} {v1 v2 : Value} (hP : w.heap[P]? = some (.cells #[.slice (some ⟨A, 0, none⟩) 1 1, v1, v2] 48 (0, 0))) (hC : w.heap[C]? = some (.cells #[.int .i64 2, .int .i64 3] 3 (0, 0))) (hA : SAt w A ⟨#[97]⟩) :
    Calls Try.prog 15 #[.agg #[.slice (some ⟨P, 0, none⟩) 3 3, .slice (some ⟨C, 0, none⟩) 2 2]] w fun e w' => ∃ g cap, e = .returned (.slice (some ⟨g, 0, none⟩) 1 cap) ∧ w'.cell? ⟨g, 0, none⟩ = some (.int .u32 (kA : Nat)) ∧ g < w'.heap.size ∧ Below w.heap.size w w' := by
  have hlC : C < w.heap.size := (Array.getElem?_eq_some_iff.1 hC).1
  have hlP : P < w.heap.size := (Array.getElem?_eq_some_iff.1 hP).1
  have hlA : A < w.heap.size := (Array.getElem?_eq_some_iff.1 hA).1
  obtain ⟨w1, hw1⟩ : ∃ w1, w1 = w.alloc (.cells #[.slice (some ⟨P, 0, none⟩) 3 3, .slice (some ⟨C, 0, none⟩) 2 2] 36) := ⟨_, rfl⟩
  have hB1 : Below w.heap.size w w1 := by rw [hw1]; exact (Below.refl _ _).alloc (Nat.le_refl _) _
  have hs1 : w1.heap.size = w.heap.size + 1 := by rw [hw1]; simp
  have hc1 : w1.heap[w.heap.size]? = some (.cells #[.slice (some ⟨P, 0, none⟩) 3 3, .slice (some ⟨C, 0, none⟩) 2 2] 36 (0, 0)) := by rw [hw1]; exact heap_alloc_last w _
  have hg : Calls Try.prog 22 #[.func (.func 23) #[] #[.pointer (some ⟨w.heap.size, 0, none⟩)]] w1 fun e w' => ∃ g cap, e = .returned (.slice (some ⟨g, 0, none⟩) 1 cap) ∧ w'.cell? ⟨g, 0, none⟩ = some (.int .u32 (kA : Nat)) ∧ g < w'.heap.size ∧ Below w.heap.size w w' := by
    obtain ⟨w2, hw2⟩ : ∃ w2, w2 = w1.alloc (.cells #[.slice none 0 0] 40) := ⟨_, rfl⟩
    have hB2 : Below w1.heap.size w1 w2 := by rw [hw2]; exact (Below.refl _ _).alloc (Nat.le_refl _) _
    have hs2 : w2.heap.size = w.heap.size + 2 := by rw [hw2]; simp; omega
    have hk2 : w2.heap[w1.heap.size]? = some (.cells #[.slice none 0 0] 40 (0, 0)) := by rw [hw2]; exact heap_alloc_last w1 _
    have hn := need23 (b := w1.heap.size) (bc := w.heap.size) ((hB2.block _ (by omega)).trans ((hB1.block _ hlP).trans hP)) ((hB2.block _ (by omega)).trans ((hB1.block _ hlC).trans hC)) ((hB2.block _ (by omega)).trans ((hB1.block _ hlA).trans hA)) (by omega) ((hB2.block _ (by omega)).trans hc1) hk2
    have HW2 := hid_mk hw2
    have HB12 := hid_mk (hB1.trans (hB2.mono hB1.size))
    have HS1 := hid_mk hs1
    have HS2 := hid_mk hs2
    clear hw2 hB2 hk2 hc1 hB1 hs1 hs2 hw1 hP hC hA
    go_enter Try.func22, Try.ntmps22
    go_wp2_with (go_at_call 23; fail)
    rw [← HW2.out]
    refine hn.mono ?_
    rintro e w3 ⟨rfl, ⟨g, cap, hg, hgc, hgl⟩, hX⟩
    have k0 : w3.cell? ⟨w1.heap.size, 0, none⟩ = some (.slice (some ⟨g, 0, none⟩) 1 cap) := cellAt hg 0
    have HB3 := hid_mk (HB12.out.trans (hX.below (B := w.heap.size) (by rw [HS1.out]; omega) (by rw [HS2.out]; omega)))
    have HGC := hid_mk hgc
    have HGL := hid_mk hgl
    have hso := sort_one g cap w3
    have hco := compact_one g cap w3
    clear hn hg hgc hgl hX HB12 HS1 HS2 HW2
    go_wp2_with (go_at_call 28; fail)
    refine hso.mono ?_
    rintro e w4 ⟨rfl, rfl⟩
    clear hso
    go_wp2_with (go_at_call 29; fail)
    refine hco.mono ?_
    rintro e w5 ⟨rfl, rfl⟩
    go_wp2
    go_ret
    exact ⟨g, cap, rfl, HGC.out, HGL.out, HB3.out⟩
  have HW1 := hid_mk hw1
  clear hw1 hc1 hs1 hB1 hP hC hA
  go_enter Try.func15, Try.ntmps15
  go_wp2_with (go_at_call 22; fail)
  rw [← HW1.out]
  refine hg.mono ?_
  rintro e w2 ⟨g, cap, rfl, h1, h2, h3⟩
  have HH := hid_mk (And.intro h1 (And.intro h2 h3))
  clear hg h1 h2 h3
  go_wp2
  go_ret
  exact ⟨g, cap, rfl, HH.out⟩

set_option maxHeartbeats 1000000 in
theorem same_1 {w : World} {g c h d k : Nat} (h1 : w.cell? ⟨g, 0, none⟩ = some (.int .u32 (k : Nat))) (h2 : w.cell? ⟨h, 0, none⟩ = some (.int .u32 (k : Nat))) :
    Calls Try.prog 14 #[.slice (some ⟨g, 0, none⟩) 1 c, .slice (some ⟨h, 0, none⟩) 1 d] w fun e w' => e = .returned (.bool true) ∧ Below w.heap.size w w' := by
  have hne : (((k : Nat) : Int) != ((k : Nat) : Int)) = false := by simp
  have HB := hid_mk (Below.refl w.heap.size w)
  generalize ((k : Nat) : Int) = kk at *
  go_enter Try.func14, Try.ntmps14
  go_wp2
  refine wp_loop_rounds 2 ?_
  rw [rounds_succ]
  go_upto_region 6 with (fail)
  go_quiet (fail)
  go_wp2
  rw [rounds_succ]
  go_wp2
  go_ret
  exact ⟨rfl, ⟨HB.out.os, HB.out.tape, HB.out.output, HB.out.size, HB.out.block⟩⟩
end Go.Proofs.Ytdiljkmlneeboaa
