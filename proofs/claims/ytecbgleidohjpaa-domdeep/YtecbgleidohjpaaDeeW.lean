/- DomDeep: the walk. -/
import Derived.Test.YtecbgleidohjpaaDeeM
import Derived.Test.YtecbgleidohjpaaNonW
namespace Go.Proofs.Ytecbgleidohjpaa.N
open Go.RowKit
set_option maxRecDepth 100000

theorem eql_same (w : World) (a : Addr) : (binOp .eql 25 (.pointer (some a)) (.pointer (some a))).run Try.prog w = .ok (.bool true) w := by
  have hs : (Try.prog.info? 64).map (·.size) = some 2 := by kernel_rfl
  cases hj : Try.prog.info? 64 with
  | none => rw [hj] at hs; cases hs
  | some j =>
    have h : ∀ d : Nat, (Op.equalIn (d + 1) 25 (.pointer (some a)) (.pointer (some a))).run Try.prog w = .ok true w := fun d => by
      simp [Op.equalIn, run_underlying Try.underlying25, sizeOf, typeInfo, hj, run_sameAddr_same]
    simp only [binOp]
    simp [Op.equal, Op.maxDepth, h 9999]
set_option maxHeartbeats 4000000 in
theorem deep_walk (W : World) (n : Int) (hn : 0 ≤ n ∧ n < 18446744073709551616) : Calls Try.prog 7 #[.int .u64 n] W fun e w' => e = .returned (.bool true) ∧ Below W.heap.size W w' := by
  have HLV : Hid (∀ w', Calls Try.prog 10 #[] w' fun e w'' => e = .returned (.bool true) ∧ Below w'.heap.size w' w'') := fun w' => lives_any w'
  have heq := eql_same
  have h1 := tree_new sA W (by decide) name_a
  obtain ⟨K, hK, hK2⟩ : ∃ K : Nat, (n % 4 + 510 = K) ∧ 510 ≤ K ∧ K ≤ 513 := ⟨(n % 4 + 510).toNat, by omega, by omega⟩
  have HK := hid_mk hK
  clear hK
  have hr0 : 0 ≤ n % 4 ∧ n % 4 ≤ 3 := by omega
  have hw1 : IntKind.i64.wrap (n % 4) = n % 4 := by rw [IntKind.wrap_i64]; omega
  go_enter Try.func7, Try.ntmps7
  go_wp2_with (go_at_call 11; fail)
  refine h1.mono ?_
  rintro x w1 ⟨b1, rfl, hT1, hB1⟩
  rw [← chM_one] at hT1
  have HT1 := hid_mk hT1
  have HB1 := hid_mk hB1
  clear h1 hT1 hB1
  go_wp2
  rw [HK.out]
  clear hw1 hr0 HK
  generalize n % 4 = n4
  go_loopw [3, 6] (fun a3 a6 wr => ∃ (i b : Nat), 1 ≤ i ∧ i ≤ K ∧ i ≤ 512 ∧ a6 = .int .i64 (i : Int) ∧ a3 = .pointer (some ⟨b, 0, none⟩) ∧ Hid (Tree wr (.pointer (some ⟨b, 0, none⟩)) (chM i) ((i : Int) + 1)) ∧ Hid (Below W.heap.size W wr)) (fun _ a6 _ => 600 - (intOf a6).toNat)
  case atStart => exact ⟨1, b1, by omega, by omega, by omega, rfl, rfl, HT1, HB1⟩
  case round =>
    clear HT1 HB1
    obtain ⟨i, b, hi1, hiK, hi5, rfl, rfl, HT, HB⟩ := hrel
    by_cases hlt : i < K
    · by_cases h5 : i = 512
      · subst h5
        have h2 := tree_insert_err HT.out ((512 : Nat) : Int) ((0 : Nat) : Int) sB (by decide) (by rw [ch_full HT.out]; decide)
        rw [ch_full HT.out] at h2
        go_wp2_with (go_at_call 24; fail)
        refine h2.mono ?_
        rintro x w2 ⟨rfl, hB2⟩
        have HB2 : Hid (Below W.heap.size W w2) := HB.out.trans (hB2.mono HB.out.size)
        clear h2 hB2
        go_wp2_with (go_at_call 10; refine (HLV.out _).mono ?_; rintro e w3 ⟨rfl, hB3⟩)
        go_ret
        exact ⟨rfl, HB2.out.trans (hB3.mono HB2.out.size)⟩
      · have hi6 : i < 512 := by omega
        have h2 := tree_insert HT.out (by omega) (i : Int) 0 sB (by decide) (ch_ins HT.out hi1 hi6)
        rw [chM_succ hi1] at h2
        go_wp2_with (go_at_call 24; fail)
        refine h2.mono ?_
        rintro x w2 ⟨b2, rfl, hT2, hB2⟩
        have HB2 : Hid (Below W.heap.size W w2) := HB.out.trans (hB2.mono HB.out.size)
        have HT2 := hid_mk hT2
        have hge : ¬ (512 : Int) ≤ (i : Int) := by omega
        clear h2 hB2 hT2
        go_wp2
        exact ⟨⟨i + 1, b2, by omega, by omega, by omega, by go_num, rfl, HT2, HB2⟩, by simp only [intOf]; omega⟩
    · obtain rfl : i = K := by omega
      have hk2 : 2 ≤ i := by omega
      have h2 := tree_insert HT.out (by omega) 1 0 sC (by decide) (ch_ins1 HT.out hk2)
      go_wp2_with (go_at_call 24; fail)
      refine h2.mono ?_
      rintro x w2 ⟨b2, rfl, hT2, hB2⟩
      have HB2 : Hid (Below W.heap.size W w2) := HB.out.trans (hB2.mono HB.out.size)
      have hT2' : Tree w2 (.pointer (some ⟨b2, 0, none⟩)) (ch1 i) ((i : Int) + 1 + 1) := hT2
      have h3 := tree_insert hT2' (by omega) ((i : Int) + 1) 0 sD (by decide) (ch_ins2 hT2' hk2)
      clear h2 hB2 hT2 hT2'
      go_wp2_with (go_at_call 24; fail)
      refine h3.mono ?_
      rintro x w3 ⟨b3, rfl, hT3, hB3⟩
      have HB3 : Hid (Below W.heap.size W w3) := HB2.out.trans (hB3.mono HB2.out.size)
      have hT3' : Tree w3 (.pointer (some ⟨b3, 0, none⟩)) (ch2 i) ((i : Int) + 1 + 1 + 1) := hT3
      have hmv := ch2_mov hT3' hk2
      by_cases h12 : i + 2 ≤ 512
      · rw [if_pos h12] at hmv
        have h4 := tree_move hT3' ((i : Int) + 1) i 0 (k := 2) (fun _ => ch2_full hk2) hmv
        clear h3 hB3 hT3 hT3' hmv
        go_wp2_with (go_at_call 25; fail)
        refine h4.mono ?_
        rintro x w4 ⟨b4, rfl, _, hB4⟩
        have HB4 : Hid (Below W.heap.size W w4) := HB3.out.trans (hB4.mono HB3.out.size)
        clear h4 hB4
        go_wp2_with (go_at_call 10; refine (HLV.out _).mono ?_; rintro e w5 ⟨rfl, hB5⟩)
        go_ret
        exact ⟨rfl, HB4.out.trans (hB5.mono HB4.out.size)⟩
      · rw [if_neg h12] at hmv
        have h4 := tree_move_err hT3' ((i : Int) + 1) i ((0 : Nat) : Int) (k := 2) (fun _ => ch2_full hk2) (by rw [hmv]; decide)
        rw [hmv] at h4
        clear h3 hB3 hT3 hT3' hmv
        go_wp2_with (go_at_call 25; fail)
        refine h4.mono ?_
        rintro x w4 ⟨rfl, hB4⟩
        have HB4 : Hid (Below W.heap.size W w4) := HB3.out.trans (hB4.mono HB3.out.size)
        clear h4 hB4
        have hdd : decide ((i : Int) + 2 ≤ 512) = false := decide_eq_false (by omega)
        go_wp2_with (go_at_call 10; refine (HLV.out _).mono ?_; rintro e w5 ⟨rfl, hB5⟩)
        go_ret
        exact ⟨rfl, HB4.out.trans (hB5.mono HB4.out.size)⟩

end Go.Proofs.Ytecbgleidohjpaa.N
