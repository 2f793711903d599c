/- EpochMins: the walk. -/
import Derived.Test.YtlnpiadjnjdfiaaEMm
import Derived.Deep.CutBlock
namespace Go.Proofs.Ytlnpiadjnjdfiaa.E
open Go.RowKit
set_option maxRecDepth 100000

theorem pinned_at {w : World} {X : EX} {v : Value} {L : List It} (h : EO w X v L) {k : Nat} {s : Int} (hk : k < X.n) (hs : X.S[k]? = some s) : Calls Try.prog 26 #[.pointer (some ⟨X.b, 0, none⟩), .int .i64 (k : Int)] w fun e w' => e = .returned (.int .i64 s) ∧ w' = w :=
  (pinned_any h.es.bx h.n1 h.n8 k).mono fun e w' hh => ⟨by
    rw [hh.1]
    have : pinZ X.n X.S (k : Int) = s := by
      unfold pinZ
      rw [if_pos (show inP X.n k = true from decide_eq_true ⟨by omega, by omega⟩), Int.toNat_natCast, List.getD_eq_getElem?_getD, hs]
      rfl
    rw [this], hh.2⟩

set_option maxHeartbeats 8000000 in
theorem mins_walk (W : World) {a : Int} (ha : (Lit.int .u64 a).wf = true) {v : Value} {zs : List (Int × Int)} (h : ActsAt W v zs) : Calls Try.prog 7 #[.int .u64 a, v] W fun e w' => e = .returned (.bool true) ∧ Below W.heap.size W w' := by
  have hmax : IntKind.u64.max = 18446744073709551615 := rfl
  have hmin : IntKind.u64.min = 0 := rfl
  simp only [Lit.wf, Bool.and_eq_true, decide_eq_true_eq, hmax, hmin] at ha
  obtain ⟨m, hm⟩ : ∃ m : Nat, (m : Int) = a % 8 := ⟨(a % 8).toNat, by omega⟩
  have hm8 : m < 8 := by omega
  obtain ⟨n, hn⟩ : ∃ n, n = 1 + m := ⟨_, rfl⟩
  have e1 : (1 : Int) + a % 8 = (n : Int) := by omega
  have hn1 : 1 ≤ n := by omega
  have hn8 : n ≤ 8 := by omega
  have hnew := hid_mk (new_any W n hn1 hn8)
  have HE1 := hid_mk e1
  obtain ⟨va, vc, ab, aoff, rfl, hln, haa, hz⟩ := h
  have HA := hid_mk haa
  have HZ : Hid (∀ (i : Nat), i < zs.length → ∃ x y : Int, ∀ wq, Below W.heap.size W wq → wq.cell? ⟨ab, aoff + i * 2, none⟩ = some (.int .i64 x) ∧ wq.cell? ⟨ab, aoff + i * 2 + 1, none⟩ = some (.int .i64 y)) := fun i hi => by
    obtain ⟨c1, c2⟩ := hz i _ (List.getElem?_eq_getElem hi)
    exact ⟨zs[i].1, zs[i].2, fun wq hb => ⟨(hb.cell (p := ⟨ab, aoff + i * 2, none⟩) (lt_of_cell c1)).trans c1, (hb.cell (p := ⟨ab, aoff + i * 2 + 1, none⟩) (lt_of_cell c2)).trans c2⟩⟩
  clear e1 hm hm8 hn hmax hmin haa hz
  generalize zs.length = N at *
  go_enter Try.func7, Try.ntmps7
  go_wp2_with (go_at_call 8; fail)
  rw [HE1.out]
  refine hnew.out.mono ?_
  rintro e w1 ⟨rfl, ho1, hb1⟩
  obtain ⟨b, hb⟩ : ∃ b, b = W.heap.size := ⟨_, rfl⟩
  have L1 : Hid (LvE W w1 ⟨b, n, 1, [0, 0, 0, 0, 0, 0, 0, 0], 0⟩ (.slice none 0 0) []) := by
    rw [← hb] at ho1
    exact ⟨ho1, hb1, by rw [hb]; exact Nat.le_refl _, fun k e => by cases e⟩
  rw [← hb]
  clear ho1 hb1 hnew hb ha HE1
  by_cases hbig : (N : Int) > 200
  · have hlv := lives_any w1
    go_wp2_with (go_at_call 10; refine hlv.mono ?_; rintro e w7 ⟨rfl, hw7⟩)
    go_ret
    exact ⟨rfl, L1.out.below.trans (hw7.mono L1.out.below.size)⟩
  · have hN : N ≤ 200 := by omega
    clear hbig
    have hbig : ¬ (N : Int) > 200 := by omega
    go_wp2
    go_loopw [36, 7] (fun p q wr => ∃ (j : Nat) (now last : Int) (S : List Int), j ≤ N ∧ p = .int .i64 (j : Int) ∧ q = .int .i64 last ∧ Hid (LvE W wr ⟨b, n, now, S, 0⟩ (.slice none 0 0) [] ∧ MI now S last ∧ now ≤ (j : Int) + 1)) (fun p _ _ => N + 1 - (intOf p).toNat)
    case atStart => exact ⟨0, 1, 0, [0, 0, 0, 0, 0, 0, 0, 0], by omega, rfl, rfl, L1.out, ⟨by omega, by simp, by omega, by omega⟩, by omega⟩
    case round =>
      clear L1
      obtain ⟨j, now, last, S, hj, rfl, rfl, HL⟩ := hrel
      by_cases hjN : j < N
      · have hd : (j : Int) < (N : Int) := by omega
        obtain ⟨x, y, hxy⟩ := HZ.out j hjN
        have hva := HA.out (by omega)
        subst hva
        obtain ⟨c1, c2⟩ := hxy wr HL.out.1.below
        go_upto_block 2 with fail
        have HA1 : Hid (LvE W (wr.alloc (.cells #[.int .i64 x, .int .i64 y] 29)) ⟨b, n, now, S, 0⟩ (.slice none 0 0) [] ∧ MI now S last ∧ now ≤ (j : Int) + 1) := ⟨HL.out.1.keep ((Below.refl _ _).alloc (Nat.le_refl _) _), HL.out.2.1, HL.out.2.2⟩
        clear HL c1 c2 hxy
        go_cut [7] (fun q wx => ∃ (now last : Int) (S : List Int), q = .int .i64 last ∧ Hid (LvE W wx ⟨b, n, now, S, 0⟩ (.slice none 0 0) [] ∧ MI now S last ∧ now ≤ (j : Int) + 2))
        case first =>
          by_cases hx0 : x = 0
          · subst hx0
            have hq : Hid (Calls Try.prog 11 #[.pointer (some ⟨b, 0, none⟩)] (wr.alloc (.cells #[.int .i64 0, .int .i64 y] 29)) fun e w' => (∃ v, e = .returned v) ∧ Hid (LvE W w' ⟨b, n, now + 1, S, 0⟩ (.slice none 0 0) [] ∧ MI (now + 1) S last ∧ now + 1 ≤ (j : Int) + 2)) := (publish_any HA1.out.1.eo (by have := HA1.out.2.1.one; dsimp only; omega) (by have := HA1.out.2.2; dsimp only; omega)).mono fun e w' hh => ⟨⟨_, hh.1⟩, HA1.out.1.step hh.2.1 rfl hh.2.2, HA1.out.2.1.publish, by have := HA1.out.2.2; omega⟩
            go_wp2_with (go_at_call 11; refine hq.out.mono ?_; rintro e w3 ⟨⟨v3, rfl⟩, L3⟩)
            go_meet
            exact ⟨_, _, _, rfl, L3⟩
          · by_cases hx1 : x = 1
            · subst hx1
              have hq : Hid (Calls Try.prog 13 #[.pointer (some ⟨b, 0, none⟩)] (wr.alloc (.cells #[.int .i64 1, .int .i64 y] 29)) fun e w' => (∃ k, k < n ∧ e = .returned (.tuple #[.int .i64 (k : Int), .int .i64 0]) ∧ (S.set k now)[k]? = some now ∧ Hid (LvE W w' ⟨b, n, now, S.set k now, 0⟩ (.slice none 0 0) [])) ∨ (e = .returned (.tuple #[.int .i64 0, .int .i64 6]) ∧ Hid (LvE W w' ⟨b, n, now, S, 0⟩ (.slice none 0 0) []))) := (pin_any HA1.out.1.eo).mono fun e w' hh => by
                obtain ⟨hk, ⟨k, hf, he, ho⟩ | ⟨_, he, ho⟩⟩ := hh
                · exact .inl ⟨k, hf.1, he, by rw [List.getElem?_set_self (List.getElem?_eq_some_iff.1 hf.2.1).1], HA1.out.1.step ho rfl hk⟩
                · exact .inr ⟨he, HA1.out.1.step ho rfl hk⟩
              have hlt : ¬ now < last := by have := HA1.out.2.1.hi; omega
              clear hx0
              go_wp2_with (go_at_call 13; fail)
              refine hq.out.mono ?_
              rintro e w3 (⟨k, hk, rfl, hset, L3⟩ | ⟨rfl, L3⟩)
              · have hpk := hid_mk (pinned_at L3.out.eo hk hset)
                clear hset hq
                go_wp2_with (go_at_call 26; refine hpk.out.mono ?_; rintro e w' ⟨rfl, hw⟩; rw [hw]; clear hw w')
                go_meet
                exact ⟨_, _, _, rfl, L3.out, (HA1.out.2.1.set k now (by have := HA1.out.2.1.one; omega) (Int.le_refl _)).last, by have := HA1.out.2.2; omega⟩
              · clear hq
                go_wp2
                go_meet
                exact ⟨_, _, _, rfl, L3.out, HA1.out.2.1, by have := HA1.out.2.2; omega⟩
            · have hx0' : (x == 0) = false := by rw [beq_eq_false_iff_ne]; exact hx0
              have hx1' : (x == 1) = false := by rw [beq_eq_false_iff_ne]; exact hx1
              by_cases hx2 : x = 2
              · subst hx2
                have hq : Hid (Calls Try.prog 15 #[.pointer (some ⟨b, 0, none⟩), .int .i64 y] (wr.alloc (.cells #[.int .i64 2, .int .i64 y] 29)) fun e w' => (∃ v, e = .returned v) ∧ ∃ S', Hid (LvE W w' ⟨b, n, now, S', 0⟩ (.slice none 0 0) [] ∧ MI now S' last ∧ now ≤ (j : Int) + 2)) := (unpin_any HA1.out.1.eo y).mono fun e w' hh => by
                  obtain ⟨hk, hh⟩ := hh
                  have h1 := HA1.out.2.1
                  have h2 := HA1.out.2.2
                  split at hh
                  · exact ⟨⟨_, hh.1⟩, S, HA1.out.1.step hh.2 rfl hk, h1, by omega⟩
                  · exact ⟨⟨_, hh.1⟩, _, HA1.out.1.step hh.2 rfl hk, h1.set _ 0 (by omega) (by have := h1.one; omega), by omega⟩
                clear hx0 hx1 hx0' hx1'
                go_wp2_with (go_at_call 15; refine hq.out.mono ?_; rintro e w3 ⟨⟨v3, rfl⟩, S3, L3⟩)
                go_meet
                exact ⟨_, _, _, rfl, L3⟩
              · have hx2' : (x == 2) = false := by rw [beq_eq_false_iff_ne]; exact hx2
                go_wp2
                go_meet
                exact ⟨_, _, _, rfl, HA1.out.1, HA1.out.2.1, by have := HA1.out.2.2; omega⟩
        case rest =>
          clear HA1
          obtain ⟨now2, last2, S2, rfl, HL⟩ := hcut
          have HMI := hid_mk HL.out.2
          have HLV := hid_mk HL.out.1
          obtain ⟨X, hX⟩ : ∃ X, X = EX.mk b n now2 S2 0 := ⟨_, rfl⟩
          have HX := hid_mk hX
          rw [← hX] at HLV
          have HSL : Hid (S2.length = 8) := by have := HLV.out.eo.es.bx.len; rw [hX] at this; exact this
          have hXb : X.b = b := by rw [hX]
          have hXn : X.n = n := by rw [hX]
          have hXS : X.S = S2 := by rw [hX]
          have hXw : X.now = now2 := by rw [hX]
          obtain ⟨μ, hμ⟩ : ∃ μ, μ = minZ X := ⟨_, rfl⟩
          have HMIN : Hid (∀ w', LvE W w' X (.slice none 0 0) [] → Calls Try.prog 24 #[.pointer (some ⟨b, 0, none⟩)] w' fun e w'' => e = .returned (.int .i64 μ) ∧ Hid (LvE W w'' X (.slice none 0 0) [])) := fun w' hl => by
            have h1 := min_any hl.eo
            rw [hXb] at h1
            exact h1.mono fun e w'' hh => ⟨by rw [hh.1, hμ], hl.step hh.2.1 rfl (by rw [hXb]; exact hh.2.2)⟩
          have HNOW : Hid (∀ w', LvE W w' X (.slice none 0 0) [] → Calls Try.prog 23 #[.pointer (some ⟨b, 0, none⟩)] w' fun e w'' => e = .returned (.int .i64 now2) ∧ w'' = w') := fun w' hl => by
            have h1 := now_any hl.eo.es.bx hl.eo.n1
            rw [hXb, hXw] at h1
            exact h1
          have HPIN : Hid (∀ w', LvE W w' X (.slice none 0 0) [] → ∀ (k : Nat) (s : Int), k < n → S2[k]? = some s → Calls Try.prog 26 #[.pointer (some ⟨b, 0, none⟩), .int .i64 (k : Int)] w' fun e w'' => e = .returned (.int .i64 s) ∧ w'' = w') := fun w' hl k s hk hs => by
            have h1 := pinned_at hl.eo (k := k) (s := s) (by rw [hXn]; exact hk) (by rw [hXS]; exact hs)
            rw [hXb] at h1
            exact h1
          have HFACT : Hid (∀ (k : Nat) (s : Int), k < n → S2[k]? = some s → (0 < s → μ ≤ s) ∧ s ≤ now2 ∧ anyP S2 (k + 1) = (anyP S2 k || decide (s > 0)) ∧ anyM X (k + 1) = (anyM X k || (decide (s > 0) && decide (s = μ)))) := fun k s hk hs => by
            have hs2 : X.S[k]? = some s := by rw [hXS]; exact hs
            refine ⟨fun h0 => ?_, (HMI.out.1.all s (List.mem_of_getElem? hs)).2, anyP_succ hs, ?_⟩
            · rw [hμ]
              exact min_le (by rw [hXn]; exact hk) hs2 h0
            · rw [hμ]
              exact anyM_succ hs2
          have HLAST : Hid (anyM X n = anyP S2 n ∧ (anyP S2 n = false → μ = now2)) := by
            have h1 := any_same X
            rw [hXn, hXS, hXw] at h1
            exact ⟨h1.1, fun h => by rw [hμ]; exact h1.2 h⟩
          clear HL hX hXb hXn hXS hXw hμ
          go_wp2
          go_loopw [12, 13, 14] (fun hh ii p wx => ∃ k : Nat, k ≤ n ∧ p = .int .i64 (k : Int) ∧ hh = .bool (anyP S2 k) ∧ ii = .bool (anyM X k) ∧ Hid (LvE W wx X (.slice none 0 0) [])) (fun _ _ p _ => n + 1 - (intOf p).toNat)
          case atStart => exact ⟨0, by omega, rfl, rfl, rfl, HLV⟩
          case round =>
            clear HLV
            obtain ⟨k, hk, rfl, rfl, rfl, HLV⟩ := hrel
            by_cases hkn : k < n
            · have hd2 : (k : Int) < (n : Int) := by omega
              obtain ⟨s, hs⟩ : ∃ s, S2[k]? = some s := ⟨_, List.getElem?_eq_getElem (by have := HSL.out; omega)⟩
              obtain ⟨hm1, hm2, hm3, hm4⟩ := HFACT.out k s hkn hs
              have HP := hid_mk (HPIN.out _ HLV.out _ _ hkn hs)
              have HM3 := hid_mk hm3
              have HM4 := hid_mk hm4
              clear hm3 hm4 hs
              generalize anyP S2 k = hb at *
              generalize anyM X k = ib at *
              have hgt : ¬ s > now2 := by omega
              by_cases h0 : s > 0
              · have hmu : ¬ s < μ := by have := hm1 h0; omega
                by_cases he : s = μ
                · have heq : (s == μ) = true := by rw [he]; simp
                  have HN3 : Hid (anyP S2 (k + 1) = true) := by show _ = _; rw [HM3.out, decide_eq_true h0, Bool.or_true]
                  have HN4 : Hid (anyM X (k + 1) = true) := by show _ = _; rw [HM4.out, decide_eq_true h0, decide_eq_true he]; simp
                  go_wp2_with (go_at_call 26; fail)
                  refine HP.out.mono ?_
                  rintro e w' ⟨rfl, hw⟩
                  rw [hw]
                  clear hw w' hm1
                  go_wp2_with (go_at_call 24; fail)
                  refine (HMIN.out _ HLV.out).mono ?_
                  rintro e w2 ⟨rfl, HLV2⟩
                  clear HP HLV
                  go_wp2_with (go_at_call 23; fail)
                  refine (HNOW.out _ HLV2.out).mono ?_
                  rintro e w' ⟨rfl, hw⟩
                  rw [hw]
                  clear hw w'
                  cases ib
                  · cases hb
                    · go_wp2_with (go_at_call 24; fail)
                      refine (HMIN.out _ HLV2.out).mono ?_
                      rintro e w3 ⟨rfl, HLV3⟩
                      go_wp2
                      exact ⟨⟨k + 1, by omega, by simp, by rw [HN3.out], by rw [HN4.out], HLV3⟩, by simp [intOf]; omega⟩
                    · go_wp2_with (go_at_call 24; fail)
                      refine (HMIN.out _ HLV2.out).mono ?_
                      rintro e w3 ⟨rfl, HLV3⟩
                      go_wp2
                      exact ⟨⟨k + 1, by omega, by simp, by rw [HN3.out], by rw [HN4.out], HLV3⟩, by simp [intOf]; omega⟩
                  · cases hb
                    · go_wp2
                      exact ⟨⟨k + 1, by omega, by simp, by rw [HN3.out], by rw [HN4.out], HLV2⟩, by simp [intOf]; omega⟩
                    · go_wp2
                      exact ⟨⟨k + 1, by omega, by simp, by rw [HN3.out], by rw [HN4.out], HLV2⟩, by simp [intOf]; omega⟩
                · have heq : (s == μ) = false := by rw [beq_eq_false_iff_ne]; exact he
                  have HN3 : Hid (anyP S2 (k + 1) = true) := by show _ = _; rw [HM3.out, decide_eq_true h0, Bool.or_true]
                  have HN4 : Hid (anyM X (k + 1) = ib) := by show _ = _; rw [HM4.out, decide_eq_false he]; simp
                  go_wp2_with (go_at_call 26; fail)
                  refine HP.out.mono ?_
                  rintro e w' ⟨rfl, hw⟩
                  rw [hw]
                  clear hw w' hm1
                  go_wp2_with (go_at_call 24; fail)
                  refine (HMIN.out _ HLV.out).mono ?_
                  rintro e w2 ⟨rfl, HLV2⟩
                  clear HP HLV
                  go_wp2_with (go_at_call 23; fail)
                  refine (HNOW.out _ HLV2.out).mono ?_
                  rintro e w' ⟨rfl, hw⟩
                  rw [hw]
                  clear hw w'
                  cases ib
                  · cases hb
                    · go_wp2_with (go_at_call 24; fail)
                      refine (HMIN.out _ HLV2.out).mono ?_
                      rintro e w3 ⟨rfl, HLV3⟩
                      go_wp2
                      exact ⟨⟨k + 1, by omega, by simp, by rw [HN3.out], by rw [HN4.out], HLV3⟩, by simp [intOf]; omega⟩
                    · go_wp2_with (go_at_call 24; fail)
                      refine (HMIN.out _ HLV2.out).mono ?_
                      rintro e w3 ⟨rfl, HLV3⟩
                      go_wp2
                      exact ⟨⟨k + 1, by omega, by simp, by rw [HN3.out], by rw [HN4.out], HLV3⟩, by simp [intOf]; omega⟩
                  · cases hb
                    · go_wp2
                      exact ⟨⟨k + 1, by omega, by simp, by rw [HN3.out], by rw [HN4.out], HLV2⟩, by simp [intOf]; omega⟩
                    · go_wp2
                      exact ⟨⟨k + 1, by omega, by simp, by rw [HN3.out], by rw [HN4.out], HLV2⟩, by simp [intOf]; omega⟩
              · have HN3 : Hid (anyP S2 (k + 1) = hb) := by show _ = _; rw [HM3.out, decide_eq_false h0, Bool.or_false]
                have HN4 : Hid (anyM X (k + 1) = ib) := by show _ = _; rw [HM4.out, decide_eq_false h0]; simp
                have hdz : decide (0 < s) = false := decide_eq_false (by omega)
                go_wp2_with (go_at_call 26; fail)
                refine HP.out.mono ?_
                rintro e w' ⟨rfl, hw⟩
                rw [hw]
                clear hw w' hm1
                go_wp2_with (go_at_call 23; fail)
                refine (HNOW.out _ HLV.out).mono ?_
                rintro e w' ⟨rfl, hw⟩
                rw [hw]
                clear hw w'
                cases ib
                · cases hb
                  · go_wp2
                    exact ⟨⟨k + 1, by omega, by simp, by rw [HN3.out], by rw [HN4.out], HLV⟩, by simp [intOf]; omega⟩
                  · go_wp2
                    exact ⟨⟨k + 1, by omega, by simp, by rw [HN3.out], by rw [HN4.out], HLV⟩, by simp [intOf]; omega⟩
                · cases hb
                  · go_wp2
                    exact ⟨⟨k + 1, by omega, by simp, by rw [HN3.out], by rw [HN4.out], HLV⟩, by simp [intOf]; omega⟩
                  · go_wp2
                    exact ⟨⟨k + 1, by omega, by simp, by rw [HN3.out], by rw [HN4.out], HLV⟩, by simp [intOf]; omega⟩
            · obtain rfl : k = n := by omega
              have hd2 : ¬ (k : Int) < (k : Int) := by omega
              obtain ⟨hl1, hl2⟩ := HLAST.out
              rw [hl1]
              clear hl1
              generalize anyP S2 k = hb at *
              have HEND : Hid (∀ w', LvE W w' X (.slice none 0 0) [] → Hid (LvE W w' ⟨b, k, now2, S2, 0⟩ (.slice none 0 0) [] ∧ MI now2 S2 last2 ∧ now2 ≤ ((j + 1 : Nat) : Int) + 1)) := fun w' hl => by
                rw [HX.out] at hl
                exact ⟨hl, HMI.out.1, by have := HMI.out.2; omega⟩
              cases hb
              · obtain rfl := hl2 rfl
                have hne : (μ != μ) = false := by simp
                go_wp2_with (go_at_call 24; fail)
                refine (HMIN.out _ HLV.out).mono ?_
                rintro e w2 ⟨rfl, HLV2⟩
                go_wp2_with (go_at_call 23; fail)
                refine (HNOW.out _ HLV2.out).mono ?_
                rintro e w' ⟨rfl, hw⟩
                rw [hw]
                clear hw w'
                go_wp2
                exact ⟨⟨j + 1, _, _, _, by omega, by simp, rfl, HEND.out _ HLV2.out⟩, by simp [intOf]; omega⟩
              · go_wp2
                exact ⟨⟨j + 1, _, _, _, by omega, by simp, rfl, HEND.out _ HLV.out⟩, by simp [intOf]; omega⟩
      · obtain rfl : j = N := by omega
        have hd : ¬ (j : Int) < (j : Int) := by omega
        have hlv := lives_any wr
        have HB : Hid (Below W.heap.size W wr) := HL.out.1.below
        go_wp2_with (go_at_call 10; refine hlv.mono ?_; rintro e w7 ⟨rfl, hw7⟩)
        go_ret
        exact ⟨rfl, HB.out.trans (hw7.mono HB.out.size)⟩
end Go.Proofs.Ytlnpiadjnjdfiaa.E
