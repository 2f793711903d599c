/- EpochActs: the walk. -/
import Derived.Test.YtlnpiadjnjdfiaaEAo
import Derived.Deep.CutBlock
namespace Go.Proofs.Ytlnpiadjnjdfiaa.E
open Go.RowKit
set_option maxRecDepth 100000

set_option maxHeartbeats 8000000 in
theorem acts_walk (W : World) (n : Int) {v : Value} {zs : List (Int × Int)} (h : ActsAt W v zs) : Calls Try.prog 3 #[.int .i64 n, v] W fun e w' => e = .returned (.bool true) ∧ Below W.heap.size W w' := by
  obtain ⟨va, vc, ab, aoff, rfl, hln, haa, hz⟩ := h
  have HA := hid_mk haa
  have HZ : Hid (∀ (i : Nat), i < zs.length → ∃ x y : Int, ∀ wq, Below W.heap.size W wq → wq.cell? ⟨ab, aoff + i * 2, none⟩ = some (.int .i64 x) ∧ wq.cell? ⟨ab, aoff + i * 2 + 1, none⟩ = some (.int .i64 y)) := fun i hi => by
    obtain ⟨c1, c2⟩ := hz i _ (List.getElem?_eq_getElem hi)
    exact ⟨zs[i].1, zs[i].2, fun wq hb => ⟨(hb.cell (p := ⟨ab, aoff + i * 2, none⟩) (lt_of_cell c1)).trans c1, (hb.cell (p := ⟨ab, aoff + i * 2 + 1, none⟩) (lt_of_cell c2)).trans c2⟩⟩
  clear haa hz
  generalize zs.length = N at *
  by_cases hbad : n < 1 ∨ n > 8
  · have h1 := new_bad W n hbad
    have h2 := rnew_bad W n hbad
    have hlv := lives_any W
    clear HA HZ hln hbad
    go_enter Try.func3, Try.ntmps3
    go_wp2_with (first
      | (go_at_call 8; refine h1.mono ?_; rintro e w' ⟨rfl, hw⟩; rw [hw]; clear hw w')
      | (go_at_call 9; refine h2.mono ?_; rintro e w' ⟨rfl, hw⟩; rw [hw]; clear hw w')
      | (go_at_call 10; refine hlv.mono ?_; rintro e w7 ⟨rfl, hw7⟩))
    go_ret
    exact ⟨rfl, hw7⟩
  · obtain ⟨m, rfl⟩ : ∃ m : Nat, n = (m : Int) := ⟨n.toNat, by omega⟩
    have hm1 : 1 ≤ m := by omega
    have hm8 : m ≤ 8 := by omega
    clear hbad
    have hnew := hid_mk (new_any W m hm1 hm8)
    go_enter Try.func3, Try.ntmps3
    go_wp2_with (go_at_call 8; fail)
    refine hnew.out.mono ?_
    rintro e w1 ⟨rfl, ho1, hb1⟩
    obtain ⟨b, hb⟩ : ∃ b, b = W.heap.size := ⟨_, rfl⟩
    have L1 : Hid (LvE W w1 ⟨b, m, 1, [0, 0, 0, 0, 0, 0, 0, 0], 0⟩ (.slice none 0 0) []) := by
      rw [← hb] at ho1
      exact ⟨ho1, hb1, by rw [hb]; exact Nat.le_refl _, fun k e => by cases e⟩
    rw [← hb]
    clear ho1 hb1 hnew hb
    have hrn := hid_mk (rnew_any w1 m hm1 hm8)
    go_wp2_with (go_at_call 9; fail)
    refine hrn.out.mono ?_
    rintro e w2 ⟨rb, us, rfl, hr, hbl, hrb, hus⟩
    have HI : Hid (AcI W w2 b m rb 0) := by
      have hsz := L1.out.below.size
      have hbl1 : b < w1.heap.size := L1.out.eo.es.bx.lt
      refine ⟨1, [0, 0, 0, 0, 0, 0, 0, 0], .slice none 0 0, [], us, .slice none 0 0, [], ⟨L1.out.keep hbl, ?_, by omega, by show rb ≠ b; omega, (fun e => by cases e), (fun e => by have := hus b e; omega), (fun e => by cases e), (fun g e => by cases e)⟩, List.Perm.nil, List.Pairwise.nil, Nat.le_refl _, Int.le_refl _, by omega⟩
      have e1 : ([0, 0, 0, 0, 0, 0, 0, 0] : List Int).take m = List.replicate m 0 := by
        rw [show ([0, 0, 0, 0, 0, 0, 0, 0] : List Int) = List.replicate 8 0 from rfl, List.take_replicate]
        congr 1
        omega
      rw [e1]
      exact hr
    clear hr hbl hrb hus hrn L1
    have HB : Hid (Below W.heap.size W w2) := by
      obtain ⟨_, _, _, _, _, _, _, ho⟩ := HI.out
      exact ho.ac.lv.below
    by_cases hbig : (N : Int) > 200
    · have hlv := lives_any w2
      go_wp2_with (go_at_call 10; refine hlv.mono ?_; rintro e w7 ⟨rfl, hw7⟩)
      go_ret
      exact ⟨rfl, HB.out.trans (hw7.mono HB.out.size)⟩
    · have hN : N ≤ 200 := by omega
      clear hbig HB
      have hbig : ¬ (N : Int) > 200 := by omega
      go_wp2
      go_loopw [35] (fun p wr => ∃ j : Nat, j ≤ N ∧ p = .int .i64 (j : Int) ∧ Hid (AcI W wr b m rb j)) (fun p _ => N + 1 - (intOf p).toNat)
      case atStart => exact ⟨0, by omega, rfl, HI.out⟩
      case round =>
        clear HI
        obtain ⟨j, hj, rfl, HI⟩ := hrel
        by_cases hjN : j < N
        · have hd : (j : Int) < (N : Int) := by omega
          obtain ⟨x, y, hxy⟩ := HZ.out j hjN
          have hva := HA.out (by omega)
          subst hva
          obtain ⟨now, S, v, K, us, ul, L, hO⟩ := HI.out
          obtain ⟨c1, c2⟩ := hxy wr hO.ac.lv.below
          have HO := hid_mk hO
          clear HI hO
          go_upto_block 2 with fail
          have HG : Hid (AgO W (wr.alloc (.cells #[.int .i64 x, .int .i64 y] 29)) b m rb wr.heap.size x y j now S v K us ul L) := ⟨Ag.start HO.out.ac, HO.out.perm, HO.out.srt, HO.out.kl, HO.out.lo, HO.out.hi⟩
          clear HO c1 c2 hxy
          generalize wr.alloc (.cells #[.int .i64 x, .int .i64 y] 29) = w1 at *
          generalize wr.heap.size = ag at *
          have c1 := HG.out.ag.act.1
          go_cut [9] (fun q wx => ∃ (now : Int) (S : List Int) (v : Value) (K : List It) (us ul : Value) (L : List It), q = .bool true ∧ Hid (AgO W wx b m rb ag x y (j + 1) now S v K us ul L))
          case first =>
            by_cases hx0 : x = 0
            · subst hx0
              have hq := hid_mk (x_pub HG.out.ag (by have := HG.out.lo; omega) (by have := HG.out.hi; omega))
              go_wp2_with (go_at_call 11; fail)
              refine hq.out.mono ?_
              rintro e w3 ⟨rfl, L3⟩
              have hq2 := hid_mk (r_pub L3.out (by have := HG.out.lo; omega) (by have := HG.out.hi; omega))
              go_wp2_with (go_at_call 12; fail)
              refine hq2.out.mono ?_
              rintro e w4 ⟨rfl, L4⟩
              have hee : ((now + 1 : Int) == now + 1) = true := by simp
              go_wp2
              go_meet
              exact ⟨_, _, _, _, _, _, _, rfl, L4.out, HG.out.perm, HG.out.srt, by have := HG.out.kl; omega, by have := HG.out.lo; omega, by have := HG.out.hi; omega⟩
            · by_cases hx1 : x = 1
              · subst hx1
                clear hx0
                have hq := hid_mk (x_pin HG.out.ag)
                go_wp2_with (go_at_call 13; fail)
                refine hq.out.mono ?_
                rintro e w3 (⟨k, hf, rfl, L3⟩ | ⟨hf, rfl, L3⟩)
                · have hq2 := hid_mk (r_pin L3.out HG.out.S8 HG.out.n8 hf)
                  go_wp2_with (go_at_call 14; fail)
                  refine hq2.out.mono ?_
                  rintro e w4 ⟨rfl, u4, L4⟩
                  have hee : ((k : Int) == (k : Int)) = true := by simp
                  go_wp2
                  go_meet
                  exact ⟨_, _, _, _, _, _, _, rfl, L4.out, HG.out.perm, HG.out.srt, by have := HG.out.kl; omega, HG.out.lo, by have := HG.out.hi; omega⟩
                · have hq2 := hid_mk (r_full L3.out HG.out.S8 HG.out.n8 hf)
                  go_wp2_with (go_at_call 14; fail)
                  refine hq2.out.mono ?_
                  rintro e w4 ⟨rfl, L4⟩
                  go_wp2
                  go_meet
                  exact ⟨_, _, _, _, _, _, _, rfl, L4.out, HG.out.perm, HG.out.srt, by have := HG.out.kl; omega, HG.out.lo, by have := HG.out.hi; omega⟩
              · have hx0' : (x == 0) = false := by rw [beq_eq_false_iff_ne]; exact hx0
                have hx1' : (x == 1) = false := by rw [beq_eq_false_iff_ne]; exact hx1
                by_cases hx2 : x = 2
                · subst hx2
                  clear hx0 hx1 hx0' hx1'
                  have HX : Hid (∀ w', Ag W w' ⟨b, m, now, S, 0⟩ v K rb now us (S.take m) ul L ag 2 y → Calls Try.prog 15 #[.pointer (some ⟨b, 0, none⟩), .int .i64 y] w' fun e w'' => e = .returned (.int .i64 (unZ m S y)) ∧ Hid (Ag W w'' ⟨b, m, now, unS m S y, 0⟩ v K rb now us (S.take m) ul L ag 2 y)) := fun w' h => x_unpin h y
                  have HR : Hid (∀ w', Ag W w' ⟨b, m, now, unS m S y, 0⟩ v K rb now us (S.take m) ul L ag 2 y → Calls Try.prog 16 #[.pointer (some ⟨rb, 0, none⟩), .int .i64 y] w' fun e w'' => e = .returned (.int .i64 (unZ m S y)) ∧ ∃ u, Hid (Ag W w'' ⟨b, m, now, unS m S y, 0⟩ v K rb now u ((unS m S y).take m) ul L ag 2 y)) := fun w' h => r_unpin h HG.out.S8 HG.out.n8 y
                  have hee : ((unZ m S y : Int) == unZ m S y) = true := by simp
                  generalize unZ m S y = z at *
                  have g0 := hid_mk HG.out.ag
                  have gd := hid_mk HG.out.ag.drew
                  go_upto_region 18 with (fail)
                  go_region_held3 (fun w' => w'.cell? ⟨ag, 1, none⟩ = some (.int .i64 y))
                    (first | with_reducible exact gd.out.act.2 | with_reducible exact g0.out.act.2 | with_reducible exact L3.out.act.2 | with_reducible exact L4.out.act.2)
                    (first
                    | (go_at_call 15; with_reducible refine (HX.out _ gd.out).mono ?_; rintro e w3 ⟨rfl, L3⟩)
                    | (go_at_call 16; with_reducible refine (HR.out _ L3.out).mono ?_; rintro e w4 ⟨rfl, u4, L4⟩))
                  go_wp2
                  go_meet
                  exact ⟨_, _, _, _, _, _, _, rfl, L4.out, HG.out.perm, HG.out.srt, by have := HG.out.kl; omega, HG.out.lo, by have := HG.out.hi; omega⟩
                · have hx2' : (x == 2) = false := by rw [beq_eq_false_iff_ne]; exact hx2
                  by_cases hx3 : x = 3
                  · subst hx3
                    clear hx0 hx1 hx2 hx0' hx1' hx2'
                    have hq := hid_mk (r_ret HG.out.ag (by have := HG.out.ll; omega) HG.out.srt y)
                    have c2 := HG.out.ag.act.2
                    go_wp2_with (go_at_call 17; fail)
                    refine hq.out.mono ?_
                    rintro e w3 ⟨⟨v3, rfl⟩, u3, L3', L3, hp3, hs3⟩
                    have HP3 := hid_mk (And.intro hp3 hs3)
                    have hq2 := hid_mk (x_ret L3.out (by have := HG.out.kl; omega) y)
                    clear c1 c2 hp3 hs3
                    have c2 := L3.out.act.2
                    go_wp2_with (go_at_call 18; fail)
                    refine hq2.out.mono ?_
                    rintro e w4 ⟨rfl, v4, K4, L4, hp4⟩
                    have HP4 := hid_mk hp4
                    clear c2 hp4
                    go_wp2
                    go_meet
                    exact ⟨_, _, _, _, _, _, _, rfl, L4.out, HP4.out.trans ((HG.out.perm.append_right _).trans HP3.out.1.symm), HP3.out.2, by have h1 := HP4.out.length_eq; rw [List.length_append] at h1; have := HG.out.kl; simp only [List.length_cons, List.length_nil] at h1; omega, HG.out.lo, by have := HG.out.hi; omega⟩
                  · have hx3' : (x == 3) = false := by rw [beq_eq_false_iff_ne]; exact hx3
                    by_cases hx4 : x = 4
                    · subst hx4
                      clear hx0 hx1 hx2 hx3 hx0' hx1' hx2' hx3'
                      have hq := hid_mk (x_rec HG.out.ag (by have := HG.out.kl; omega) HG.out.perm HG.out.srt)
                      go_wp2_with (go_at_call 20; fail)
                      refine hq.out.mono ?_
                      rintro e w3 ⟨u3, v3, K3, rfl, L3, hi3, hd3, hp3, hl3⟩
                      have HP3 := hid_mk (And.intro hp3 hl3)
                      have HI3 := hid_mk (And.intro hi3 hd3)
                      clear hi3 hd3 hp3 hl3 c1
                      have hq2 := hid_mk (r_rec L3.out HG.out.rl (by have := HG.out.ll; omega))
                      go_wp2_with (go_at_call 21; fail)
                      refine hq2.out.mono ?_
                      rintro e w4 ⟨⟨u4, ul4, rfl, L4, hi4⟩, hk4⟩
                      have hq3 := hid_mk (ints_same (HI3.out.1.stay hk4 HI3.out.2) hi4)
                      clear hi4 hk4
                      go_wp2_with (go_at_call 19; fail)
                      refine hq3.out.mono ?_
                      rintro e w5 ⟨rfl, hb5⟩
                      have L5 := hid_mk (L4.out.keep hb5)
                      clear hb5
                      go_wp2
                      go_meet
                      exact ⟨_, _, _, _, _, _, _, rfl, L5.out, HP3.out.1, List.Pairwise.filter _ HG.out.srt, by have := HG.out.kl; have := HP3.out.2; omega, HG.out.lo, by have := HG.out.hi; omega⟩
                    · have hx4' : (x == 4) = false := by rw [beq_eq_false_iff_ne]; exact hx4
                      go_wp2
                      go_meet
                      exact ⟨_, _, _, _, _, _, _, rfl, HG.out.ag, HG.out.perm, HG.out.srt, by have := HG.out.kl; omega, HG.out.lo, by have := HG.out.hi; omega⟩
          case rest =>
            clear HG c1
            obtain ⟨now2, S2, v2, K2, us2, ul2, L2, rfl, HL⟩ := hcut
            have hw := hid_mk (x_wait HL.out (by omega))
            clear HL
            go_wp2_with (go_at_call 22; fail)
            refine hw.out.mono ?_
            rintro e w5 ⟨u5, B5, rfl, H5⟩
            obtain ⟨ua, uc, rfl⟩ := own_slice H5.out.o.ag.ac.rs.rl
            obtain ⟨wa, wc, rfl, _, _⟩ := H5.out.wt
            clear hw
            have HNOW : Hid (∀ w', Aw W w' b m rb ag x y (j + 1) now2 S2 v2 K2 us2 (.slice ua L2.length uc) L2 B5 (.slice wa L2.length wc) → Calls Try.prog 23 #[.pointer (some ⟨b, 0, none⟩)] w' fun e w'' => e = .returned (.int .i64 now2) ∧ w'' = w') := fun w' h => a_now h
            have HMIN : Hid (∀ w', Aw W w' b m rb ag x y (j + 1) now2 S2 v2 K2 us2 (.slice ua L2.length uc) L2 B5 (.slice wa L2.length wc) → Calls Try.prog 24 #[.pointer (some ⟨b, 0, none⟩)] w' fun e w'' => e = .returned (.int .i64 (minA m S2 now2)) ∧ Hid (Aw W w'' b m rb ag x y (j + 1) now2 S2 v2 K2 us2 (.slice ua L2.length uc) L2 B5 (.slice wa L2.length wc))) := fun w' h => a_min h
            have HRMIN : Hid (∀ w', Aw W w' b m rb ag x y (j + 1) now2 S2 v2 K2 us2 (.slice ua L2.length uc) L2 B5 (.slice wa L2.length wc) → Calls Try.prog 25 #[.pointer (some ⟨rb, 0, none⟩)] w' fun e w'' => e = .returned (.int .i64 (minA m S2 now2)) ∧ w'' = w') := fun w' h => a_rmin h
            have HPIN : Hid (∀ w', Aw W w' b m rb ag x y (j + 1) now2 S2 v2 K2 us2 (.slice ua L2.length uc) L2 B5 (.slice wa L2.length wc) → Calls Try.prog 26 #[.pointer (some ⟨b, 0, none⟩), .int .i64 y] w' fun e w'' => e = .returned (.int .i64 (pinZ m S2 y)) ∧ w'' = w') := fun w' h => a_pin h y
            have HRPIN : Hid (∀ w', Aw W w' b m rb ag x y (j + 1) now2 S2 v2 K2 us2 (.slice ua L2.length uc) L2 B5 (.slice wa L2.length wc) → Calls Try.prog 27 #[.pointer (some ⟨rb, 0, none⟩), .int .i64 y] w' fun e w'' => e = .returned (.int .i64 (pinZ m S2 y)) ∧ w'' = w') := fun w' h => a_rpin h y
            have e1 : (now2 != now2) = false := by simp
            have e2 : (minA m S2 now2 != minA m S2 now2) = false := by simp
            have e3 : (pinZ m S2 y != pinZ m S2 y) = false := by simp
            have e4 : ((L2.length : Int) != (L2.length : Int)) = false := by simp
            generalize minA m S2 now2 = μ at *
            generalize pinZ m S2 y = π at *
            have gd := hid_mk H5.out.drew
            go_upto_region 25 with (fail)
            go_region_held3 (fun w' => w'.cell? ⟨rb, 0, none⟩ = some (.int .i64 now2) ∧ w'.cell? ⟨rb, 2, none⟩ = some (.slice ua L2.length uc) ∧ w'.cell? ⟨ag, 1, none⟩ = some (.int .i64 y))
              (first | with_reducible exact gd.out.cells | with_reducible exact H5.out.cells | with_reducible exact L6.out.cells)
              (first
              | (go_at_call 23; with_reducible refine (HNOW.out _ gd.out).mono ?_; rintro e w' ⟨rfl, hw⟩; rw [hw]; clear hw w')
              | (go_at_call 24; with_reducible refine (HMIN.out _ gd.out).mono ?_; rintro e w6 ⟨rfl, L6⟩)
              | (go_at_call 25; with_reducible refine (HRMIN.out _ L6.out).mono ?_; rintro e w' ⟨rfl, hw⟩; rw [hw]; clear hw w')
              | (go_at_call 26; with_reducible refine (HPIN.out _ L6.out).mono ?_; rintro e w' ⟨rfl, hw⟩; rw [hw]; clear hw w')
              | (go_at_call 27; with_reducible refine (HRPIN.out _ L6.out).mono ?_; rintro e w' ⟨rfl, hw⟩; rw [hw]; clear hw w'))
            clear gd H5 HNOW HMIN HRMIN HPIN HRPIN e1 e2 e3
            go_wp2
            go_loopw [140] (fun p wx => ∃ i : Nat, i ≤ L2.length ∧ p = .int .i64 (i : Int) ∧ Hid (Aw W wx b m rb ag x y (j + 1) now2 S2 v2 K2 us2 (.slice ua L2.length uc) L2 B5 (.slice wa L2.length wc))) (fun p _ => L2.length + 1 - (intOf p).toNat)
            case atStart => exact ⟨0, by omega, rfl, L6⟩
            case round =>
              clear L6
              obtain ⟨i, hi, rfl, HR⟩ := hrel
              by_cases hiL : i < L2.length
              · have hdi : (i : Int) < (L2.length : Int) := by omega
                have hi0 : ¬ (i : Int) < 0 := by omega
                have hLL : L2.length ≤ 300 := by have := HR.out.o.ll; omega
                have hi1 : ¬ (i : Int) ≥ (L2.length : Int) := by omega
                obtain ⟨wa', wc', hwa, _, hw3⟩ := HR.out.wt
                cases hwa
                obtain ⟨g, rfl, _, hc⟩ := hw3 (by omega)
                obtain ⟨d1, d2⟩ := hc i hiL
                obtain ⟨g2, cc2, hul, _⟩ := OL.form (show OL wr 0 (.slice ua L2.length uc) L2 from HR.out.o.ag.ac.rs.rl) (by omega)
                cases hul
                obtain ⟨d3, d4⟩ := OL.at (show OL wr 0 (.slice (some ⟨g2, 0, none⟩) L2.length uc) L2 from HR.out.o.ag.ac.rs.rl) hiL
                have d5 := HR.out.cells.2.1
                clear hc hw3
                have e1 : (L2[i].1 != L2[i].1) = false := by simp
                have e2 : (L2[i].2 != L2[i].2) = false := by simp
                generalize L2[i].1 = p1 at *
                generalize L2[i].2 = p2 at *
                have hF : Hid (∀ w' : World, (∀ a : Addr, w'.cell? a = wr.cell? a) → w'.cell? ⟨g, i * 2, none⟩ = some (.int .i64 p1) ∧ w'.cell? ⟨g, i * 2 + 1, none⟩ = some (.int .i64 p2) ∧ w'.cell? ⟨rb, 2, none⟩ = some (.slice (some ⟨g2, 0, none⟩) L2.length uc) ∧ w'.cell? ⟨g2, i * 2, none⟩ = some (.int .i64 p1) ∧ w'.cell? ⟨g2, i * 2 + 1, none⟩ = some (.int .i64 p2)) := fun w' hw => by rw [hw, hw, hw, hw, hw]; exact ⟨d1, d2, d5, d3, d4⟩
                have f1 : ∀ a : Addr, wr.drew.cell? a = wr.cell? a := fun _ => rfl
                have f2 : ∀ a : Addr, wr.cell? a = wr.cell? a := fun _ => rfl
                clear d1 d2 d3 d4 d5
                go_upto_region 30 with (fail)
                go_region_held3 (fun w' => w'.cell? ⟨g, i * 2, none⟩ = some (.int .i64 p1) ∧ w'.cell? ⟨g, i * 2 + 1, none⟩ = some (.int .i64 p2) ∧ w'.cell? ⟨rb, 2, none⟩ = some (.slice (some ⟨g2, 0, none⟩) L2.length uc) ∧ w'.cell? ⟨g2, i * 2, none⟩ = some (.int .i64 p1) ∧ w'.cell? ⟨g2, i * 2 + 1, none⟩ = some (.int .i64 p2))
                  (first | with_reducible exact hF.out _ f1 | with_reducible exact hF.out _ f2)
                  (first | (go_at_call 99; fail))
                all_goals go_wp2
                all_goals exact ⟨⟨i + 1, by omega, by simp, (by first | exact HR.out.drew | exact HR.out)⟩, by simp [intOf]; omega⟩
              · obtain rfl : i = L2.length := by omega
                have hdi : ¬ (L2.length : Int) < (L2.length : Int) := by omega
                go_wp2
                exact ⟨⟨j + 1, by omega, by simp, ⟨_, _, _, _, _, _, _, HR.out.o.ag.ac, HR.out.o.perm, HR.out.o.srt, HR.out.o.kl, HR.out.o.lo, HR.out.o.hi⟩⟩, by simp [intOf]; omega⟩
        · obtain rfl : j = N := by omega
          have hd : ¬ (j : Int) < (j : Int) := by omega
          have hlv := hid_mk (lives_any wr)
          have HB : Hid (Below W.heap.size W wr) := by
            obtain ⟨_, _, _, _, _, _, _, ho⟩ := HI.out
            exact ho.ac.lv.below
          go_wp2_with (go_at_call 10; fail)
          refine hlv.out.mono ?_
          rintro e w7 ⟨rfl, hw7⟩
          have HW7 := hid_mk hw7
          clear hw7
          go_wp2
          go_ret
          exact ⟨rfl, HB.out.trans (HW7.out.mono HB.out.size)⟩
end Go.Proofs.Ytlnpiadjnjdfiaa.E
