/- EpochSafe: the walk. -/
import Derived.Test.YtlnpiadjnjdfiaaESn
import Derived.Deep.CutBlock
namespace Go.Proofs.Ytlnpiadjnjdfiaa.E
open Go.RowKit
set_option maxRecDepth 100000

theorem Try.info4s : (Try.prog.info? 4).map (fun i => (i.zero, i.size, i.bytes)) = some (some (.bool false), 1, 1) := by kernel_rfl
theorem made_false (n : Nat) : (madeCells #[Value.bool false] n).toList = (List.replicate n false).map Value.bool := by
  apply List.ext_getElem?
  intro j
  by_cases h : j < n
  · simp [madeCells, Nat.mod_one, h]
  · simp [madeCells, Nat.mod_one, h]

set_option maxHeartbeats 16000000 in
theorem safe_walk (W : World) {a : Int} (ha : (Lit.int .u64 a).wf = true) {v : Value} {zs : List (Int × Int)} (h : ActsAt W v zs) : Calls Try.prog 4 #[.int .u64 a, v] W fun e w' => e = .returned (.bool true) ∧ Below W.heap.size W w' := by
  have hmax : IntKind.u64.max = 18446744073709551615 := rfl
  have hmin : IntKind.u64.min = 0 := rfl
  simp only [Lit.wf, Bool.and_eq_true, decide_eq_true_eq, hmax, hmin] at ha
  obtain ⟨m, hm⟩ : ∃ m : Nat, (m : Int) = a % 8 := ⟨(a % 8).toNat, by omega⟩
  have hm8 : m < 8 := by omega
  obtain ⟨n, hn⟩ : ∃ n, n = 1 + m := ⟨_, rfl⟩
  have e1 : (1 : Int) + a % 8 = (n : Int) := by omega
  have hn1 : 1 ≤ n := by omega
  have hn8 : n ≤ 8 := by omega
  have hnew := hid_mk (new_any W n hn1 hn8)
  have HE1 := hid_mk e1
  obtain ⟨i0, hi0, hz0, hz1, hz2⟩ := info_parts Try.info4s
  obtain ⟨i3, hi3, hz3, hz31, hz32⟩ := info_parts Try.info3s
  obtain ⟨va, vc, ab, aoff, rfl, hln, haa, hz⟩ := h
  have HA := hid_mk haa
  have HZ : Hid (∀ (i : Nat), i < zs.length → ∃ x y : Int, ∀ wq, Below W.heap.size W wq → wq.cell? ⟨ab, aoff + i * 2, none⟩ = some (.int .i64 x) ∧ wq.cell? ⟨ab, aoff + i * 2 + 1, none⟩ = some (.int .i64 y)) := fun i hi => by
    obtain ⟨c1, c2⟩ := hz i _ (List.getElem?_eq_getElem hi)
    exact ⟨zs[i].1, zs[i].2, fun wq hb => ⟨(hb.cell (p := ⟨ab, aoff + i * 2, none⟩) (lt_of_cell c1)).trans c1, (hb.cell (p := ⟨ab, aoff + i * 2 + 1, none⟩) (lt_of_cell c2)).trans c2⟩⟩
  clear e1 hm hm8 hn hmax hmin haa hz
  generalize zs.length = N at *
  go_enter Try.func4, Try.ntmps4
  go_wp2_with (go_at_call 8; fail)
  rw [HE1.out]
  refine hnew.out.mono ?_
  rintro e w1 ⟨rfl, ho1, hb1⟩
  obtain ⟨b, hb⟩ : ∃ b, b = W.heap.size := ⟨_, rfl⟩
  have L1 : Hid (LvE W w1 ⟨b, n, 1, [0, 0, 0, 0, 0, 0, 0, 0], 0⟩ (.slice none 0 0) []) := by
    rw [← hb] at ho1
    exact ⟨ho1, hb1, by rw [hb]; exact Nat.le_refl _, fun k e => by cases e⟩
  rw [← hb]
  clear ho1 hb1 hnew hb ha HE1
  by_cases hbig : (N : Int) > 200
  · have hlv := lives_any w1
    go_wp2_with (go_at_call 10; refine hlv.mono ?_; rintro e w7 ⟨rfl, hw7⟩)
    go_ret
    exact ⟨rfl, L1.out.below.trans (hw7.mono L1.out.below.size)⟩
  · have hN : N ≤ 200 := by omega
    clear hbig
    have hbig : ¬ (N : Int) > 200 := by omega
    have HN1 : Hid ((N : Int) + 1 = ((N + 1 : Nat) : Int)) := by show _ = _; omega
    have HLB := hid_mk L1.out.below.size
    go_wp2_with (at_make; refine wpList_make_full _ rfl _ _ 52 rfl W.heap.size 4 i0 (.bool false) 1 Try.underlying52 hi0 hz0 hz1 .i64 .i64 _ _ (N + 1) rfl rfl HN1.out HN1.out (by rw [hz2]; omega) (by unfold maxLen; omega) HLB.out ?_; intro w2 hg2 hgr2; have HG2 := hid_mk hg2; have HGR2 := hid_mk hgr2; clear hg2 hgr2)
    obtain ⟨gb, hgb⟩ : ∃ gb, gb = w1.heap.size := ⟨_, rfl⟩
    have J0 : Hid (SfJ W w2 b n N (.slice (some ⟨gb, 0, none⟩) (N + 1) (N + 1)) 0 1 [0, 0, 0, 0, 0, 0, 0, 0] (.slice none 0 0) [] (.slice none 0 0) [] (List.replicate (N + 1) false)) := by
      have hb : Below w1.heap.size w1 w2 := (Below.refl _ _).grown HGR2.out (Nat.le_refl _) (by simp)
      have hl := L1.out.keep hb
      have hg := HG2.out
      rw [← hgb, Nat.mul_one, show (Value.bool false).cells = #[Value.bool false] from rfl, made_false] at hg
      have hXl : b < w1.heap.size := L1.out.eo.es.bx.lt
      refine ⟨⟨hl, own_nil _ _ _ _, by rw [List.length_replicate]; exact hg, (fun k e => by cases e), fun k e => ?_⟩, Inv.start _, by omega, by omega, by simp, by simp, by simp⟩
      have e : gb = k := Option.some.inj e
      exact ⟨by dsimp only; omega, by simp [Value.ownBlock]⟩
    rw [← hgb]
    clear HG2 HGR2 hgb L1 HLB HN1
    have HUG : Hid ((Value.slice (some ⟨gb, 0, none⟩) (N + 1) (N + 1)).ownBlock = some gb) := rfl
    obtain ⟨ug, hug⟩ : ∃ ug, ug = Value.slice (some ⟨gb, 0, none⟩) (N + 1) (N + 1) := ⟨_, rfl⟩
    have HUE := hid_mk hug
    rw [← hug] at J0 HUG
    clear hug
    go_loopw [46, 7] (fun p q wr => ∃ (j : Nat) (ut : Value), j ≤ N ∧ p = .int .i64 (j : Int) ∧ q = ut ∧ Hid (SfI W wr b n N ug j ut)) (fun p _ _ => N + 1 - (intOf p).toNat)
    case atStart => exact ⟨0, _, by omega, rfl, rfl, J0.out.i⟩
    case round =>
      clear J0
      obtain ⟨j, ut, hj, rfl, rfl, HI⟩ := hrel
      by_cases hjN : j < N
      · have hd : (j : Int) < (N : Int) := by omega
        obtain ⟨x, y, hxy⟩ := HZ.out j hjN
        have hva := HA.out (by omega)
        subst hva
        obtain ⟨now, S, v, L, T, G, hJ⟩ := HI.out
        obtain ⟨c1, c2⟩ := hxy wr hJ.m.lv.below
        have HJ : Hid (SfJ W (wr.alloc (.cells #[.int .i64 x, .int .i64 y] 29)) b n N ug j now S v L u7 T G) := hJ.keep ((Below.refl _ _).alloc (Nat.le_refl _) _)
        obtain ⟨va2, vc2, hut⟩ := own_slice hJ.m.wh
        clear hJ HI hxy
        by_cases hx0 : x = 0
        · subst hx0
          have hn := hid_mk (now_any HJ.out.m.lv.eo.es.bx hn1)
          have hq := hid_mk (sf_publish HJ.out (by omega))
          have hne : ((now + 1) != (now + 1)) = false := by simp
          have hno1 : 1 ≤ now := HJ.out.one
          have hno2 : now ≤ 202 := by have := HJ.out.le; omega
          clear hut
          go_wp2_with (go_at_call 23; fail)
          refine hn.out.mono ?_
          rintro e w' ⟨rfl, hw⟩
          rw [hw]
          clear hw w'
          go_wp2_with (go_at_call 11; fail)
          refine hq.out.mono ?_
          rintro e w3 ⟨rfl, HI3⟩
          have HI3 := hid_mk HI3
          go_wp2
          exact ⟨⟨j + 1, _, by omega, by simp, rfl, HI3⟩, by simp [intOf]; omega⟩
        · have hx0' : (x == 0) = false := by rw [beq_eq_false_iff_ne]; exact hx0
          by_cases hx1 : x = 1
          · subst hx1
            have hq := hid_mk (sf_pin HJ.out)
            have hne : (now != now) = false := by simp
            clear hut hx0
            go_wp2_with (go_at_call 13; fail)
            refine hq.out.mono ?_
            rintro e w3 (⟨k, rfl, HI3, hp3, hn3⟩ | ⟨rfl, HI3⟩)
            · have HI3 := hid_mk HI3
              have hp3 := hid_mk hp3
              have hn3 := hid_mk hn3
              clear hq
              go_wp2_with (first
                | (go_at_call 26; refine hp3.out.mono ?_; rintro e w' ⟨rfl, hw⟩; rw [hw]; clear hw w')
                | (go_at_call 23; refine hn3.out.mono ?_; rintro e w' ⟨rfl, hw⟩; rw [hw]; clear hw w'))
              exact ⟨⟨j + 1, _, by omega, by simp, rfl, HI3⟩, by simp [intOf]; omega⟩
            · have HI3 := hid_mk HI3
              clear hq
              go_wp2
              exact ⟨⟨j + 1, _, by omega, by simp, rfl, HI3⟩, by simp [intOf]; omega⟩
          · have hx1' : (x == 1) = false := by rw [beq_eq_false_iff_ne]; exact hx1
            by_cases hx2 : x = 2
            · subst hx2
              have hq := hid_mk (sf_unpin HJ.out y)
              clear hut hx0 hx1 hx0' hx1'
              go_wp2_with (go_at_call 15; fail)
              refine hq.out.mono ?_
              rintro e w3 ⟨⟨v3, rfl⟩, HI3⟩
              have HI3 := hid_mk HI3
              clear hq
              go_wp2
              exact ⟨⟨j + 1, _, by omega, by simp, rfl, HI3⟩, by simp [intOf]; omega⟩
            · have hx2' : (x == 2) = false := by rw [beq_eq_false_iff_ne]; exact hx2
              by_cases hx3 : x = 3
              · subst hx3
                clear hx0 hx1 hx2 hx0' hx1' hx2'
                subst hut
                have hq := hid_mk (sf_retire HJ.out hjN hN)
                go_wp2_with (go_at_call 18; fail)
                refine hq.out.mono ?_
                rintro e w3 ⟨⟨v3, rfl⟩, v4, K, hM, hKl, hInv⟩
                have HM := hid_mk hM
                have HIV := hid_mk hInv
                have hn := hid_mk (now_any hM.lv.eo.es.bx hn1)
                have hTl : T.length ≤ 200 := by have := HJ.out.tl; omega
                have HSZ := hid_mk hM.lv.below.size
                clear hq hM hInv c1 c2
                go_wp2_with (go_at_call 23; fail)
                refine hn.out.mono ?_
                rintro e w' ⟨rfl, hw⟩
                rw [hw]
                clear hw w' hn
                go_wp2_with (at_builtin; refine wpList_append_own_at _ rfl _ _ 40 rfl W.heap.size 3 i3 (.int .i64 0) 1 8 Try.underlying40 hi3 hz3 hz31 hz32 rfl (by decide) _ _ _ rfl (HM.out.wh.alloc _) ⟨w3.heap.size, 0, none⟩ 1 1 [.int .i64 now] rfl rfl (World.news_of_block (cs := #[.int .i64 now]) (t := 3) (fr := (0, 0)) (heap_alloc_last w3 _)) (by simp [Value.oneCell']) (by unfold maxLen; omega) (by omega) (by have := HSZ.out; simp; omega) ?_; intro u6 w4 hu6 hg6 _ hat6; have HU6 := hid_mk hu6; have HG6 : Hid ((w3.alloc (.cells #[.int .i64 now] 3)).grownBy w4 (Value.slice va2 T.length vc2).ownBlock) := hg6; have HAT6 : Hid (u6.ownBlock = (Value.slice va2 T.length vc2).ownBlock ∨ u6.ownBlock = some (w3.alloc (.cells #[.int .i64 now] 3)).heap.size) := hat6; clear hu6 hg6 hat6)
                have HI3 : Hid (SfI W w4 b n N ug (j + 1) u6) := SfJ.i ⟨HM.out.app HU6.out HG6.out HAT6.out, HIV.out, HJ.out.one, by have := HJ.out.le; omega, by rw [List.length_append]; have := HJ.out.tl; simp; omega, hKl, HJ.out.gl⟩
                exact ⟨⟨j + 1, _, by omega, by simp, rfl, HI3⟩, by simp [intOf]; omega⟩
              · have hx3' : (x == 3) = false := by rw [beq_eq_false_iff_ne]; exact hx3
                by_cases hx4 : x = 4
                · subst hx4
                  clear hx0 hx1 hx2 hx3 hx0' hx1' hx2' hx3'
                  subst hut
                  have hq := hid_mk (sf_reclaim HJ.out (by omega))
                  go_wp2_with (go_at_call 20; fail)
                  refine hq.out.mono ?_
                  rintro e w3 ⟨u, v4, K, R, B, rfl, hR, hok, _, hRl⟩
                  have hRl2 : R.length ≤ 200 := by omega
                  obtain ⟨ua, uc, rfl⟩ := own_slice hR.row
                  have HR := hid_mk hR
                  have HOK := hid_mk hok
                  clear hq hR hok c1 c2
                  go_wp2
                  go_loopw [100] (fun p wx => ∃ (i : Nat) (G' : List Bool), i ≤ R.length ∧ p = .int .i64 (i : Int) ∧ Hid (SfR W wx b n N ug j now S v4 K (.slice va2 T.length vc2) T G' B (.slice ua R.length uc) R i)) (fun p _ => R.length + 1 - (intOf p).toNat)
                  case atStart => exact ⟨0, _, by omega, rfl, HR⟩
                  case round =>
                    clear HR
                    obtain ⟨i, G', hi, rfl, HR⟩ := hrel
                    by_cases hiR : i < R.length
                    · have hdi : (i : Int) < (R.length : Int) := by omega
                      obtain ⟨k, e, hr, hT, hG, hkN, hkT, hset⟩ := HR.out.next hiR HUG.out
                      obtain ⟨g5, c5, he5, _, _⟩ := row_form HR.out.row (by omega)
                      cases he5
                      have hc5 := (row_cell HR.out.row (k := i) (x := .int .i64 (k : Int)) (by simp [hr, idV])).1
                      obtain ⟨g7, c7, he7, _, _⟩ := row_form HR.out.m.wh (by omega)
                      cases he7
                      have hgo := HR.out.m.gn
                      rw [HUE.out, HR.out.gl] at hgo
                      obtain ⟨hcg, hfg⟩ := row_cell hgo (k := k) (x := .bool false) (by simp [hG])
                      have hk0 : ¬ (k : Int) < 0 := by omega
                      have hkT2 : ¬ (k : Int) ≥ (T.length : Int) := by omega
                      have hkN0 : (k : Int) < ((N + 1 : Nat) : Int) := by omega
                      have hkN2 : (k : Int) < (N : Int) + 1 := by omega
                      have hrm : ((k : Int), e) ∈ R := List.mem_of_getElem? hr
                      have HKE : Hid (∀ (s : Nat) (x : Int), s < n → S[s]? = some x → x > 0 → ¬ x ≤ e) := fun s x hs hx h0 => okR_slot (HOK.out _ hrm) hs hx h0
                      have HR5 := hid_mk (hset _ rfl)
                      clear hset hr hG hrm hgo
                      go_wp2
                      generalize wr.setCell ⟨gb, k, none⟩ (.bool true) = w5 at *
                      have HT7 := hid_mk (row_cell HR5.out.m.wh (k := k) (x := .int .i64 e) (by simp [hT, iv])).1
                      clear hcg hfg hc5 hT HR
                      go_loopw [16] (fun p wy => ∃ s : Nat, s ≤ n ∧ p = .int .i64 (s : Int) ∧ wy = w5) (fun p _ => n + 1 - (intOf p).toNat)
                      case atStart => exact ⟨0, by omega, rfl, rfl⟩
                      case round =>
                        obtain ⟨s, hs, rfl, rfl⟩ := hrel
                        by_cases hsn : s < n
                        · have hds : (s : Int) < (n : Int) := by omega
                          obtain ⟨sv, hsv⟩ : ∃ sv, S[s]? = some sv := ⟨_, List.getElem?_eq_getElem (by have : S.length = 8 := HR5.out.m.lv.eo.es.bx.len; omega)⟩
                          have hpn := hid_mk (pinned_slot HR5.out.m.lv.eo (k := s) hsn hsv)
                          have hc7 := HT7.out
                          by_cases h0 : sv > 0
                          · have hle : ¬ sv ≤ e := by have := HKE.out s sv hsn hsv h0; omega
                            clear hsv
                            go_wp2_with (go_at_call 26; refine hpn.out.mono ?_; rintro e w' ⟨rfl, hw⟩; rw [hw]; clear hw w')
                            exact ⟨⟨s + 1, by omega, by simp⟩, by simp [intOf]; omega⟩
                          · clear hsv
                            go_wp2_with (go_at_call 26; refine hpn.out.mono ?_; rintro e w' ⟨rfl, hw⟩; rw [hw]; clear hw w')
                            exact ⟨⟨s + 1, by omega, by simp⟩, by simp [intOf]; omega⟩
                        · obtain rfl : s = n := by omega
                          have hds : ¬ (s : Int) < (s : Int) := by omega
                          go_wp2
                          exact ⟨⟨i + 1, _, by omega, by simp, HR5⟩, by simp [intOf]; omega⟩
                    · obtain rfl : i = R.length := by omega
                      have hdi : ¬ (R.length : Int) < (R.length : Int) := by omega
                      have HI3 := hid_mk (HR.out.done HJ.out.one HJ.out.le HJ.out.tl).later.i
                      go_wp2
                      exact ⟨⟨j + 1, _, by omega, by simp, rfl, HI3⟩, by simp [intOf]; omega⟩
                · have hx4' : (x == 4) = false := by rw [beq_eq_false_iff_ne]; exact hx4
                  have HI3 := hid_mk HJ.out.later.i
                  clear hut
                  go_wp2
                  exact ⟨⟨j + 1, _, by omega, by simp, rfl, HI3⟩, by simp [intOf]; omega⟩
      · obtain rfl : j = N := by omega
        have hd : ¬ (j : Int) < (j : Int) := by omega
        obtain ⟨now, S, v, L, T, G, hJ⟩ := HI.out
        obtain ⟨va2, vc2, hut⟩ := own_slice hJ.m.wh
        subst hut
        have HJ := hid_mk hJ
        clear hJ HI
        go_wp2
        go_loopw [18] (fun p wx => ∃ (s : Nat) (S' : List Int), s ≤ n ∧ p = .int .i64 (s : Int) ∧ Hid (SfJ W wx b n j ug j now S' v L (.slice va2 T.length vc2) T G ∧ ∀ (i : Nat) (e : Int), i < s → S'[i]? = some e → e = 0)) (fun p _ => n + 1 - (intOf p).toNat)
        case atStart => exact ⟨0, S, by omega, rfl, HJ.out, fun i e hi => by omega⟩
        case round =>
          clear HJ
          obtain ⟨s, S', hs, rfl, HJ⟩ := hrel
          by_cases hsn : s < n
          · have hds : (s : Int) < (n : Int) := by omega
            have hq := hid_mk (sf_free HJ.out.1 hsn HJ.out.2)
            go_wp2_with (go_at_call 15; fail)
            refine hq.out.mono ?_
            rintro e w3 ⟨⟨v3, rfl⟩, S3, HJ3, hz3⟩
            have HJ3 := hid_mk (And.intro HJ3 hz3)
            clear hz3
            go_wp2
            exact ⟨⟨s + 1, S3, by omega, by simp, HJ3⟩, by simp [intOf]; omega⟩
          · obtain rfl : s = n := by omega
            have hds : ¬ (s : Int) < (s : Int) := by omega
            have HLZ := hid_mk (least_none HJ.out.2)
            have hq := hid_mk (sf_reclaim HJ.out.1 (by omega))
            have HTL := hid_mk HJ.out.1.tl
            clear HJ
            go_wp2_with (go_at_call 20; fail)
            refine hq.out.mono ?_
            rintro e w3 ⟨u, v4, K, R, B, rfl, hR, _, hend, hRl⟩
            have hK : K = [] := by
              cases K with
              | nil => rfl
              | cons r K => exact absurd (.inl HLZ.out) (hend r (List.mem_cons_self ..))
            subst hK
            have hRl2 : R.length ≤ 200 := by omega
            obtain ⟨ua, uc, rfl⟩ := own_slice hR.row
            have HR := hid_mk hR
            clear hq hR hend hds
            go_wp2
            go_loopw [152] (fun p wx => ∃ (i : Nat) (G' : List Bool), i ≤ R.length ∧ p = .int .i64 (i : Int) ∧ Hid (SfR W wx b s j ug j now S' v4 [] (.slice va2 T.length vc2) T G' B (.slice ua R.length uc) R i)) (fun p _ => R.length + 1 - (intOf p).toNat)
            case atStart => exact ⟨0, _, by omega, rfl, HR⟩
            case round =>
              clear HR
              obtain ⟨i, G', hi, rfl, HR⟩ := hrel
              by_cases hiR : i < R.length
              · have hdi : (i : Int) < (R.length : Int) := by omega
                obtain ⟨k, e, hr, hT, hG, hkN, hkT, hset⟩ := HR.out.next hiR HUG.out
                obtain ⟨g5, c5, he5, _, _⟩ := row_form HR.out.row (by omega)
                cases he5
                have hc5 := (row_cell HR.out.row (k := i) (x := .int .i64 (k : Int)) (by simp [hr, idV])).1
                have hgo := HR.out.m.gn
                rw [HUE.out, HR.out.gl] at hgo
                obtain ⟨hcg, hfg⟩ := row_cell hgo (k := k) (x := .bool false) (by simp [hG])
                have hk0 : ¬ (k : Int) < 0 := by omega
                have hkT2 : ¬ (k : Int) ≥ (T.length : Int) := by omega
                have hkN0 : (k : Int) < ((j + 1 : Nat) : Int) := by omega
                have hkN2 : (k : Int) < (j : Int) + 1 := by omega
                have HR5 := hid_mk (hset _ rfl)
                clear hset hr hG hgo hT
                go_wp2
                exact ⟨⟨i + 1, _, by omega, by simp, HR5⟩, by simp [intOf]; omega⟩
              · obtain rfl : i = R.length := by omega
                have hdi : ¬ (R.length : Int) < (R.length : Int) := by omega
                have HEND : Hid (∀ k, k < T.length → G'[k]? = some true) := fun k hk => by
                  have hinv := HR.out.inv
                  rw [List.drop_length, List.nil_append] at hinv
                  rcases hinv.was k _ (List.getElem?_eq_getElem hk) with h | h
                  · exact h
                  · simp at h
                go_wp2
                go_loopw [176] (fun p wx => ∃ k : Nat, k ≤ T.length ∧ p = .int .i64 (k : Int) ∧ wx = wr) (fun p _ => T.length + 1 - (intOf p).toNat)
                case atStart => exact ⟨0, by omega, rfl, rfl⟩
                case round =>
                  obtain ⟨k, hk, rfl, rfl⟩ := hrel
                  have hN201 : j ≤ 200 := hN
                  have hTl : T.length ≤ j := HTL.out
                  by_cases hkT : k < T.length
                  · have hgo := HR.out.m.gn
                    rw [HUE.out, HR.out.gl] at hgo
                    obtain ⟨hcg, hfg⟩ := row_cell hgo (k := k) (x := .bool true) (by simp [HEND.out k hkT])
                    have hkN0 : (k : Int) < ((j + 1 : Nat) : Int) := by omega
                    have hkN2 : (k : Int) < (j : Int) + 1 := by omega
                    have hdk : (k : Int) < (T.length : Int) := by omega
                    clear hgo
                    go_wp2
                    exact ⟨⟨k + 1, by omega, by simp⟩, by simp [intOf]; omega⟩
                  · obtain rfl : k = T.length := by omega
                    have hdk : ¬ (T.length : Int) < (T.length : Int) := by omega
                    have hw := hid_mk (waiting_empty HR.out.m.lv.eo)
                    go_wp2_with (go_at_call 22; fail)
                    refine hw.out.mono ?_
                    rintro e w5 ⟨rfl, ho5, hk5⟩
                    have L5 := hid_mk (HR.out.m.lv.step ho5 rfl hk5)
                    have hmn : Hid (Calls Try.prog 24 #[.pointer (some ⟨b, 0, none⟩)] w5 fun e w' => e = .returned (.int .i64 now) ∧ Hid (LvE W w' ⟨b, s, now, S', 0⟩ v4 [])) := (min_any L5.out.eo).mono fun e w' hh => ⟨by
                      rw [hh.1]
                      unfold minZ
                      rw [if_neg (by rw [HLZ.out]; simp)], L5.out.step hh.2.1 rfl hh.2.2⟩
                    clear hw ho5 hk5 HR HEND
                    go_wp2_with (go_at_call 24; fail)
                    refine hmn.out.mono ?_
                    rintro e w6 ⟨rfl, L6⟩
                    have hnw := hid_mk (now_any L6.out.eo.es.bx L6.out.eo.n1)
                    have hlv := lives_any w6
                    have hee : (now == now) = true := by simp
                    clear hmn L5
                    go_wp2_with (first
                      | (go_at_call 23; refine hnw.out.mono ?_; rintro e w' ⟨rfl, hw⟩; rw [hw]; clear hw w')
                      | (go_at_call 10; refine hlv.mono ?_; rintro e w7 ⟨rfl, hw7⟩))
                    go_ret
                    exact ⟨rfl, L6.out.below.trans (hw7.mono L6.out.below.size)⟩
end Go.Proofs.Ytlnpiadjnjdfiaa.E
