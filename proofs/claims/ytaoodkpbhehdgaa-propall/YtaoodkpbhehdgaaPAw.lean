/- PropAll: the walk. -/
import Derived.Test.YtaoodkpbhehdgaaPLv
namespace Go.Proofs.Ytaoodkpbhehdgaa
open Go.RowKit
set_option maxRecDepth 100000

theorem all_plc : T.map (fun p => plc p.n) = (List.range 48).map (fun k : Nat => (k : Int)) := by kernel_rfl
theorem all_prc : T.map (fun p => prc p.n) = T := by kernel_rfl
theorem all_lgs : T.map (fun p => (lgs p.n).length) = List.replicate 48 0 := by kernel_rfl
theorem sh_one : shs.all (fun x => (lgs x).all (fun n => decide (0 ≤ plc n)) && decide (2 ≤ (lgs x).length) && decide ((lgs x).length ≤ 4) && decide (plc x = -1)) = true := by kernel_rfl
theorem sh_two : shs.all (fun x => shs.all fun y => (lgs x).all fun n => (lgs y).all fun m => !(n.toList == m.toList) || (x.toList == y.toList)) = true := by kernel_rfl
theorem T_facts (k : Nat) (hk : k < 48) : ∃ p, T[k]? = some p ∧ plc p.n = (k : Int) ∧ prc p.n = p ∧ (lgs p.n).length = 0 := by
  obtain ⟨p, hp⟩ : ∃ p, T[k]? = some p := ⟨_, List.getElem?_eq_getElem (by rw [T_len]; exact hk)⟩
  refine ⟨p, hp, ?_, ?_, ?_⟩
  · have := congrArg (fun l => l[k]?) all_plc
    simp only [List.getElem?_map, hp, Option.map_some] at this
    rw [List.getElem?_range hk] at this
    simpa using this
  · have := congrArg (fun l => l[k]?) all_prc
    simp only [List.getElem?_map, hp, Option.map_some] at this
    simpa using this
  · have := congrArg (fun l => l[k]?) all_lgs
    simp only [List.getElem?_map, hp, Option.map_some, List.getElem?_replicate, hk, if_true] at this
    simpa using this
theorem sh_facts (k : Nat) (hk : k < 6) : ∃ x, shs[k]? = some x ∧ x ∈ shs ∧ (∀ n ∈ lgs x, 0 ≤ plc n) ∧ 2 ≤ (lgs x).length ∧ (lgs x).length ≤ 4 ∧ plc x = -1 := by
  obtain ⟨x, hx⟩ : ∃ x, shs[k]? = some x := ⟨_, List.getElem?_eq_getElem (show k < shs.length from hk)⟩
  have hm := List.mem_of_getElem? hx
  have h := List.all_eq_true.1 sh_one x hm
  simp only [Bool.and_eq_true, decide_eq_true_eq, List.all_eq_true] at h
  exact ⟨x, hx, hm, h.1.1.1, h.1.1.2, h.1.2, h.2⟩
theorem sh_apart {x y n m : ByteArray} (hx : x ∈ shs) (hy : y ∈ shs) (hn : n ∈ lgs x) (hm : m ∈ lgs y) (h : (n.toList == m.toList) = true) : (x.toList != y.toList) = false := by
  have h1 := List.all_eq_true.1 sh_two x hx
  have h2 := List.all_eq_true.1 h1 y hy
  have h3 := List.all_eq_true.1 h2 n hn
  have h4 := List.all_eq_true.1 h3 m hm
  rw [h] at h4
  simp only [Bool.not_true, Bool.false_or] at h4
  rw [bne, h4]
  rfl

set_option maxHeartbeats 8000000 in
theorem all_walk (i k : Int) (hi : (Lit.int .u64 i).wf = true) (hk : (Lit.int .u64 k).wf = true) (w : World) : Calls Try.prog 3 #[.int .u64 i, .int .u64 k] w fun e w' => e = .returned (.bool true) ∧ Below w.heap.size w w' := by
  obtain ⟨hi0, hi1⟩ := bounds_u64 hi
  obtain ⟨hk0, hk1⟩ := bounds_u64 hk
  obtain ⟨a48, ha48, hal⟩ : ∃ a : Nat, i % 48 = (a : Int) ∧ a < 48 := ⟨(i % 48).toNat, by omega, by omega⟩
  obtain ⟨x6, hx6, hxl⟩ : ∃ a : Nat, i % 6 = (a : Int) ∧ a < 6 := ⟨(i % 6).toNat, by omega, by omega⟩
  obtain ⟨y6, hy6, hyl⟩ : ∃ a : Nat, k % 6 = (a : Int) ∧ a < 6 := ⟨(k % 6).toNat, by omega, by omega⟩
  obtain ⟨⟨tn, ti, th, tf⟩, hT, hTp, hTr, hTl⟩ := T_facts a48 hal
  obtain ⟨X, hX, hXm, hXp, hX2, hX4, hXn⟩ := sh_facts x6 hxl
  obtain ⟨Y, hY, hYm, _, _, hY4, _⟩ := sh_facts y6 hyl
  have hall := all_any w
  dsimp only at hTp hTr hTl
  have HT := hid_mk hT
  have HTP := hid_mk hTp
  have HTR := hid_mk hTr
  have HTL := hid_mk hTl
  have HX := hid_mk hX
  have HXM := hid_mk hXm
  have HXP := hid_mk hXp
  have HXN := hid_mk hXn
  have HY := hid_mk hY
  have HYM := hid_mk hYm
  have hai : (a48 : Int) < 48 := by omega
  have hxi : (x6 : Int) < 6 := by omega
  have hyi : (y6 : Int) < 6 := by omega
  clear hi hk hT hTp hTr hTl hX hXm hXp hXn hY hYm
  go_enter Try.func3, Try.ntmps3
  go_wp2_with (go_at_call 4; fail)
  refine hall.mono ?_
  rintro e w1 ⟨b, rfl, hA1, hb1⟩
  have hsh := shorts_any w1
  go_wp2_with (go_at_call 5; fail)
  refine hsh.mono ?_
  rintro e w2 ⟨⟨sa, sc, rfl, hS⟩, hb2⟩
  obtain ⟨sa', sc', se, hsc, hsm, hscell⟩ := hS.form
  injection se with se1 se2 se3
  subst se1 se3
  obtain ⟨g, rfl, hsg⟩ := hscell (by decide)
  have hB2 := later hb1 hb2
  obtain ⟨q1, q2, q3, q4⟩ := row_at (hA1.below hb2) a48 _ HT.out
  have HSG : Hid (∀ w', Below w2.heap.size w2 w' → w'.cell? ⟨g, x6, none⟩ = some (.string X) ∧ w'.cell? ⟨g, y6, none⟩ = some (.string Y)) := fun w' hb => by
    have h1 := hsg _ _ HX.out
    have h2 := hsg _ _ HY.out
    exact ⟨(hb.cell (p := ⟨g, x6, none⟩) (lt_of_cell h1)).trans h1, (hb.cell (p := ⟨g, y6, none⟩) (lt_of_cell h2)).trans h2⟩
  have hsc6 : 6 ≤ sc := hsc
  dsimp only at q1 q2 q3 q4
  obtain ⟨w3, hw3⟩ : ∃ w3, w3 = w2.alloc (.cells #[.string tn, .string ti, .bool th, .string tf] 28) := ⟨_, rfl⟩
  have hb3 : Below w2.heap.size w2 w3 := by rw [hw3]; exact (Below.refl _ w2).alloc (Nat.le_refl _) _
  have hX3 : Bx w3 w2.heap.size 28 #[.string tn, .string ti, .bool th, .string tf] := by rw [hw3]; exact Bx.new _ _ _
  have r1 : w3.cell? ⟨w2.heap.size, 0, none⟩ = some (.string tn) := hX3.cell 0 _ rfl
  have HB3 := hid_mk (later hB2 hb3)
  have HB23 := hid_mk hb3
  have HX3 := hid_mk hX3
  clear hall hsh hA1 hb1 hb2 hS se2 hscell hsg hsc hB2 hb3 hX3
  go_upto_region 5 with fail
  rw [← hw3]
  clear hw3 q1 q2 q3 q4
  have hf := find_any tn w3
  rw [HTP.out, HTR.out] at hf
  go_wp2_with (go_at_call 6; fail)
  refine hf.mono ?_
  rintro e w4 ⟨rfl, hb4⟩
  obtain ⟨w5, hw5⟩ : ∃ w5, w5 = w4.alloc (.cells #[.string tn, .string ti, .bool th, .string tf] 28) := ⟨_, rfl⟩
  have hb45 : Below w4.heap.size w4 w5 := by rw [hw5]; exact (Below.refl _ w4).alloc (Nat.le_refl _) _
  have hb35 := later hb4 hb45
  have hX5 : Bx w5 w4.heap.size 28 #[.string tn, .string ti, .bool th, .string tf] := by rw [hw5]; exact Bx.new _ _ _
  have hX35 := HX3.out.below hb35
  have r1 : w5.cell? ⟨w2.heap.size, 0, none⟩ = some (.string tn) := hX35.cell 0 _ rfl
  have r2 : w5.cell? ⟨w2.heap.size, 1, none⟩ = some (.string ti) := hX35.cell 1 _ rfl
  have r3 : w5.cell? ⟨w2.heap.size, 2, none⟩ = some (.bool th) := hX35.cell 2 _ rfl
  have r4 : w5.cell? ⟨w2.heap.size, 3, none⟩ = some (.string tf) := hX35.cell 3 _ rfl
  have s1 : w5.cell? ⟨w4.heap.size, 0, none⟩ = some (.string tn) := hX5.cell 0 _ rfl
  have s2 : w5.cell? ⟨w4.heap.size, 1, none⟩ = some (.string ti) := hX5.cell 1 _ rfl
  have s3 : w5.cell? ⟨w4.heap.size, 2, none⟩ = some (.bool th) := hX5.cell 2 _ rfl
  have s4 : w5.cell? ⟨w4.heap.size, 3, none⟩ = some (.string tf) := hX5.cell 3 _ rfl
  have HX5 := hid_mk hX35
  have HB5 := hid_mk (later HB3.out hb35)
  have HB25 := hid_mk (later HB23.out hb35)
  have hpl := place_any tn w5
  rw [HTP.out] at hpl
  clear hf hb4 hb45 hb35 hX5 hX35 HX3 HB3 HB23
  go_upto_region 6 with fail
  rw [← hw5]
  clear hw5
  go_wp2_with (go_at_call 7; fail)
  refine hpl.mono ?_
  rintro e w6 ⟨rfl, hb6⟩
  have hX6 := HX5.out.below hb6
  have r1' : w6.cell? ⟨w2.heap.size, 0, none⟩ = some (.string tn) := hX6.cell 0 _ rfl
  have HB6 := hid_mk (later HB5.out hb6)
  have HB26 := hid_mk (later HB25.out hb6)
  have hlg := longs_any tn w6
  rw [HTL.out] at hlg
  clear hpl hb6 hX6 r1 r2 r3 r4 s1 s2 s3 s4 HX5 HB5 HB25
  go_wp2_with (go_at_call 8; fail)
  refine hlg.mono ?_
  rintro e w7 ⟨⟨la, ln, lc, rfl, rfl, _⟩, hb7⟩
  have HB7 := hid_mk (later HB6.out hb7)
  have hb27 := later HB26.out hb7
  obtain ⟨u1, u2⟩ := HSG.out w7 hb27
  clear hlg hb7 r1' HB6 HB26 hb27 HT HTP HTR HTL
  go_upto_region 8 with fail
  go_quiet (fail)
  have HB8 : Hid (Below w.heap.size w (w7.drewN nq)) := HB7.out.trans ⟨rfl, rfl, rfl, Nat.le_refl _, fun _ _ => rfl⟩
  have HLX : Hid (∀ w, Calls Try.prog 8 #[.string X] w fun e w' => (∃ a c, e = .returned (.slice a (lgs X).length c) ∧ StrAt w' (.slice a (lgs X).length c) (lgs X)) ∧ Below w.heap.size w w') := fun w => (longs_any X w).mono fun e w' h => by
    obtain ⟨⟨a, n, c, h1, rfl, h2⟩, h3⟩ := h
    exact ⟨⟨a, c, h1, h2⟩, h3⟩
  have HLY : Hid (∀ w, Calls Try.prog 8 #[.string Y] w fun e w' => (∃ a c, e = .returned (.slice a (lgs Y).length c) ∧ StrAt w' (.slice a (lgs Y).length c) (lgs Y)) ∧ Below w.heap.size w w') := fun w => (longs_any Y w).mono fun e w' h => by
    obtain ⟨⟨a, n, c, h1, rfl, h2⟩, h3⟩ := h
    exact ⟨⟨a, c, h1, h2⟩, h3⟩
  have HAP : Hid (∀ n m, n ∈ lgs X → m ∈ lgs Y → (n.toList == m.toList) = true → (X.toList != Y.toList) = false) := fun n m h1 h2 h3 => sh_apart HXM.out HYM.out h1 h2 h3
  have HPX : Hid (∀ w, Calls Try.prog 7 #[.string X] w fun e w' => e = .returned (.int .i64 (-1)) ∧ Below w.heap.size w w') := fun w => by
    have := place_any X w
    rw [HXN.out] at this
    exact this
  have HGX : Hid (∀ j, j < (lgs X).length → ∃ s, (lgs X)[j]? = some s ∧ s ∈ lgs X) := fun j hj => ⟨_, List.getElem?_eq_getElem hj, List.getElem_mem hj⟩
  have HGY : Hid (∀ j, j < (lgs Y).length → ∃ s, (lgs Y)[j]? = some s ∧ s ∈ lgs Y) := fun j hj => ⟨_, List.getElem?_eq_getElem hj, List.getElem_mem hj⟩
  generalize hNX : (lgs X).length = NX at *
  generalize hNY : (lgs Y).length = NY at *
  have HNX := hid_mk hNX
  have HNY := hid_mk hNY
  generalize lgs X = LX at *
  generalize lgs Y = LY at *
  clear hNX hNY u1 u2 HSG HX HY HXM HYM HXN HB7 ha48 hx6 hy6 hai hxi hyi hi0 hi1 hk0 hk1
  generalize w7.drewN nq = w8 at *
  have hlx := HLX.out w8
  go_wp2_with (go_at_call 8; fail)
  refine hlx.mono ?_
  rintro e w9 ⟨⟨xa, xc, rfl, hSX⟩, hb9⟩
  have HB9 := hid_mk (later HB8.out hb9)
  obtain ⟨xa', xc', xe, hxc, hxm, hxcell⟩ := hSX.form
  injection xe with xe1 xe2 xe3
  subst xe1 xe3
  obtain ⟨gx, rfl, hgx⟩ := hxcell (by rw [HNX.out]; omega)
  have HCX : Hid (∀ w', Below w9.heap.size w9 w' → ∀ j s, LX[j]? = some s → w'.cell? ⟨gx, j, none⟩ = some (.string s)) := fun w' hb j s hs => by
    have h1 := hgx j s hs
    exact (hb.cell (p := ⟨gx, j, none⟩) (lt_of_cell h1)).trans h1
  have hxc2 : NX ≤ xc := by rw [← HNX.out]; exact hxc
  clear hlx hb9 hSX xe2 hxcell hgx hxc HB8
  go_wp2
  go_loopw [73] (fun a73 wr => ∃ j : Nat, a73 = .int .i64 (j : Int) ∧ j ≤ NX ∧ Hid (Below w9.heap.size w9 wr)) (fun a73 _ => NX + 1 - (intOf a73).toNat)
  case atStart => exact ⟨0, rfl, Nat.zero_le _, hid_mk (Below.refl _ _)⟩
  case round =>
    obtain ⟨j, rfl, hj, HBr⟩ := hrel
    by_cases hjl : j < NX
    · obtain ⟨n, hn, hnm⟩ := HGX.out j hjl
      have v1 := HCX.out wr HBr.out j n hn
      have hpn := HXP.out n hnm
      have hpl := place_any n wr
      have HNM := hid_mk hnm
      generalize plc n = pc at *
      have hpc : decide (pc < 0) = false := decide_eq_false (by omega)
      clear hn hnm
      go_wp2_with (go_at_call 7; fail)
      refine hpl.mono ?_
      rintro e wa ⟨rfl, hba⟩
      have HBa := hid_mk (later HBr.out hba)
      have hly := HLY.out wa
      clear hpl hba v1
      go_wp2_with (go_at_call 8; fail)
      refine hly.mono ?_
      rintro e wb ⟨⟨ya, yc, rfl, hSY⟩, hbb⟩
      have HBb := hid_mk (later HBa.out hbb)
      obtain ⟨ya', yc', ye, hyc, hym, hycell⟩ := hSY.form
      injection ye with ye1 ye2 ye3
      subst ye1 ye3
      have hyc2 : NY ≤ yc := by rw [← HNY.out]; exact hyc
      have HCY : Hid (0 < NY → ∃ gy, ya = some ⟨gy, 0, none⟩ ∧ ∀ k s, LY[k]? = some s → wb.cell? ⟨gy, k, none⟩ = some (.string s)) := fun h => hycell (by rw [HNY.out]; exact h)
      clear hly hbb hSY ye2 hycell hyc HBa
      go_wp2
      go_loopw [83] (fun a83 wq => ∃ m : Nat, a83 = .int .i64 (m : Int) ∧ m ≤ NY ∧ wq = wb) (fun a83 _ => NY + 1 - (intOf a83).toNat)
      case atStart => exact ⟨0, rfl, Nat.zero_le _, rfl⟩
      case round =>
        obtain ⟨m, rfl, hm, rfl⟩ := hrel
        by_cases hml : m < NY
        · obtain ⟨t, ht, htm⟩ := HGY.out m hml
          obtain ⟨gy, rfl, hgy⟩ := HCY.out (by omega)
          have v2 := hgy m t ht
          have hap := HAP.out n t HNM.out htm
          clear ht htm hgy
          cases heq : (n.toList == t.toList) with
          | true =>
            have hne := hap heq
            have hne2 : (X.toList == Y.toList) = true := by
              cases hq : (X.toList == Y.toList) with
              | true => rfl
              | false => rw [bne, hq] at hne; cases hne
            clear hap hne
            go_wp2
            refine ⟨⟨m + 1, by simp, by omega, trivial⟩, ?_⟩
            simp only [intOf]
            omega
          | false =>
            clear hap
            go_wp2
            refine ⟨⟨m + 1, by simp, by omega, trivial⟩, ?_⟩
            simp only [intOf]
            omega
        · go_wp2
          refine ⟨⟨j + 1, by simp, by omega, HBb⟩, ?_⟩
          simp only [intOf]
          omega
    · obtain rfl : j = NX := by omega
      have hlx := HLX.out wr
      have HBw := hid_mk (later HB9.out HBr.out)
      clear HCX HGX HGY HAP HXP
      go_wp2_with (go_at_call 8; fail)
      refine hlx.mono ?_
      rintro e wa ⟨⟨za, zc, rfl, _⟩, hba⟩
      have HBa := hid_mk (later HBw.out hba)
      have hpx := HPX.out wa
      clear hlx hba
      go_wp2_with (go_at_call 7; fail)
      refine hpx.mono ?_
      rintro e wb ⟨rfl, hbb⟩
      have HBb := hid_mk (later HBa.out hbb)
      have hv := lives_any wb
      clear hpx hbb
      go_wp2_with (go_at_call 9; fail)
      refine hv.mono ?_
      rintro e wc ⟨rfl, hbc⟩
      have hend := later HBb.out hbc
      clear hv hbc
      go_wp2
      go_ret
      exact ⟨rfl, hend⟩
end Go.Proofs.Ytaoodkpbhehdgaa
