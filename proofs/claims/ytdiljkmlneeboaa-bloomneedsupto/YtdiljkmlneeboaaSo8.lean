/- slices.Sort of keys: those that are equal to the pivot, ahead: the walk. -/
import Derived.Test.YtdiljkmlneeboaaSo7
namespace Go.Proofs.Ytdiljkmlneeboaa
open Go.RowKit Go.Sort
set_option maxRecDepth 100000

set_option maxHeartbeats 4000000 in
theorem partEq_any {w : World} {g cap a b pv : Nat} {d : Array Int} (hd : SW w g d w) (hab : a < b) (hb : b ≤ d.size) (hp : pv < d.size) (hsz : d.size ≤ 1000000) :
    Calls Try.prog 40 #[.slice (some ⟨g, 0, none⟩) d.size cap, .int .i64 (a : Int), .int .i64 (b : Int), .int .i64 (pv : Int)] w fun e w' => e = .returned (.int .i64 ((Sort.partitionEqual ltInt d a b pv).1 : Int)) ∧ SW w g (Sort.partitionEqual ltInt d a b pv).2 w' := by
  obtain ⟨b', hb'⟩ : ∃ b', b' = b - 1 := ⟨_, rfl⟩
  have hw1 : IntKind.i64.wrap ((b : Int) - 1) = (b' : Int) := by rw [IntKind.wrap_i64]; omega
  obtain ⟨R, hR⟩ : ∃ R, R = partEqLoop ltInt a (a + 1) b' (swp d a pv) := ⟨_, rfl⟩
  have HG : Hid (Sort.partitionEqual ltInt d a b pv = R) := by rw [Hid, hR, hb']; rfl
  rw [HG.out]
  have HE0 : Hid (partEqLoop ltInt a (a + 1) b' (swp d a pv) = R) := hR.symm
  have b1 : a < d.size := by omega
  have b2 : b' < d.size := by omega
  have b3 : a ≤ b' := by omega
  have q1 := hd.cell (j := a) b1
  have q2 := hd.cell (j := pv) hp
  have q3 : (w.setCell ⟨g, a, none⟩ (.int .u32 d[pv]!)).cell? ⟨g, pv, none⟩ = some (.int .u32 d[pv]!) := by
    have hc := (hd.set (i := a) b1 d[pv]!).cell (j := pv) (by simpa using hp)
    by_cases e : pv = a
    · rw [e] at hc ⊢
      rwa [getElem!_set_same d a _ b1] at hc
    · rwa [getElem!_set_other d a pv _ e] at hc
  have hf1 := hd.free (j := a) b1
  have hf2 := hd.free (j := pv) hp
  have HSW0 : Hid (SW w g (swp d a pv) ((w.setCell ⟨g, a, none⟩ (.int .u32 d[pv]!)).setCell ⟨g, pv, none⟩ (.int .u32 d[a]!))) := (hd.set b1 _).set (by simpa using hp) _
  have HS0 : Hid ((swp d a pv).size = d.size) := size_swp _ _ _
  clear hd HG hb' hR
  generalize swp d a pv = d0 at *
  generalize d[a]! = x at *
  generalize d[pv]! = y at *
  go_enter Try.func40, Try.ntmps40
  go_upto_region 1 with (fail)
  go_region
  all_goals go_wp2
  have HD0 : Hid (SW w g d0 _) := HSW0.out.drewN 1
  clear HSW0 q1 q2 q3 hf1 hf2
  go_loopw [9, 10] (fun a9 a10 wq => ∃ (i j : Nat) (dk : Array Int), a + 1 ≤ i ∧ i ≤ j + 2 ∧ j < d.size ∧ a9 = .int .i64 (i : Int) ∧ a10 = .int .i64 (j : Int) ∧ dk.size = d.size ∧ Hid (partEqLoop ltInt a i j dk = R) ∧ Hid (SW w g dk wq)) (fun a9 _ _ => d.size + 2 - (intOf a9).toNat)
  case atStart => exact ⟨a + 1, b', d0, Nat.le_refl _, by omega, b2, by go_num, rfl, HS0.out, HE0, HD0⟩
  case round =>
    obtain ⟨i, j, dk, hai, hij, hjl, rfl, rfl, hdk, HE, HW⟩ := hrel
    clear HD0 HE0 HS0
    obtain ⟨i2, hi2⟩ : ∃ i2, i2 = scanUp (fun x => !ltInt dk[a]! x) dk j i := ⟨_, rfl⟩
    have HU : Hid (scanUp (fun x => !ltInt dk[a]! x) dk j i = i2) := hi2.symm
    have HUK := HU
    clear hi2
    go_wp2
    go_loopw [9] (fun a9 wq => ∃ (k : Nat), i ≤ k ∧ k ≤ j + 2 ∧ a9 = .int .i64 (k : Int) ∧ Hid (scanUp (fun x => !ltInt dk[a]! x) dk j k = i2) ∧ Hid (SW w g dk wq)) (fun a9 _ => d.size + 2 - (intOf a9).toNat)
    case atStart => exact ⟨i, Nat.le_refl _, hij, rfl, HU, HW⟩
    case round =>
      obtain ⟨k, hik, hkj, rfl, HK, HV⟩ := hrel
      clear HU HW
      go_upto_region 4 with (fail)
      go_cut [43] (fun s43 wx => s43 = .bool (decide (k ≤ j ∧ dk[k]! ≤ dk[a]!)) ∧ Hid (SW w g dk wx))
      case first =>
        clear HE HK
        have q1 := HV.out.cell (j := a) (by omega)
        by_cases hkj2 : k ≤ j
        · have q2 := HV.out.cell (j := k) (by omega)
          have b4 : k < d.size := by omega
          have HLS : Hid (∀ W, Calls Try.prog 39 #[.int .u32 dk[a]!, .int .u32 dk[k]!] W fun e w' => e = .returned (.bool (decide (dk[a]! < dk[k]!))) ∧ w' = W) := fun W => less_any _ _ W
          have hd2 : decide ((k : Int) ≤ (j : Int)) = true := decide_eq_true (by omega)
          have HZ : Hid (decide (k ≤ j ∧ dk[k]! ≤ dk[a]!) = !decide (dk[a]! < dk[k]!)) := by
            rw [Hid]
            by_cases h : dk[a]! < dk[k]!
            · rw [decide_eq_true h, decide_eq_false (fun hh => by have := hh.2; omega)]; rfl
            · rw [decide_eq_false h, decide_eq_true ⟨hkj2, by omega⟩]; rfl
          have gd : wr.drew.cell? ⟨g, a, none⟩ = some (.int .u32 dk[a]!) ∧ wr.drew.cell? ⟨g, k, none⟩ = some (.int .u32 dk[k]!) := ⟨q1, q2⟩
          generalize dk[a]! = x at *
          generalize dk[k]! = y at *
          go_region_held3 (fun w' => w'.cell? ⟨g, a, none⟩ = some (.int .u32 x) ∧ w'.cell? ⟨g, k, none⟩ = some (.int .u32 y))
            (first | with_reducible exact gd)
            (first | (go_at_call 39; with_reducible refine (HLS.out _).mono ?_; rintro e wa ⟨rfl, rfl⟩))
          go_wp2_with fail
          go_meet
          exact ⟨by rw [HZ.out], HV.out.drewN 1⟩
        · have hd2 : decide ((k : Int) ≤ (j : Int)) = false := decide_eq_false (by omega)
          have HZ : Hid (decide (k ≤ j ∧ dk[k]! ≤ dk[a]!) = false) := decide_eq_false fun h => hkj2 h.1
          go_quiet (fail)
          go_wp2_with fail
          go_meet
          exact ⟨by rw [HZ.out], HV.out.drewN _⟩
      case rest =>
      obtain ⟨rfl, HV2⟩ := hcut
      clear HV
      by_cases hst : k ≤ j ∧ dk[k]! ≤ dk[a]!
      · have hd3 : decide (k ≤ j ∧ dk[k]! ≤ dk[a]!) = true := decide_eq_true hst
        have HK2 : Hid (scanUp (fun x => !ltInt dk[a]! x) dk j (k + 1) = i2) := by
          rw [Hid, ← HK.out]
          symm
          exact scanUp_go hst.1 (by simp only [ltInt]; rw [decide_eq_false (by have := hst.2; omega)]; rfl)
        have hkj3 : k + 1 ≤ j + 2 := by omega
        rw [hd3]
        clear hst hd3 HK HE
        go_wp2
        exact ⟨⟨k + 1, by omega, hkj3, by go_num, HK2, HV2⟩, by simp only [intOf]; omega⟩
      · have hd3 : decide (k ≤ j ∧ dk[k]! ≤ dk[a]!) = false := decide_eq_false hst
        have HK2 : Hid (k = i2) := by
          rw [Hid, ← HK.out]
          symm
          refine scanUp_stop fun h => hst ⟨h.1, ?_⟩
          have := h.2
          simp only [ltInt, Bool.not_eq_true', decide_eq_false_iff_not] at this
          omega
        rw [hd3]
        clear hst hd3 HK
        have hki : k ≤ j + 2 := hkj
        go_wp2
        obtain ⟨j2, hj2⟩ : ∃ j2, j2 = scanDown (fun x => ltInt dk[a]! x) dk k j := ⟨_, rfl⟩
        have HDN : Hid (scanDown (fun x => ltInt dk[a]! x) dk k j = j2) := hj2.symm
        have HDK := HDN
        clear hj2
        go_loopw [10] (fun a10 wq => ∃ (m : Nat), m ≤ j ∧ k ≤ m + 2 ∧ a10 = .int .i64 (m : Int) ∧ Hid (scanDown (fun x => ltInt dk[a]! x) dk k m = j2) ∧ Hid (SW w g dk wq)) (fun a10 _ => (intOf a10).toNat + 1)
        case atStart => exact ⟨j, Nat.le_refl _, hki, rfl, HDN, HV2⟩
        case round =>
          obtain ⟨m, hmj, hkm, rfl, HM, HX⟩ := hrel
          clear HDN HV2
          go_upto_region 6 with (fail)
          go_cut [59] (fun s59 wx => s59 = .bool (decide (k ≤ m ∧ dk[a]! < dk[m]!)) ∧ Hid (SW w g dk wx))
          case first =>
            clear HE HM
            have q1 := HX.out.cell (j := a) (by omega)
            have q2 := HX.out.cell (j := m) (by omega)
            have b4 : m < d.size := by omega
            by_cases hkm2 : k ≤ m
            · have HLS : Hid (∀ W, Calls Try.prog 39 #[.int .u32 dk[a]!, .int .u32 dk[m]!] W fun e w' => e = .returned (.bool (decide (dk[a]! < dk[m]!))) ∧ w' = W) := fun W => less_any _ _ W
              have hd2 : decide ((k : Int) ≤ (m : Int)) = true := decide_eq_true (by omega)
              have HZ : Hid (decide (k ≤ m ∧ dk[a]! < dk[m]!) = decide (dk[a]! < dk[m]!)) := by
                rw [Hid]
                by_cases h : dk[a]! < dk[m]!
                · rw [decide_eq_true h, decide_eq_true ⟨hkm2, h⟩]
                · rw [decide_eq_false h, decide_eq_false fun hh => h hh.2]
              have gd : wr.drew.cell? ⟨g, a, none⟩ = some (.int .u32 dk[a]!) ∧ wr.drew.cell? ⟨g, m, none⟩ = some (.int .u32 dk[m]!) := ⟨q1, q2⟩
              generalize dk[a]! = x at *
              generalize dk[m]! = y at *
              go_region_held3 (fun w' => w'.cell? ⟨g, a, none⟩ = some (.int .u32 x) ∧ w'.cell? ⟨g, m, none⟩ = some (.int .u32 y))
                (first | with_reducible exact gd)
                (first | (go_at_call 39; with_reducible refine (HLS.out _).mono ?_; rintro e wa ⟨rfl, rfl⟩))
              go_wp2_with fail
              go_meet
              exact ⟨by rw [HZ.out], HX.out.drewN 1⟩
            · have hd2 : decide ((k : Int) ≤ (m : Int)) = false := decide_eq_false (by omega)
              have HZ : Hid (decide (k ≤ m ∧ dk[a]! < dk[m]!) = false) := decide_eq_false fun h => hkm2 h.1
              go_quiet (fail)
              go_wp2_with fail
              go_meet
              exact ⟨by rw [HZ.out], HX.out.drewN _⟩
          case rest =>
          obtain ⟨rfl, HX2⟩ := hcut
          clear HX
          by_cases hst : k ≤ m ∧ dk[a]! < dk[m]!
          · have hd3 : decide (k ≤ m ∧ dk[a]! < dk[m]!) = true := decide_eq_true hst
            obtain ⟨m', hm'⟩ : ∃ m', m = m' + 1 := ⟨m - 1, by omega⟩
            have hw4 : IntKind.i64.wrap ((m : Int) - 1) = (m' : Int) := by rw [IntKind.wrap_i64]; omega
            have HM2 : Hid (scanDown (fun x => ltInt dk[a]! x) dk k m' = j2) := by
              rw [Hid, ← HM.out, hm']
              symm
              refine scanDown_go (by omega) ?_
              rw [← hm']
              exact decide_eq_true hst.2
            have HB : Hid (m' ≤ j ∧ k ≤ m' + 2 ∧ m' < m) := by rw [Hid]; omega
            rw [hd3]
            clear hst hd3 HM HE HDK HUK hm'
            go_wp2
            exact ⟨⟨m', HB.out.1, HB.out.2.1, rfl, HM2, HX2⟩, by have := HB.out; simp only [intOf]; omega⟩
          · have hd3 : decide (k ≤ m ∧ dk[a]! < dk[m]!) = false := decide_eq_false hst
            have HM2 : Hid (m = j2) := by
              rw [Hid, ← HM.out]
              symm
              exact scanDown_stop fun h => hst ⟨h.1, of_decide_eq_true h.2⟩
            have HR : Hid (R = if k > m then (k, dk) else if _h : (m - 1) + 1 - (k + 1) < j + 1 - i then partEqLoop ltInt a (k + 1) (m - 1) (swp dk k m) else (k, dk)) := by
              rw [Hid, ← HE.out, partEqLoop, HUK.out, ← HK2.out]
              rw [HDK.out, ← HM2.out]
            rw [hd3]
            clear hst hd3 HM HE HDK HUK HM2 HK2
            by_cases hkm3 : m < k
            · have hd4 : decide ((m : Int) < (k : Int)) = true := decide_eq_true (by omega)
              have HZ : Hid (R = (k, dk)) := by rw [Hid, HR.out, if_pos hkm3]
              clear HR
              go_wp2
              go_ret
              exact ⟨by rw [HZ.out]; rfl, by rw [HZ.out]; exact HX2.out⟩
            · have hd4 : decide ((m : Int) < (k : Int)) = false := decide_eq_false (by omega)
              have HZ : Hid (partEqLoop ltInt a (k + 1) (m - 1) (swp dk k m) = R) := by rw [Hid, HR.out, if_neg hkm3, dif_pos (by omega)]
              obtain ⟨m', hm'⟩ : ∃ m', m' = m - 1 := ⟨_, rfl⟩
              rw [← hm'] at HZ
              have hw4 : IntKind.i64.wrap ((m : Int) - 1) = (m' : Int) := by rw [IntKind.wrap_i64]; omega
              have HB : Hid (a + 1 ≤ k + 1 ∧ k + 1 ≤ m' + 2 ∧ m' < d.size ∧ i < k + 1) := by rw [Hid]; omega
              have b4 : k < d.size := by omega
              have b5 : m < d.size := by omega
              have q1 := HX2.out.cell (j := k) (by omega)
              have q2 := HX2.out.cell (j := m) (by omega)
              have q3 : ∀ W, SW w g dk W → (W.setCell ⟨g, k, none⟩ (.int .u32 dk[m]!)).cell? ⟨g, m, none⟩ = some (.int .u32 dk[m]!) := fun W h => by
                have hc := (h.set (i := k) (by omega) dk[m]!).cell (j := m) (by simp; omega)
                by_cases e : m = k
                · rw [e] at hc ⊢
                  rwa [getElem!_set_same dk k _ (by omega)] at hc
                · rwa [getElem!_set_other dk k m _ e] at hc
              have q3 := q3 _ HX2.out
              have hf1 := HX2.out.free (j := k) (by omega)
              have hf2 := HX2.out.free (j := m) (by omega)
              have HSW : Hid (∀ W, SW w g dk W → SW w g (swp dk k m) ((W.setCell ⟨g, k, none⟩ (.int .u32 dk[m]!)).setCell ⟨g, m, none⟩ (.int .u32 dk[k]!))) := fun W h => (h.set (by omega) _).set (by simp; omega) _
              have HSZ : Hid ((swp dk k m).size = d.size) := by rw [Hid, size_swp, hdk]
              clear HR hm'
              generalize swp dk k m = Y at *
              generalize dk[k]! = x at *
              generalize dk[m]! = y at *
              go_upto_region 9 with (fail)
              go_region
              all_goals go_wp2
              exact ⟨⟨k + 1, m', Y, HB.out.1, HB.out.2.1, HB.out.2.2.1, by go_num, rfl, HSZ.out, HZ, ((HSW.out _ HX2.out).drewN 1 : SW _ _ _ _)⟩, by have := HB.out; simp only [intOf]; omega⟩
end Go.Proofs.Ytdiljkmlneeboaa
