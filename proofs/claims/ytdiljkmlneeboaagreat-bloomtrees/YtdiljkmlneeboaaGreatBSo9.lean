/- slices.Sort of keys: the partition: the walk. -/
import Derived.Test.YtdiljkmlneeboaaGreatBSo7
namespace Go.Proofs.YtdiljkmlneeboaaGreat.B
open Go.RowKit Go.Sort
set_option maxRecDepth 100000

set_option maxHeartbeats 8000000 in
theorem part_any {w : World} {g cap a b pv : Nat} {d : Array Int} (hd : SW w g d w) (hab : a < b) (hb : b ≤ d.size) (hp : pv < d.size) (hsz : d.size ≤ 1000000) :
    Calls Tryz.prog 136 #[.slice (some ⟨g, 0, none⟩) d.size cap, .int .i64 (a : Int), .int .i64 (b : Int), .int .i64 (pv : Int)] w fun e w' => e = .returned (.tuple #[.int .i64 ((Sort.partition ltInt d a b pv).1 : Int), .bool (Sort.partition ltInt d a b pv).2.1]) ∧ SW w g (Sort.partition ltInt d a b pv).2.2 w' := by
  obtain ⟨b', hb'⟩ : ∃ b', b' = b - 1 := ⟨_, rfl⟩
  have hw1 : IntKind.i64.wrap ((b : Int) - 1) = (b' : Int) := by rw [IntKind.wrap_i64]; omega
  have HG : Hid (∀ i2 j2, scanUp (fun x => ltInt x (swp d a pv)[a]!) (swp d a pv) b' (a + 1) = i2 → scanDown (fun x => !ltInt x (swp d a pv)[a]!) (swp d a pv) i2 b' = j2 → Sort.partition ltInt d a b pv = if i2 > j2 then (j2, true, swp (swp d a pv) j2 a) else ((partLoop ltInt a (i2 + 1) (j2 - 1) (swp (swp d a pv) i2 j2)).1, false, swp (partLoop ltInt a (i2 + 1) (j2 - 1) (swp (swp d a pv) i2 j2)).2 (partLoop ltInt a (i2 + 1) (j2 - 1) (swp (swp d a pv) i2 j2)).1 a)) := by
    rintro _ _ rfl rfl
    rw [hb']
    rfl
  generalize Sort.partition ltInt d a b pv = R at *
  have b1 : a < d.size := by omega
  have b2 : b' < d.size := by omega
  have b3 : a ≤ b' := by omega
  have q1 := hd.cell (j := a) b1
  have q2 := hd.cell (j := pv) hp
  have q3 : (w.setCell ⟨g, a, none⟩ (.int .u32 d[pv]!)).cell? ⟨g, pv, none⟩ = some (.int .u32 d[pv]!) := by
    have hc := (hd.set (i := a) b1 d[pv]!).cell (j := pv) (by simpa using hp)
    by_cases e : pv = a
    · rw [e] at hc ⊢
      rwa [getElem!_set_same d a _ b1] at hc
    · rwa [getElem!_set_other d a pv _ e] at hc
  have hf1 := hd.free (j := a) b1
  have hf2 := hd.free (j := pv) hp
  have HSW0 : Hid (SW w g (swp d a pv) ((w.setCell ⟨g, a, none⟩ (.int .u32 d[pv]!)).setCell ⟨g, pv, none⟩ (.int .u32 d[a]!))) := (hd.set b1 _).set (by simpa using hp) _
  have HS0 : Hid ((swp d a pv).size = d.size) := size_swp _ _ _
  clear hd hb'
  generalize swp d a pv = d0 at *
  generalize d[a]! = x at *
  generalize d[pv]! = y at *
  go_enter Tryz.func136, Tryz.ntmps136
  go_upto_region 1 with (fail)
  go_region
  all_goals go_wp2
  have HD0 : Hid (SW w g d0 _) := HSW0.out.drewN 1
  have hs0 := HS0.out
  clear HSW0 q1 q2 q3 hf1 hf2 HS0
  obtain ⟨i2, hi2⟩ : ∃ i2, i2 = scanUp (fun x => ltInt x d0[a]!) d0 b' (a + 1) := ⟨_, rfl⟩
  have HUi2 : Hid (scanUp (fun x => ltInt x d0[a]!) d0 b' (a + 1) = i2) := hi2.symm
  clear hi2
  go_loopw [10] (fun a10 wq => ∃ (k : Nat), (a + 1) ≤ k ∧ k ≤ b' + 2 ∧ a10 = .int .i64 (k : Int) ∧ Hid (scanUp (fun x => ltInt x d0[a]!) d0 b' k = i2) ∧ Hid (SW w g d0 wq)) (fun a10 _ => d.size + 2 - (intOf a10).toNat)
  case atStart => exact ⟨(a + 1), Nat.le_refl _, by omega, by first | rfl | go_num, HUi2, HD0⟩
  case round =>
    obtain ⟨k, hik, hkj, rfl, HK, HV⟩ := hrel
    clear HD0
    go_upto_region 3 with (fail)
    go_cut [43] (fun s43 wx => s43 = .bool (decide (k ≤ b' ∧ d0[k]! < d0[a]!)) ∧ Hid (SW w g d0 wx))
    case first =>
      clear HK
      have q1 := HV.out.cell (j := a) (by omega)
      by_cases hkj2 : k ≤ b'
      · have q2 := HV.out.cell (j := k) (by omega)
        have b4 : k < d.size := by omega
        have HLS : Hid (∀ W, Calls Tryz.prog 134 #[.int .u32 d0[k]!, .int .u32 d0[a]!] W fun e w' => e = .returned (.bool (decide (d0[k]! < d0[a]!))) ∧ w' = W) := fun W => less_any _ _ W
        have hd2 : decide ((k : Int) ≤ (b' : Int)) = true := decide_eq_true (by omega)
        have HZ : Hid (decide (k ≤ b' ∧ d0[k]! < d0[a]!) = decide (d0[k]! < d0[a]!)) := by
          rw [Hid]
          by_cases h : d0[k]! < d0[a]!
          · rw [decide_eq_true h, decide_eq_true ⟨hkj2, h⟩]
          · rw [decide_eq_false h, decide_eq_false fun hh => h hh.2]
        have gd : wr.drew.cell? ⟨g, k, none⟩ = some (.int .u32 d0[k]!) ∧ wr.drew.cell? ⟨g, a, none⟩ = some (.int .u32 d0[a]!) := ⟨q2, q1⟩
        generalize d0[a]! = x at *
        generalize d0[k]! = y at *
        go_region_held3 (fun w' => w'.cell? ⟨g, k, none⟩ = some (.int .u32 y) ∧ w'.cell? ⟨g, a, none⟩ = some (.int .u32 x))
          (first | with_reducible exact gd)
          (first | (go_at_call 134; with_reducible refine (HLS.out _).mono ?_; rintro e wa ⟨rfl, rfl⟩))
        go_wp2_with fail
        go_meet
        exact ⟨by rw [HZ.out], HV.out.drewN 1⟩
      · have hd2 : decide ((k : Int) ≤ (b' : Int)) = false := decide_eq_false (by omega)
        have HZ : Hid (decide (k ≤ b' ∧ d0[k]! < d0[a]!) = false) := decide_eq_false fun h => hkj2 h.1
        go_quiet (fail)
        go_wp2_with fail
        go_meet
        exact ⟨by rw [HZ.out], HV.out.drewN _⟩
    case rest =>
    obtain ⟨rfl, HV2⟩ := hcut
    clear HV
    by_cases hst : k ≤ b' ∧ d0[k]! < d0[a]!
    · have hd3 : decide (k ≤ b' ∧ d0[k]! < d0[a]!) = true := decide_eq_true hst
      have HK2 : Hid (scanUp (fun x => ltInt x d0[a]!) d0 b' (k + 1) = i2) := by
        rw [Hid, ← HK.out]
        symm
        exact scanUp_go hst.1 (decide_eq_true hst.2)
      have hkj3 : k + 1 ≤ b' + 2 := by omega
      rw [hd3]
      clear hst hd3 HK
      go_wp2
      exact ⟨⟨k + 1, by omega, hkj3, by go_num, HK2, HV2⟩, by simp only [intOf]; omega⟩
    · have hd3 : decide (k ≤ b' ∧ d0[k]! < d0[a]!) = false := decide_eq_false hst
      have HK2i2 : Hid (k = i2) := by
        rw [Hid, ← HK.out]
        symm
        exact scanUp_stop fun h => hst ⟨h.1, of_decide_eq_true h.2⟩
      rw [hd3]
      clear hst hd3 HK
      have hkik : k ≤ b' + 2 := hkj
      have hikk : (a + 1) ≤ k := hik
      go_wp2
      obtain ⟨j2, hj2⟩ : ∃ j2, j2 = scanDown (fun x => !ltInt x d0[a]!) d0 k b' := ⟨_, rfl⟩
      have HDj2 : Hid (scanDown (fun x => !ltInt x d0[a]!) d0 k b' = j2) := hj2.symm
      clear hj2
      go_loopw [11] (fun a11 wq => ∃ (m : Nat), m ≤ b' ∧ k ≤ m + 2 ∧ a11 = .int .i64 (m : Int) ∧ Hid (scanDown (fun x => !ltInt x d0[a]!) d0 k m = j2) ∧ Hid (SW w g d0 wq)) (fun a11 _ => (intOf a11).toNat + 1)
      case atStart => exact ⟨b', Nat.le_refl _, hkik, rfl, HDj2, HV2⟩
      case round =>
        obtain ⟨m, hmj, hkm, rfl, HM, HX⟩ := hrel
        clear HV2
        go_upto_region 5 with (fail)
        go_cut [60] (fun s60 wx => s60 = .bool (decide (k ≤ m ∧ d0[a]! ≤ d0[m]!)) ∧ Hid (SW w g d0 wx))
        case first =>
          clear HM
          have q1 := HX.out.cell (j := a) (by omega)
          have q2 := HX.out.cell (j := m) (by omega)
          have b4 : m < d.size := by omega
          by_cases hkm2 : k ≤ m
          · have HLS : Hid (∀ W, Calls Tryz.prog 134 #[.int .u32 d0[m]!, .int .u32 d0[a]!] W fun e w' => e = .returned (.bool (decide (d0[m]! < d0[a]!))) ∧ w' = W) := fun W => less_any _ _ W
            have hd2 : decide ((k : Int) ≤ (m : Int)) = true := decide_eq_true (by omega)
            have HZ : Hid (decide (k ≤ m ∧ d0[a]! ≤ d0[m]!) = !decide (d0[m]! < d0[a]!)) := by
              rw [Hid]
              by_cases h : d0[m]! < d0[a]!
              · rw [decide_eq_true h, decide_eq_false (fun hh => by have := hh.2; omega)]; rfl
              · rw [decide_eq_false h, decide_eq_true ⟨hkm2, by omega⟩]; rfl
            have gd : wr.drew.cell? ⟨g, m, none⟩ = some (.int .u32 d0[m]!) ∧ wr.drew.cell? ⟨g, a, none⟩ = some (.int .u32 d0[a]!) := ⟨q2, q1⟩
            generalize d0[a]! = x at *
            generalize d0[m]! = y at *
            go_region_held3 (fun w' => w'.cell? ⟨g, m, none⟩ = some (.int .u32 y) ∧ w'.cell? ⟨g, a, none⟩ = some (.int .u32 x))
              (first | with_reducible exact gd)
              (first | (go_at_call 134; with_reducible refine (HLS.out _).mono ?_; rintro e wa ⟨rfl, rfl⟩))
            go_wp2_with fail
            go_meet
            exact ⟨by rw [HZ.out], HX.out.drewN 1⟩
          · have hd2 : decide ((k : Int) ≤ (m : Int)) = false := decide_eq_false (by omega)
            have HZ : Hid (decide (k ≤ m ∧ d0[a]! ≤ d0[m]!) = false) := decide_eq_false fun h => hkm2 h.1
            go_quiet (fail)
            go_wp2_with fail
            go_meet
            exact ⟨by rw [HZ.out], HX.out.drewN _⟩
        case rest =>
        obtain ⟨rfl, HX2⟩ := hcut
        clear HX
        by_cases hst : k ≤ m ∧ d0[a]! ≤ d0[m]!
        · have hd3 : decide (k ≤ m ∧ d0[a]! ≤ d0[m]!) = true := decide_eq_true hst
          obtain ⟨m', hm'⟩ : ∃ m', m = m' + 1 := ⟨m - 1, by omega⟩
          have hw4 : IntKind.i64.wrap ((m : Int) - 1) = (m' : Int) := by rw [IntKind.wrap_i64]; omega
          have HM2 : Hid (scanDown (fun x => !ltInt x d0[a]!) d0 k m' = j2) := by
            rw [Hid, ← HM.out, hm']
            symm
            refine scanDown_go (by omega) ?_
            rw [← hm']
            simp only [ltInt]
            rw [decide_eq_false (by have := hst.2; omega)]
            rfl
          have HB : Hid (m' ≤ b' ∧ k ≤ m' + 2 ∧ m' < m) := by rw [Hid]; omega
          rw [hd3]
          clear hst hd3 HM hm'
          go_wp2
          exact ⟨⟨m', HB.out.1, HB.out.2.1, rfl, HM2, HX2⟩, by have := HB.out; simp only [intOf]; omega⟩
        · have hd3 : decide (k ≤ m ∧ d0[a]! ≤ d0[m]!) = false := decide_eq_false hst
          have HM2j2 : Hid (m = j2) := by
            rw [Hid, ← HM.out]
            symm
            refine scanDown_stop fun h => hst ⟨h.1, ?_⟩
            have := h.2
            simp only [ltInt, Bool.not_eq_true', decide_eq_false_iff_not] at this
            omega
          rw [hd3]
          clear hst hd3 HM
          have HR : Hid (R = if k > m then (m, true, swp d0 m a) else ((partLoop ltInt a (k + 1) (m - 1) (swp d0 k m)).1, false, swp (partLoop ltInt a (k + 1) (m - 1) (swp d0 k m)).2 (partLoop ltInt a (k + 1) (m - 1) (swp d0 k m)).1 a)) := by
            have e1 := HUi2.out
            have e2 := HDj2.out
            rw [← HK2i2.out] at e1
            rw [← HM2j2.out] at e2
            exact HG.out _ _ e1 e2
          clear HUi2 HDj2 HK2i2 HM2j2 HG
          by_cases hkm3 : m < k
          · have hd4 : decide ((m : Int) < (k : Int)) = true := decide_eq_true (by omega)
            have HZ : Hid (R = (m, true, swp d0 m a)) := by rw [Hid, HR.out, if_pos hkm3]
            clear HR
            have b4 : m < d.size := by omega
            have b5 : a < d.size := by omega
            have q1 := HX2.out.cell (j := m) (by omega)
            have q2 := HX2.out.cell (j := a) (by omega)
            have q3 : ∀ W, SW w g d0 W → (W.setCell ⟨g, m, none⟩ (.int .u32 d0[a]!)).cell? ⟨g, a, none⟩ = some (.int .u32 d0[a]!) := fun W h => by
              have hc := (h.set (i := m) (by omega) d0[a]!).cell (j := a) (by simp; omega)
              by_cases e : a = m
              · rw [e] at hc ⊢
                rwa [getElem!_set_same d0 m _ (by omega)] at hc
              · rwa [getElem!_set_other d0 m a _ e] at hc
            have q3 := q3 _ HX2.out
            have hf1 := HX2.out.free (j := m) (by omega)
            have hf2 := HX2.out.free (j := a) (by omega)
            have HSW : Hid (∀ W, SW w g d0 W → SW w g (swp d0 m a) ((W.setCell ⟨g, m, none⟩ (.int .u32 d0[a]!)).setCell ⟨g, a, none⟩ (.int .u32 d0[m]!))) := fun W h => (h.set (by omega) _).set (by simp; omega) _
            have HSZ : Hid ((swp d0 m a).size = d.size) := by rw [Hid, size_swp]; omega
            generalize swp d0 m a = Y at *
            generalize d0[m]! = x at *
            generalize d0[a]! = y at *
            go_upto_region 8 with (fail)
            go_region
            all_goals go_wp2
            refine bodyPost_ret (v := .tuple #[.int .i64 (m : Int), .bool true]) (by simp [results, Tryz.results136, go_sem]) rfl ⟨by rw [HZ.out], ?_⟩
            rw [HZ.out]
            exact ((HSW.out _ HX2.out).drewN 1 : SW _ _ _ _)
          · have hd4 : decide ((m : Int) < (k : Int)) = false := decide_eq_false (by omega)
            obtain ⟨L, hL⟩ : ∃ L, L = partLoop ltInt a (k + 1) (m - 1) (swp d0 k m) := ⟨_, rfl⟩
            have HG2 : Hid (R = (L.1, false, swp L.2 L.1 a)) := by rw [Hid, HR.out, if_neg hkm3, hL]
            have HZ : Hid (partLoop ltInt a (k + 1) (m - 1) (swp d0 k m) = L) := hL.symm
            clear hL
            obtain ⟨m', hm'⟩ : ∃ m', m' = m - 1 := ⟨_, rfl⟩
            rw [← hm'] at HZ
            have hw4 : IntKind.i64.wrap ((m : Int) - 1) = (m' : Int) := by rw [IntKind.wrap_i64]; omega
            have HB : Hid (a + 1 ≤ k + 1 ∧ k + 1 ≤ m' + 2 ∧ m' < d.size) := by rw [Hid]; omega
            have b4 : k < d.size := by omega
            have b5 : m < d.size := by omega
            have q1 := HX2.out.cell (j := k) (by omega)
            have q2 := HX2.out.cell (j := m) (by omega)
            have q3 : ∀ W, SW w g d0 W → (W.setCell ⟨g, k, none⟩ (.int .u32 d0[m]!)).cell? ⟨g, m, none⟩ = some (.int .u32 d0[m]!) := fun W h => by
              have hc := (h.set (i := k) (by omega) d0[m]!).cell (j := m) (by simp; omega)
              by_cases e : m = k
              · rw [e] at hc ⊢
                rwa [getElem!_set_same d0 k _ (by omega)] at hc
              · rwa [getElem!_set_other d0 k m _ e] at hc
            have q3 := q3 _ HX2.out
            have hf1 := HX2.out.free (j := k) (by omega)
            have hf2 := HX2.out.free (j := m) (by omega)
            have HSW : Hid (∀ W, SW w g d0 W → SW w g (swp d0 k m) ((W.setCell ⟨g, k, none⟩ (.int .u32 d0[m]!)).setCell ⟨g, m, none⟩ (.int .u32 d0[k]!))) := fun W h => (h.set (by omega) _).set (by simp; omega) _
            have HSZ : Hid ((swp d0 k m).size = d.size) := by rw [Hid, size_swp]; omega
            clear HR hm'
            generalize swp d0 k m = Y at *
            generalize d0[k]! = x at *
            generalize d0[m]! = y at *
            go_upto_region 10 with (fail)
            go_region
            all_goals go_wp2
            have HY : Hid (SW w g Y _) := ((HSW.out _ HX2.out).drewN 1 : SW _ _ _ _)
            clear HSW q1 q2 q3 hf1 hf2 HX2 hd4
            go_loopw [10, 11] (fun a10 a11 wq => ∃ (i j : Nat) (dk : Array Int), a + 1 ≤ i ∧ i ≤ j + 2 ∧ j < d.size ∧ a10 = .int .i64 (i : Int) ∧ a11 = .int .i64 (j : Int) ∧ dk.size = d.size ∧ Hid (partLoop ltInt a i j dk = L) ∧ Hid (SW w g dk wq)) (fun a10 _ _ => d.size + 2 - (intOf a10).toNat)
            case atStart => exact ⟨k + 1, m', Y, HB.out.1, HB.out.2.1, HB.out.2.2, by go_num, rfl, HSZ.out, HZ, HY⟩
            case round =>
              obtain ⟨i, j, dk, hai, hij, hjl, rfl, rfl, hdk, HE, HW⟩ := hrel
              clear HY HZ HSZ HB hw4
              obtain ⟨i3, hi3⟩ : ∃ i3, i3 = scanUp (fun x => ltInt x dk[a]!) dk j i := ⟨_, rfl⟩
              have HUi3 : Hid (scanUp (fun x => ltInt x dk[a]!) dk j i = i3) := hi3.symm
              clear hi3
              go_wp2
              go_loopw [10] (fun a10 wq => ∃ (k2 : Nat), i ≤ k2 ∧ k2 ≤ j + 2 ∧ a10 = .int .i64 (k2 : Int) ∧ Hid (scanUp (fun x => ltInt x dk[a]!) dk j k2 = i3) ∧ Hid (SW w g dk wq)) (fun a10 _ => d.size + 2 - (intOf a10).toNat)
              case atStart => exact ⟨i, Nat.le_refl _, by omega, by first | rfl | go_num, HUi3, HW⟩
              case round =>
                obtain ⟨k2, hik, hkj, rfl, HK, HV⟩ := hrel
                clear HW
                go_upto_region 13 with (fail)
                go_cut [112] (fun s112 wx => s112 = .bool (decide (k2 ≤ j ∧ dk[k2]! < dk[a]!)) ∧ Hid (SW w g dk wx))
                case first =>
                  clear HK
                  have q1 := HV.out.cell (j := a) (by omega)
                  by_cases hkj2 : k2 ≤ j
                  · have q2 := HV.out.cell (j := k2) (by omega)
                    have b4 : k2 < d.size := by omega
                    have HLS : Hid (∀ W, Calls Tryz.prog 134 #[.int .u32 dk[k2]!, .int .u32 dk[a]!] W fun e w' => e = .returned (.bool (decide (dk[k2]! < dk[a]!))) ∧ w' = W) := fun W => less_any _ _ W
                    have hd2 : decide ((k2 : Int) ≤ (j : Int)) = true := decide_eq_true (by omega)
                    have HZ : Hid (decide (k2 ≤ j ∧ dk[k2]! < dk[a]!) = decide (dk[k2]! < dk[a]!)) := by
                      rw [Hid]
                      by_cases h : dk[k2]! < dk[a]!
                      · rw [decide_eq_true h, decide_eq_true ⟨hkj2, h⟩]
                      · rw [decide_eq_false h, decide_eq_false fun hh => h hh.2]
                    have gd : wr.drew.cell? ⟨g, k2, none⟩ = some (.int .u32 dk[k2]!) ∧ wr.drew.cell? ⟨g, a, none⟩ = some (.int .u32 dk[a]!) := ⟨q2, q1⟩
                    generalize dk[a]! = x at *
                    generalize dk[k2]! = y at *
                    go_region_held3 (fun w' => w'.cell? ⟨g, k2, none⟩ = some (.int .u32 y) ∧ w'.cell? ⟨g, a, none⟩ = some (.int .u32 x))
                      (first | with_reducible exact gd)
                      (first | (go_at_call 134; with_reducible refine (HLS.out _).mono ?_; rintro e wa ⟨rfl, rfl⟩))
                    go_wp2_with fail
                    go_meet
                    exact ⟨by rw [HZ.out], HV.out.drewN 1⟩
                  · have hd2 : decide ((k2 : Int) ≤ (j : Int)) = false := decide_eq_false (by omega)
                    have HZ : Hid (decide (k2 ≤ j ∧ dk[k2]! < dk[a]!) = false) := decide_eq_false fun h => hkj2 h.1
                    go_quiet (fail)
                    go_wp2_with fail
                    go_meet
                    exact ⟨by rw [HZ.out], HV.out.drewN _⟩
                case rest =>
                obtain ⟨rfl, HV2⟩ := hcut
                clear HV
                by_cases hst : k2 ≤ j ∧ dk[k2]! < dk[a]!
                · have hd3 : decide (k2 ≤ j ∧ dk[k2]! < dk[a]!) = true := decide_eq_true hst
                  have HK2 : Hid (scanUp (fun x => ltInt x dk[a]!) dk j (k2 + 1) = i3) := by
                    rw [Hid, ← HK.out]
                    symm
                    exact scanUp_go hst.1 (decide_eq_true hst.2)
                  have hkj3 : k2 + 1 ≤ j + 2 := by omega
                  rw [hd3]
                  clear hst hd3 HK
                  go_wp2
                  exact ⟨⟨k2 + 1, by omega, hkj3, by go_num, HK2, HV2⟩, by simp only [intOf]; omega⟩
                · have hd3 : decide (k2 ≤ j ∧ dk[k2]! < dk[a]!) = false := decide_eq_false hst
                  have HK2i3 : Hid (k2 = i3) := by
                    rw [Hid, ← HK.out]
                    symm
                    exact scanUp_stop fun h => hst ⟨h.1, of_decide_eq_true h.2⟩
                  rw [hd3]
                  clear hst hd3 HK
                  have hkik2 : k2 ≤ j + 2 := hkj
                  have hikk2 : i ≤ k2 := hik
                  go_wp2
                  obtain ⟨j3, hj3⟩ : ∃ j3, j3 = scanDown (fun x => !ltInt x dk[a]!) dk k2 j := ⟨_, rfl⟩
                  have HDj3 : Hid (scanDown (fun x => !ltInt x dk[a]!) dk k2 j = j3) := hj3.symm
                  clear hj3
                  go_loopw [11] (fun a11 wq => ∃ (m2 : Nat), m2 ≤ j ∧ k2 ≤ m2 + 2 ∧ a11 = .int .i64 (m2 : Int) ∧ Hid (scanDown (fun x => !ltInt x dk[a]!) dk k2 m2 = j3) ∧ Hid (SW w g dk wq)) (fun a11 _ => (intOf a11).toNat + 1)
                  case atStart => exact ⟨j, Nat.le_refl _, hkik2, rfl, HDj3, HV2⟩
                  case round =>
                    obtain ⟨m2, hmj, hkm, rfl, HM, HX⟩ := hrel
                    clear HV2
                    go_upto_region 15 with (fail)
                    go_cut [129] (fun s129 wx => s129 = .bool (decide (k2 ≤ m2 ∧ dk[a]! ≤ dk[m2]!)) ∧ Hid (SW w g dk wx))
                    case first =>
                      clear HM
                      have q1 := HX.out.cell (j := a) (by omega)
                      have q2 := HX.out.cell (j := m2) (by omega)
                      have b4 : m2 < d.size := by omega
                      by_cases hkm2 : k2 ≤ m2
                      · have HLS : Hid (∀ W, Calls Tryz.prog 134 #[.int .u32 dk[m2]!, .int .u32 dk[a]!] W fun e w' => e = .returned (.bool (decide (dk[m2]! < dk[a]!))) ∧ w' = W) := fun W => less_any _ _ W
                        have hd2 : decide ((k2 : Int) ≤ (m2 : Int)) = true := decide_eq_true (by omega)
                        have HZ : Hid (decide (k2 ≤ m2 ∧ dk[a]! ≤ dk[m2]!) = !decide (dk[m2]! < dk[a]!)) := by
                          rw [Hid]
                          by_cases h : dk[m2]! < dk[a]!
                          · rw [decide_eq_true h, decide_eq_false (fun hh => by have := hh.2; omega)]; rfl
                          · rw [decide_eq_false h, decide_eq_true ⟨hkm2, by omega⟩]; rfl
                        have gd : wr.drew.cell? ⟨g, m2, none⟩ = some (.int .u32 dk[m2]!) ∧ wr.drew.cell? ⟨g, a, none⟩ = some (.int .u32 dk[a]!) := ⟨q2, q1⟩
                        generalize dk[a]! = x at *
                        generalize dk[m2]! = y at *
                        go_region_held3 (fun w' => w'.cell? ⟨g, m2, none⟩ = some (.int .u32 y) ∧ w'.cell? ⟨g, a, none⟩ = some (.int .u32 x))
                          (first | with_reducible exact gd)
                          (first | (go_at_call 134; with_reducible refine (HLS.out _).mono ?_; rintro e wa ⟨rfl, rfl⟩))
                        go_wp2_with fail
                        go_meet
                        exact ⟨by rw [HZ.out], HX.out.drewN 1⟩
                      · have hd2 : decide ((k2 : Int) ≤ (m2 : Int)) = false := decide_eq_false (by omega)
                        have HZ : Hid (decide (k2 ≤ m2 ∧ dk[a]! ≤ dk[m2]!) = false) := decide_eq_false fun h => hkm2 h.1
                        go_quiet (fail)
                        go_wp2_with fail
                        go_meet
                        exact ⟨by rw [HZ.out], HX.out.drewN _⟩
                    case rest =>
                    obtain ⟨rfl, HX2⟩ := hcut
                    clear HX
                    by_cases hst : k2 ≤ m2 ∧ dk[a]! ≤ dk[m2]!
                    · have hd3 : decide (k2 ≤ m2 ∧ dk[a]! ≤ dk[m2]!) = true := decide_eq_true hst
                      obtain ⟨m', hm'⟩ : ∃ m', m2 = m' + 1 := ⟨m2 - 1, by omega⟩
                      have hw4 : IntKind.i64.wrap ((m2 : Int) - 1) = (m' : Int) := by rw [IntKind.wrap_i64]; omega
                      have HM2 : Hid (scanDown (fun x => !ltInt x dk[a]!) dk k2 m' = j3) := by
                        rw [Hid, ← HM.out, hm']
                        symm
                        refine scanDown_go (by omega) ?_
                        rw [← hm']
                        simp only [ltInt]
                        rw [decide_eq_false (by have := hst.2; omega)]
                        rfl
                      have HB : Hid (m' ≤ j ∧ k2 ≤ m' + 2 ∧ m' < m2) := by rw [Hid]; omega
                      rw [hd3]
                      clear hst hd3 HM hm'
                      go_wp2
                      exact ⟨⟨m', HB.out.1, HB.out.2.1, rfl, HM2, HX2⟩, by have := HB.out; simp only [intOf]; omega⟩
                    · have hd3 : decide (k2 ≤ m2 ∧ dk[a]! ≤ dk[m2]!) = false := decide_eq_false hst
                      have HM2j3 : Hid (m2 = j3) := by
                        rw [Hid, ← HM.out]
                        symm
                        refine scanDown_stop fun h => hst ⟨h.1, ?_⟩
                        have := h.2
                        simp only [ltInt, Bool.not_eq_true', decide_eq_false_iff_not] at this
                        omega
                      rw [hd3]
                      clear hst hd3 HM
                      have HR : Hid (L = if k2 > m2 then (m2, dk) else if _h : (m2 - 1) + 1 - (k2 + 1) < j + 1 - i then partLoop ltInt a (k2 + 1) (m2 - 1) (swp dk k2 m2) else (m2, dk)) := by
                        rw [Hid, ← HE.out, partLoop, HUi3.out, ← HK2i3.out]
                        rw [HDj3.out, ← HM2j3.out]
                      clear HUi3 HDj3 HK2i3 HM2j3 HE
                      by_cases hkm3 : m2 < k2
                      · have hd4 : decide ((m2 : Int) < (k2 : Int)) = true := decide_eq_true (by omega)
                        have HZ : Hid (L = (m2, dk)) := by rw [Hid, HR.out, if_pos hkm3]
                        clear HR
                        have b4 : m2 < d.size := by omega
                        have b5 : a < d.size := by omega
                        have q1 := HX2.out.cell (j := m2) (by omega)
                        have q2 := HX2.out.cell (j := a) (by omega)
                        have q3 : ∀ W, SW w g dk W → (W.setCell ⟨g, m2, none⟩ (.int .u32 dk[a]!)).cell? ⟨g, a, none⟩ = some (.int .u32 dk[a]!) := fun W h => by
                          have hc := (h.set (i := m2) (by omega) dk[a]!).cell (j := a) (by simp; omega)
                          by_cases e : a = m2
                          · rw [e] at hc ⊢
                            rwa [getElem!_set_same dk m2 _ (by omega)] at hc
                          · rwa [getElem!_set_other dk m2 a _ e] at hc
                        have q3 := q3 _ HX2.out
                        have hf1 := HX2.out.free (j := m2) (by omega)
                        have hf2 := HX2.out.free (j := a) (by omega)
                        have HSW : Hid (∀ W, SW w g dk W → SW w g (swp dk m2 a) ((W.setCell ⟨g, m2, none⟩ (.int .u32 dk[a]!)).setCell ⟨g, a, none⟩ (.int .u32 dk[m2]!))) := fun W h => (h.set (by omega) _).set (by simp; omega) _
                        have HSZ : Hid ((swp dk m2 a).size = d.size) := by rw [Hid, size_swp]; omega
                        have HQ : Hid (R = (m2, false, swp dk m2 a)) := by rw [Hid, HG2.out, HZ.out]
                        clear HG2 HZ
                        generalize swp dk m2 a = Y at *
                        generalize dk[m2]! = x at *
                        generalize dk[a]! = y at *
                        go_upto_region 21 with (fail)
                        go_region
                        all_goals go_wp2
                        refine bodyPost_ret (v := .tuple #[.int .i64 (m2 : Int), .bool false]) (by simp [results, Tryz.results136, go_sem]) rfl ⟨by rw [HQ.out], ?_⟩
                        rw [HQ.out]
                        exact ((HSW.out _ HX2.out).drewN 1 : SW _ _ _ _)
                      · have hd4 : decide ((m2 : Int) < (k2 : Int)) = false := decide_eq_false (by omega)
                        have HZ : Hid (partLoop ltInt a (k2 + 1) (m2 - 1) (swp dk k2 m2) = L) := by rw [Hid, HR.out, if_neg hkm3, dif_pos (by omega)]
                        obtain ⟨m', hm'⟩ : ∃ m', m' = m2 - 1 := ⟨_, rfl⟩
                        rw [← hm'] at HZ
                        have hw4 : IntKind.i64.wrap ((m2 : Int) - 1) = (m' : Int) := by rw [IntKind.wrap_i64]; omega
                        have HB : Hid (a + 1 ≤ k2 + 1 ∧ k2 + 1 ≤ m' + 2 ∧ m' < d.size ∧ i < k2 + 1) := by rw [Hid]; omega
                        have b4 : k2 < d.size := by omega
                        have b5 : m2 < d.size := by omega
                        have q1 := HX2.out.cell (j := k2) (by omega)
                        have q2 := HX2.out.cell (j := m2) (by omega)
                        have q3 : ∀ W, SW w g dk W → (W.setCell ⟨g, k2, none⟩ (.int .u32 dk[m2]!)).cell? ⟨g, m2, none⟩ = some (.int .u32 dk[m2]!) := fun W h => by
                          have hc := (h.set (i := k2) (by omega) dk[m2]!).cell (j := m2) (by simp; omega)
                          by_cases e : m2 = k2
                          · rw [e] at hc ⊢
                            rwa [getElem!_set_same dk k2 _ (by omega)] at hc
                          · rwa [getElem!_set_other dk k2 m2 _ e] at hc
                        have q3 := q3 _ HX2.out
                        have hf1 := HX2.out.free (j := k2) (by omega)
                        have hf2 := HX2.out.free (j := m2) (by omega)
                        have HSW : Hid (∀ W, SW w g dk W → SW w g (swp dk k2 m2) ((W.setCell ⟨g, k2, none⟩ (.int .u32 dk[m2]!)).setCell ⟨g, m2, none⟩ (.int .u32 dk[k2]!))) := fun W h => (h.set (by omega) _).set (by simp; omega) _
                        have HSZ : Hid ((swp dk k2 m2).size = d.size) := by rw [Hid, size_swp]; omega
                        clear HR hm' HG2
                        generalize swp dk k2 m2 = Y at *
                        generalize dk[k2]! = x at *
                        generalize dk[m2]! = y at *
                        go_upto_region 18 with (fail)
                        go_region
                        all_goals go_wp2
                        exact ⟨⟨k2 + 1, m', Y, HB.out.1, HB.out.2.1, HB.out.2.2.1, by go_num, rfl, HSZ.out, HZ, ((HSW.out _ HX2.out).drewN 1 : SW _ _ _ _)⟩, by have := HB.out; simp only [intOf]; omega⟩
end Go.Proofs.YtdiljkmlneeboaaGreat.B
