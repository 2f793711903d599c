/- slices.Sort of keys: those that are equal to the pivot, ahead: the walk. slices.Sort of keys: the partial insertion sort. -/
import Derived.Test.YtdiljkmlneeboaaGreatBSo7
namespace Go.Proofs.YtdiljkmlneeboaaGreat.B
open Go.RowKit Go.Sort
set_option maxRecDepth 100000

set_option maxHeartbeats 4000000 in
theorem partEq_any {w : World} {g cap a b pv : Nat} {d : Array Int} (hd : SW w g d w) (hab : a < b) (hb : b ≤ d.size) (hp : pv < d.size) (hsz : d.size ≤ 1000000) :
    Calls Tryz.prog 135 #[.slice (some ⟨g, 0, none⟩) d.size cap, .int .i64 (a : Int), .int .i64 (b : Int), .int .i64 (pv : Int)] w fun e w' => e = .returned (.int .i64 ((Sort.partitionEqual ltInt d a b pv).1 : Int)) ∧ SW w g (Sort.partitionEqual ltInt d a b pv).2 w' := by
  obtain ⟨b', hb'⟩ : ∃ b', b' = b - 1 := ⟨_, rfl⟩
  have hw1 : IntKind.i64.wrap ((b : Int) - 1) = (b' : Int) := by rw [IntKind.wrap_i64]; omega
  obtain ⟨R, hR⟩ : ∃ R, R = partEqLoop ltInt a (a + 1) b' (swp d a pv) := ⟨_, rfl⟩
  have HG : Hid (Sort.partitionEqual ltInt d a b pv = R) := by rw [Hid, hR, hb']; rfl
  rw [HG.out]
  have HE0 : Hid (partEqLoop ltInt a (a + 1) b' (swp d a pv) = R) := hR.symm
  have b1 : a < d.size := by omega
  have b2 : b' < d.size := by omega
  have b3 : a ≤ b' := by omega
  have q1 := hd.cell (j := a) b1
  have q2 := hd.cell (j := pv) hp
  have q3 : (w.setCell ⟨g, a, none⟩ (.int .u32 d[pv]!)).cell? ⟨g, pv, none⟩ = some (.int .u32 d[pv]!) := by
    have hc := (hd.set (i := a) b1 d[pv]!).cell (j := pv) (by simpa using hp)
    by_cases e : pv = a
    · rw [e] at hc ⊢
      rwa [getElem!_set_same d a _ b1] at hc
    · rwa [getElem!_set_other d a pv _ e] at hc
  have hf1 := hd.free (j := a) b1
  have hf2 := hd.free (j := pv) hp
  have HSW0 : Hid (SW w g (swp d a pv) ((w.setCell ⟨g, a, none⟩ (.int .u32 d[pv]!)).setCell ⟨g, pv, none⟩ (.int .u32 d[a]!))) := (hd.set b1 _).set (by simpa using hp) _
  have HS0 : Hid ((swp d a pv).size = d.size) := size_swp _ _ _
  clear hd HG hb' hR
  generalize swp d a pv = d0 at *
  generalize d[a]! = x at *
  generalize d[pv]! = y at *
  go_enter Tryz.func135, Tryz.ntmps135
  go_upto_region 1 with (fail)
  go_region
  all_goals go_wp2
  have HD0 : Hid (SW w g d0 _) := HSW0.out.drewN 1
  clear HSW0 q1 q2 q3 hf1 hf2
  go_loopw [9, 10] (fun a9 a10 wq => ∃ (i j : Nat) (dk : Array Int), a + 1 ≤ i ∧ i ≤ j + 2 ∧ j < d.size ∧ a9 = .int .i64 (i : Int) ∧ a10 = .int .i64 (j : Int) ∧ dk.size = d.size ∧ Hid (partEqLoop ltInt a i j dk = R) ∧ Hid (SW w g dk wq)) (fun a9 _ _ => d.size + 2 - (intOf a9).toNat)
  case atStart => exact ⟨a + 1, b', d0, Nat.le_refl _, by omega, b2, by go_num, rfl, HS0.out, HE0, HD0⟩
  case round =>
    obtain ⟨i, j, dk, hai, hij, hjl, rfl, rfl, hdk, HE, HW⟩ := hrel
    clear HD0 HE0 HS0
    obtain ⟨i2, hi2⟩ : ∃ i2, i2 = scanUp (fun x => !ltInt dk[a]! x) dk j i := ⟨_, rfl⟩
    have HU : Hid (scanUp (fun x => !ltInt dk[a]! x) dk j i = i2) := hi2.symm
    have HUK := HU
    clear hi2
    go_wp2
    go_loopw [9] (fun a9 wq => ∃ (k : Nat), i ≤ k ∧ k ≤ j + 2 ∧ a9 = .int .i64 (k : Int) ∧ Hid (scanUp (fun x => !ltInt dk[a]! x) dk j k = i2) ∧ Hid (SW w g dk wq)) (fun a9 _ => d.size + 2 - (intOf a9).toNat)
    case atStart => exact ⟨i, Nat.le_refl _, hij, rfl, HU, HW⟩
    case round =>
      obtain ⟨k, hik, hkj, rfl, HK, HV⟩ := hrel
      clear HU HW
      go_upto_region 4 with (fail)
      go_cut [43] (fun s43 wx => s43 = .bool (decide (k ≤ j ∧ dk[k]! ≤ dk[a]!)) ∧ Hid (SW w g dk wx))
      case first =>
        clear HE HK
        have q1 := HV.out.cell (j := a) (by omega)
        by_cases hkj2 : k ≤ j
        · have q2 := HV.out.cell (j := k) (by omega)
          have b4 : k < d.size := by omega
          have HLS : Hid (∀ W, Calls Tryz.prog 134 #[.int .u32 dk[a]!, .int .u32 dk[k]!] W fun e w' => e = .returned (.bool (decide (dk[a]! < dk[k]!))) ∧ w' = W) := fun W => less_any _ _ W
          have hd2 : decide ((k : Int) ≤ (j : Int)) = true := decide_eq_true (by omega)
          have HZ : Hid (decide (k ≤ j ∧ dk[k]! ≤ dk[a]!) = !decide (dk[a]! < dk[k]!)) := by
            rw [Hid]
            by_cases h : dk[a]! < dk[k]!
            · rw [decide_eq_true h, decide_eq_false (fun hh => by have := hh.2; omega)]; rfl
            · rw [decide_eq_false h, decide_eq_true ⟨hkj2, by omega⟩]; rfl
          have gd : wr.drew.cell? ⟨g, a, none⟩ = some (.int .u32 dk[a]!) ∧ wr.drew.cell? ⟨g, k, none⟩ = some (.int .u32 dk[k]!) := ⟨q1, q2⟩
          generalize dk[a]! = x at *
          generalize dk[k]! = y at *
          go_region_held3 (fun w' => w'.cell? ⟨g, a, none⟩ = some (.int .u32 x) ∧ w'.cell? ⟨g, k, none⟩ = some (.int .u32 y))
            (first | with_reducible exact gd)
            (first | (go_at_call 134; with_reducible refine (HLS.out _).mono ?_; rintro e wa ⟨rfl, rfl⟩))
          go_wp2_with fail
          go_meet
          exact ⟨by rw [HZ.out], HV.out.drewN 1⟩
        · have hd2 : decide ((k : Int) ≤ (j : Int)) = false := decide_eq_false (by omega)
          have HZ : Hid (decide (k ≤ j ∧ dk[k]! ≤ dk[a]!) = false) := decide_eq_false fun h => hkj2 h.1
          go_quiet (fail)
          go_wp2_with fail
          go_meet
          exact ⟨by rw [HZ.out], HV.out.drewN _⟩
      case rest =>
      obtain ⟨rfl, HV2⟩ := hcut
      clear HV
      by_cases hst : k ≤ j ∧ dk[k]! ≤ dk[a]!
      · have hd3 : decide (k ≤ j ∧ dk[k]! ≤ dk[a]!) = true := decide_eq_true hst
        have HK2 : Hid (scanUp (fun x => !ltInt dk[a]! x) dk j (k + 1) = i2) := by
          rw [Hid, ← HK.out]
          symm
          exact scanUp_go hst.1 (by simp only [ltInt]; rw [decide_eq_false (by have := hst.2; omega)]; rfl)
        have hkj3 : k + 1 ≤ j + 2 := by omega
        rw [hd3]
        clear hst hd3 HK HE
        go_wp2
        exact ⟨⟨k + 1, by omega, hkj3, by go_num, HK2, HV2⟩, by simp only [intOf]; omega⟩
      · have hd3 : decide (k ≤ j ∧ dk[k]! ≤ dk[a]!) = false := decide_eq_false hst
        have HK2 : Hid (k = i2) := by
          rw [Hid, ← HK.out]
          symm
          refine scanUp_stop fun h => hst ⟨h.1, ?_⟩
          have := h.2
          simp only [ltInt, Bool.not_eq_true', decide_eq_false_iff_not] at this
          omega
        rw [hd3]
        clear hst hd3 HK
        have hki : k ≤ j + 2 := hkj
        go_wp2
        obtain ⟨j2, hj2⟩ : ∃ j2, j2 = scanDown (fun x => ltInt dk[a]! x) dk k j := ⟨_, rfl⟩
        have HDN : Hid (scanDown (fun x => ltInt dk[a]! x) dk k j = j2) := hj2.symm
        have HDK := HDN
        clear hj2
        go_loopw [10] (fun a10 wq => ∃ (m : Nat), m ≤ j ∧ k ≤ m + 2 ∧ a10 = .int .i64 (m : Int) ∧ Hid (scanDown (fun x => ltInt dk[a]! x) dk k m = j2) ∧ Hid (SW w g dk wq)) (fun a10 _ => (intOf a10).toNat + 1)
        case atStart => exact ⟨j, Nat.le_refl _, hki, rfl, HDN, HV2⟩
        case round =>
          obtain ⟨m, hmj, hkm, rfl, HM, HX⟩ := hrel
          clear HDN HV2
          go_upto_region 6 with (fail)
          go_cut [59] (fun s59 wx => s59 = .bool (decide (k ≤ m ∧ dk[a]! < dk[m]!)) ∧ Hid (SW w g dk wx))
          case first =>
            clear HE HM
            have q1 := HX.out.cell (j := a) (by omega)
            have q2 := HX.out.cell (j := m) (by omega)
            have b4 : m < d.size := by omega
            by_cases hkm2 : k ≤ m
            · have HLS : Hid (∀ W, Calls Tryz.prog 134 #[.int .u32 dk[a]!, .int .u32 dk[m]!] W fun e w' => e = .returned (.bool (decide (dk[a]! < dk[m]!))) ∧ w' = W) := fun W => less_any _ _ W
              have hd2 : decide ((k : Int) ≤ (m : Int)) = true := decide_eq_true (by omega)
              have HZ : Hid (decide (k ≤ m ∧ dk[a]! < dk[m]!) = decide (dk[a]! < dk[m]!)) := by
                rw [Hid]
                by_cases h : dk[a]! < dk[m]!
                · rw [decide_eq_true h, decide_eq_true ⟨hkm2, h⟩]
                · rw [decide_eq_false h, decide_eq_false fun hh => h hh.2]
              have gd : wr.drew.cell? ⟨g, a, none⟩ = some (.int .u32 dk[a]!) ∧ wr.drew.cell? ⟨g, m, none⟩ = some (.int .u32 dk[m]!) := ⟨q1, q2⟩
              generalize dk[a]! = x at *
              generalize dk[m]! = y at *
              go_region_held3 (fun w' => w'.cell? ⟨g, a, none⟩ = some (.int .u32 x) ∧ w'.cell? ⟨g, m, none⟩ = some (.int .u32 y))
                (first | with_reducible exact gd)
                (first | (go_at_call 134; with_reducible refine (HLS.out _).mono ?_; rintro e wa ⟨rfl, rfl⟩))
              go_wp2_with fail
              go_meet
              exact ⟨by rw [HZ.out], HX.out.drewN 1⟩
            · have hd2 : decide ((k : Int) ≤ (m : Int)) = false := decide_eq_false (by omega)
              have HZ : Hid (decide (k ≤ m ∧ dk[a]! < dk[m]!) = false) := decide_eq_false fun h => hkm2 h.1
              go_quiet (fail)
              go_wp2_with fail
              go_meet
              exact ⟨by rw [HZ.out], HX.out.drewN _⟩
          case rest =>
          obtain ⟨rfl, HX2⟩ := hcut
          clear HX
          by_cases hst : k ≤ m ∧ dk[a]! < dk[m]!
          · have hd3 : decide (k ≤ m ∧ dk[a]! < dk[m]!) = true := decide_eq_true hst
            obtain ⟨m', hm'⟩ : ∃ m', m = m' + 1 := ⟨m - 1, by omega⟩
            have hw4 : IntKind.i64.wrap ((m : Int) - 1) = (m' : Int) := by rw [IntKind.wrap_i64]; omega
            have HM2 : Hid (scanDown (fun x => ltInt dk[a]! x) dk k m' = j2) := by
              rw [Hid, ← HM.out, hm']
              symm
              refine scanDown_go (by omega) ?_
              rw [← hm']
              exact decide_eq_true hst.2
            have HB : Hid (m' ≤ j ∧ k ≤ m' + 2 ∧ m' < m) := by rw [Hid]; omega
            rw [hd3]
            clear hst hd3 HM HE HDK HUK hm'
            go_wp2
            exact ⟨⟨m', HB.out.1, HB.out.2.1, rfl, HM2, HX2⟩, by have := HB.out; simp only [intOf]; omega⟩
          · have hd3 : decide (k ≤ m ∧ dk[a]! < dk[m]!) = false := decide_eq_false hst
            have HM2 : Hid (m = j2) := by
              rw [Hid, ← HM.out]
              symm
              exact scanDown_stop fun h => hst ⟨h.1, of_decide_eq_true h.2⟩
            have HR : Hid (R = if k > m then (k, dk) else if _h : (m - 1) + 1 - (k + 1) < j + 1 - i then partEqLoop ltInt a (k + 1) (m - 1) (swp dk k m) else (k, dk)) := by
              rw [Hid, ← HE.out, partEqLoop, HUK.out, ← HK2.out]
              rw [HDK.out, ← HM2.out]
            rw [hd3]
            clear hst hd3 HM HE HDK HUK HM2 HK2
            by_cases hkm3 : m < k
            · have hd4 : decide ((m : Int) < (k : Int)) = true := decide_eq_true (by omega)
              have HZ : Hid (R = (k, dk)) := by rw [Hid, HR.out, if_pos hkm3]
              clear HR
              go_wp2
              go_ret
              exact ⟨by rw [HZ.out]; rfl, by rw [HZ.out]; exact HX2.out⟩
            · have hd4 : decide ((m : Int) < (k : Int)) = false := decide_eq_false (by omega)
              have HZ : Hid (partEqLoop ltInt a (k + 1) (m - 1) (swp dk k m) = R) := by rw [Hid, HR.out, if_neg hkm3, dif_pos (by omega)]
              obtain ⟨m', hm'⟩ : ∃ m', m' = m - 1 := ⟨_, rfl⟩
              rw [← hm'] at HZ
              have hw4 : IntKind.i64.wrap ((m : Int) - 1) = (m' : Int) := by rw [IntKind.wrap_i64]; omega
              have HB : Hid (a + 1 ≤ k + 1 ∧ k + 1 ≤ m' + 2 ∧ m' < d.size ∧ i < k + 1) := by rw [Hid]; omega
              have b4 : k < d.size := by omega
              have b5 : m < d.size := by omega
              have q1 := HX2.out.cell (j := k) (by omega)
              have q2 := HX2.out.cell (j := m) (by omega)
              have q3 : ∀ W, SW w g dk W → (W.setCell ⟨g, k, none⟩ (.int .u32 dk[m]!)).cell? ⟨g, m, none⟩ = some (.int .u32 dk[m]!) := fun W h => by
                have hc := (h.set (i := k) (by omega) dk[m]!).cell (j := m) (by simp; omega)
                by_cases e : m = k
                · rw [e] at hc ⊢
                  rwa [getElem!_set_same dk k _ (by omega)] at hc
                · rwa [getElem!_set_other dk k m _ e] at hc
              have q3 := q3 _ HX2.out
              have hf1 := HX2.out.free (j := k) (by omega)
              have hf2 := HX2.out.free (j := m) (by omega)
              have HSW : Hid (∀ W, SW w g dk W → SW w g (swp dk k m) ((W.setCell ⟨g, k, none⟩ (.int .u32 dk[m]!)).setCell ⟨g, m, none⟩ (.int .u32 dk[k]!))) := fun W h => (h.set (by omega) _).set (by simp; omega) _
              have HSZ : Hid ((swp dk k m).size = d.size) := by rw [Hid, size_swp, hdk]
              clear HR hm'
              generalize swp dk k m = Y at *
              generalize dk[k]! = x at *
              generalize dk[m]! = y at *
              go_upto_region 9 with (fail)
              go_region
              all_goals go_wp2
              exact ⟨⟨k + 1, m', Y, HB.out.1, HB.out.2.1, HB.out.2.2.1, by go_num, rfl, HSZ.out, HZ, ((HSW.out _ HX2.out).drewN 1 : SW _ _ _ _)⟩, by have := HB.out; simp only [intOf]; omega⟩
end Go.Proofs.YtdiljkmlneeboaaGreat.B
namespace Go.Proofs.YtdiljkmlneeboaaGreat.B
open Go.RowKit Go.Sort
set_option maxRecDepth 100000

theorem scanSorted_go {d : Array Int} {b i : Nat} (h : i < b) (hp : ¬ d[i]! < d[i - 1]!) : scanSorted ltInt d b i = scanSorted ltInt d b (i + 1) := by
  rw [scanSorted, if_pos]
  rw [Bool.and_eq_true]
  refine ⟨decide_eq_true h, ?_⟩
  simp only [ltInt]
  rw [decide_eq_false hp]
  rfl
theorem scanSorted_stop {d : Array Int} {b i : Nat} (h : ¬ (i < b ∧ ¬ d[i]! < d[i - 1]!)) : scanSorted ltInt d b i = i := by
  rw [scanSorted, if_neg]
  intro hh
  rw [Bool.and_eq_true] at hh
  refine h ⟨of_decide_eq_true hh.1, ?_⟩
  have := hh.2
  simpa only [ltInt, Bool.not_eq_true', decide_eq_false_iff_not] using this
theorem shiftDown_stop {j : Nat} {d : Array Int} (h : ¬ d[j + 1]! < d[j]!) : shiftDown ltInt (j + 1) d = d := by
  rw [shiftDown, if_pos]
  simp only [ltInt]
  rw [decide_eq_false h]
  rfl
theorem shiftDown_go {j : Nat} {d : Array Int} (h : d[j + 1]! < d[j]!) : shiftDown ltInt (j + 1) d = shiftDown ltInt j (swp d (j + 1) j) := by
  rw [shiftDown, if_neg]
  simp only [ltInt]
  rw [decide_eq_true h]
  decide
theorem shiftUp_end {b j : Nat} {d : Array Int} (h : ¬ j < b) : shiftUp ltInt b j d = d := by
  rw [shiftUp, if_neg h]
theorem shiftUp_stop {b j : Nat} {d : Array Int} (h : ¬ d[j]! < d[j - 1]!) : shiftUp ltInt b j d = d := by
  rw [shiftUp]
  split
  · rw [if_pos]
    simp only [ltInt]
    rw [decide_eq_false h]
    rfl
  · rfl
theorem shiftUp_go {b j : Nat} {d : Array Int} (hb : j < b) (h : d[j]! < d[j - 1]!) : shiftUp ltInt b j d = shiftUp ltInt b (j + 1) (swp d j (j - 1)) := by
  rw [shiftUp, if_pos hb, if_neg]
  simp only [ltInt]
  rw [decide_eq_true h]
  decide

theorem shiftDown_size : ∀ (j : Nat) (d : Array Int), (shiftDown ltInt j d).size = d.size
  | 0, d => rfl
  | j + 1, d => by
    rw [shiftDown]
    split
    · rfl
    · rw [shiftDown_size j, size_swp]
theorem shiftUp_size (b : Nat) : ∀ (n j : Nat) (d : Array Int), b - j ≤ n → (shiftUp ltInt b j d).size = d.size
  | n, j, d, h => by
    rw [shiftUp]
    split
    · split
      · rfl
      · match n, h with
        | 0, h => omega
        | n + 1, h => rw [shiftUp_size b n (j + 1) _ (by omega), size_swp]
    · rfl

set_option maxHeartbeats 8000000 in
theorem partial_any {w : World} {g cap a b : Nat} {d : Array Int} (hd : SW w g d w) (hab : a < b) (hb : b ≤ d.size) (hsz : d.size ≤ 1000000) :
    Calls Tryz.prog 133 #[.slice (some ⟨g, 0, none⟩) d.size cap, .int .i64 (a : Int), .int .i64 (b : Int)] w fun e w' => e = .returned (.bool (Sort.partialInsertionSort ltInt d a b).2) ∧ SW w g (Sort.partialInsertionSort ltInt d a b).1 w' := by
  have HE0 : Hid (partialIns ltInt a b 5 (a + 1) d = Sort.partialInsertionSort ltInt d a b) := rfl
  generalize Sort.partialInsertionSort ltInt d a b = R at *
  have HD := hid_mk hd
  clear hd
  go_enter Tryz.func133, Tryz.ntmps133
  go_wp2
  go_loopw [7, 8] (fun a7 a8 wq => ∃ (i s t : Nat) (dk : Array Int), a + 1 ≤ i ∧ i ≤ b ∧ s + t = 5 ∧ a7 = .int .i64 (i : Int) ∧ a8 = .int .i64 (t : Int) ∧ dk.size = d.size ∧ Hid (partialIns ltInt a b s i dk = R) ∧ Hid (SW w g dk wq)) (fun _ a8 _ => 6 - (intOf a8).toNat)
  case atStart => exact ⟨a + 1, 5, 0, d, Nat.le_refl _, by omega, rfl, by go_num, rfl, rfl, HE0, HD⟩
  case round =>
    obtain ⟨i, s, t, dk, hai, hib, hst, rfl, rfl, hdk, HE, HW⟩ := hrel
    clear HD HE0
    match s, hst, HE with
    | 0, hst, HE =>
      have ht : t = 5 := by omega
      subst ht
      have HR : Hid (R = (dk, false)) := HE.out.symm
      clear HE
      go_wp2
      go_ret
      exact ⟨by rw [HR.out]; rfl, by rw [HR.out]; exact HW.out⟩
    | s + 1, hst, HE =>
      have hd1 : decide ((t : Int) < 5) = true := decide_eq_true (by omega)
      have ht5 : (t : Int) < 5 := by omega
      obtain ⟨i2, hi2⟩ : ∃ i2, i2 = scanSorted ltInt dk b i := ⟨_, rfl⟩
      have HU : Hid (scanSorted ltInt dk b i = i2) := hi2.symm
      have HUK := HU
      clear hi2
      go_wp2
      go_loopw [7] (fun a7 wq => ∃ (k : Nat), i ≤ k ∧ k ≤ b ∧ a7 = .int .i64 (k : Int) ∧ Hid (scanSorted ltInt dk b k = i2) ∧ Hid (SW w g dk wq)) (fun a7 _ => d.size + 2 - (intOf a7).toNat)
      case atStart => exact ⟨i, Nat.le_refl _, hib, rfl, HU, HW⟩
      case round =>
        obtain ⟨k, hik, hkb, rfl, HK, HV⟩ := hrel
        clear HU HW
        obtain ⟨m, hm⟩ : ∃ m, k = m + 1 := ⟨k - 1, by omega⟩
        have HM := hid_mk hm
        go_upto_region 5 with (fail)
        go_cut [32] (fun s32 wx => s32 = .bool (decide (k < b ∧ ¬ dk[k]! < dk[m]!)) ∧ Hid (SW w g dk wx))
        case first =>
          clear HK HE HUK
          by_cases hkb2 : k < b
          · have hd2 : decide ((k : Int) < (b : Int)) = true := decide_eq_true (by omega)
            have HZ : Hid (decide (k < b ∧ ¬ dk[k]! < dk[m]!) = !decide (dk[k]! < dk[m]!)) := by
              rw [Hid]
              by_cases h : dk[k]! < dk[m]!
              · rw [decide_eq_true h, decide_eq_false (fun hh => hh.2 h)]; rfl
              · rw [decide_eq_false h, decide_eq_true ⟨hkb2, h⟩]; rfl
            have q1 := HV.out.cell (j := k) (by omega)
            have q2 := HV.out.cell (j := m) (by omega)
            have HLS : Hid (∀ W, Calls Tryz.prog 134 #[.int .u32 dk[k]!, .int .u32 dk[m]!] W fun e w' => e = .returned (.bool (decide (dk[k]! < dk[m]!))) ∧ w' = W) := fun W => less_any _ _ W
            have hj4 : IntKind.i64.wrap ((k : Int) - 1) = (m : Int) := by rw [IntKind.wrap_i64]; omega
            have b5 : k < d.size := by omega
            have b6 : m < d.size := by omega
            have gd : wr.drew.cell? ⟨g, k, none⟩ = some (.int .u32 dk[k]!) ∧ wr.drew.cell? ⟨g, m, none⟩ = some (.int .u32 dk[m]!) := ⟨q1, q2⟩
            clear hm
            generalize dk[k]! = x at *
            generalize dk[m]! = y at *
            go_region_held3 (fun w' => w'.cell? ⟨g, k, none⟩ = some (.int .u32 x) ∧ w'.cell? ⟨g, m, none⟩ = some (.int .u32 y))
              (first | with_reducible exact gd)
              (first | (go_at_call 134; with_reducible refine (HLS.out _).mono ?_; rintro e wa ⟨rfl, rfl⟩))
            go_wp2_with fail
            go_meet
            exact ⟨by rw [HZ.out], HV.out.drewN 1⟩
          · have hd2 : decide ((k : Int) < (b : Int)) = false := decide_eq_false (by omega)
            have HZ : Hid (decide (k < b ∧ ¬ dk[k]! < dk[m]!) = false) := decide_eq_false fun h => hkb2 h.1
            clear hm
            go_quiet (fail)
            go_wp2_with fail
            go_meet
            exact ⟨by rw [HZ.out], HV.out.drewN _⟩
        case rest =>
        obtain ⟨rfl, HV2⟩ := hcut
        clear HV
        by_cases hs2 : k < b ∧ ¬ dk[k]! < dk[m]!
        · have hd3 : decide (k < b ∧ ¬ dk[k]! < dk[m]!) = true := decide_eq_true hs2
          have HK2 : Hid (scanSorted ltInt dk b (k + 1) = i2) := by
            rw [Hid, ← HK.out]
            symm
            refine scanSorted_go hs2.1 ?_
            rw [hm]
            rw [hm] at hs2
            exact hs2.2
          have hkb3 : k + 1 ≤ b := by omega
          rw [hd3]
          clear hs2 hd3 HK HE HUK hm
          go_wp2
          exact ⟨⟨k + 1, by omega, hkb3, by go_num, HK2, HV2⟩, by simp only [intOf]; omega⟩
        · have hd3 : decide (k < b ∧ ¬ dk[k]! < dk[m]!) = false := decide_eq_false hs2
          have HK2 : Hid (k = i2) := by
            rw [Hid, ← HK.out]
            symm
            refine scanSorted_stop fun h => hs2 ⟨h.1, ?_⟩
            have := h.2
            rw [hm] at this ⊢
            exact this
          have HR : Hid (R = if k = b then (dk, true) else if b - a < 50 then (dk, false) else partialIns ltInt a b s k (if b - k ≥ 2 then shiftUp ltInt b (k + 1) (if k - a ≥ 2 then shiftDown ltInt (k - 1) (swp dk k (k - 1)) else swp dk k (k - 1)) else (if k - a ≥ 2 then shiftDown ltInt (k - 1) (swp dk k (k - 1)) else swp dk k (k - 1)))) := by
            rw [Hid, ← HE.out, partialIns, HUK.out, ← HK2.out]
          rw [hd3]
          clear hs2 hd3 HK HE HUK HK2 hm
          by_cases hkb4 : k = b
          · have HZ : Hid (R = (dk, true)) := by rw [Hid, HR.out, if_pos hkb4]
            clear HR
            have hd4 : decide ((k : Int) = (b : Int)) = true := decide_eq_true (by omega)
            have hd5 : ((k : Int) == (b : Int)) = true := by rw [beq_iff_eq]; omega
            clear HM
            subst hkb4
            go_wp2
            go_ret
            exact ⟨by rw [HZ.out]; rfl, by rw [HZ.out]; exact HV2.out⟩
          have hd5 : ((k : Int) == (b : Int)) = false := by simp; omega
          by_cases hb50 : b - a < 50
          · have HZ : Hid (R = (dk, false)) := by rw [Hid, HR.out, if_neg hkb4, if_pos hb50]
            clear HR
            have hd6 : decide (IntKind.i64.wrap ((b : Int) - (a : Int)) < 50) = true := by
              rw [IntKind.wrap_i64]
              exact decide_eq_true (by omega)
            have hne : ¬ (k : Int) = (b : Int) := by omega
            have hd7 : decide ((b : Int) - (a : Int) < 50) = true := decide_eq_true (by omega)
            have hd8 : (b : Int) - (a : Int) < 50 := by omega
            clear HM hkb4
            go_wp2
            go_ret
            exact ⟨by rw [HZ.out]; rfl, by rw [HZ.out]; exact HV2.out⟩
          have hne : ¬ (k : Int) = (b : Int) := by omega
          have hd6 : decide (IntKind.i64.wrap ((b : Int) - (a : Int)) < 50) = false := by
            rw [IntKind.wrap_i64]
            exact decide_eq_false (by omega)
          have hd7 : decide ((b : Int) - (a : Int) < 50) = false := decide_eq_false (by omega)
          have hd8 : ¬ (b : Int) - (a : Int) < 50 := by omega
          have hme := HM.out
          have hkm : k - 1 = m := by omega
          have HR2 : Hid (R = partialIns ltInt a b s k (if b - k ≥ 2 then shiftUp ltInt b (k + 1) (if k - a ≥ 2 then shiftDown ltInt m (swp dk k m) else swp dk k m) else (if k - a ≥ 2 then shiftDown ltInt m (swp dk k m) else swp dk k m))) := by
            rw [Hid, HR.out, if_neg hkb4, if_neg hb50, hkm]
          clear HR
          have hj4 : IntKind.i64.wrap ((k : Int) - 1) = (m : Int) := by rw [IntKind.wrap_i64]; omega
          have q1 := HV2.out.cell (j := k) (by omega)
          have q2 := HV2.out.cell (j := m) (by omega)
          have b5 : k < d.size := by omega
          have b6 : m < d.size := by omega
          have HSW : Hid (∀ W, SW w g dk W → SW w g (swp dk k m) ((W.setCell ⟨g, k, none⟩ (.int .u32 dk[m]!)).setCell ⟨g, m, none⟩ (.int .u32 dk[k]!))) := fun W h => (h.set (by omega) _).set (by simp; omega) _
          have q3 : (wc.setCell ⟨g, k, none⟩ (.int .u32 dk[m]!)).cell? ⟨g, m, none⟩ = some (.int .u32 dk[m]!) := by
            have := (HV2.out.set (i := k) (by omega) dk[m]!).cell (j := m) (by simp; omega)
            rwa [getElem!_set_other dk k m _ (by omega)] at this
          have hf1 : wc.frozen? ⟨g, k, none⟩ = false := HV2.out.free (by omega)
          have hf2 : wc.frozen? ⟨g, m, none⟩ = false := HV2.out.free (by omega)
          have HSZ : Hid ((swp dk k m).size = d.size) := by rw [Hid, size_swp, hdk]
          have HY : Hid (SW w g (swp dk k m) ((((wc.setCell ⟨g, k, none⟩ (.int .u32 dk[m]!)).setCell ⟨g, m, none⟩ (.int .u32 dk[k]!))).drewN 1)) := ((HSW.out _ HV2.out).drewN 1 : SW _ _ _ _)
          clear hme hkm hkb4 hb50 HSW
          generalize swp dk k m = Y at *
          generalize dk[k]! = x at *
          generalize dk[m]! = y at *
          have hmk : k = m + 1 := HM.out
          obtain ⟨D1, hD1⟩ : ∃ D1, D1 = if k - a ≥ 2 then shiftDown ltInt m Y else Y := ⟨_, rfl⟩
          obtain ⟨D2, hD2⟩ : ∃ D2, D2 = if b - k ≥ 2 then shiftUp ltInt b (k + 1) D1 else D1 := ⟨_, rfl⟩
          rw [← hD1, ← hD2] at HR2
          have HD1 := hid_mk hD1
          have HD2 := hid_mk hD2
          have HDS : Hid (D1.size = d.size) := by
            rw [Hid, hD1]
            split
            · rw [shiftDown_size, HSZ.out]
            · exact HSZ.out
          have HDS2 : Hid (D2.size = d.size) := by
            rw [Hid, hD2]
            split
            · rw [shiftUp_size b _ _ _ (Nat.le_refl _), HDS.out]
            · exact HDS.out
          clear hD1 hD2 hmk
          go_upto_region 11 with (fail)
          go_region
          all_goals go_upto_if 61 with (fail)
          clear q1 q2 q3 hf1 hf2 HV2
          have hmk : k = m + 1 := HM.out
          go_cut [] (fun wx => Hid (SW w g D1 wx))
          case first =>
            clear HR2 HD2 HDS HDS2
            by_cases hka : k - a ≥ 2
            · have HS : Hid (shiftDown ltInt m Y = D1) := by rw [Hid, HD1.out, if_pos hka]
              have hd9 : (2 : Int) ≤ (k : Int) - (a : Int) := by omega
              have hd10 : decide ((2 : Int) ≤ (k : Int) - (a : Int)) = true := decide_eq_true hd9
              clear hmk HM hka HD1
              go_wp2
              go_loopw [9] (fun a9 wq => ∃ (j : Nat) (dj : Array Int), j ≤ m ∧ a9 = .int .i64 (j : Int) ∧ dj.size = d.size ∧ Hid (shiftDown ltInt j dj = D1) ∧ Hid (SW w g dj wq)) (fun a9 _ => (intOf a9).toNat + 1)
              case atStart => exact ⟨m, Y, Nat.le_refl _, rfl, HSZ.out, HS, HY⟩
              case round =>
                obtain ⟨j, dj, hjm, rfl, hdj, HJ, HV⟩ := hrel
                clear HS HY HSZ
                by_cases hj0 : j = 0
                · have HZ : Hid (dj = D1) := by rw [Hid, ← HJ.out, hj0]; rfl
                  have hd11 : decide ((1 : Int) ≤ (j : Int)) = false := decide_eq_false (by omega)
                  have hd12 : ¬ (1 : Int) ≤ (j : Int) := by omega
                  clear HJ hj0
                  go_wp2_with fail
                  go_meet
                  rw [← HZ.out]
                  exact HV
                obtain ⟨n, hn⟩ : ∃ n, j = n + 1 := ⟨j - 1, by omega⟩
                have hd11 : decide ((1 : Int) ≤ (j : Int)) = true := decide_eq_true (by omega)
                have hd12 : (1 : Int) ≤ (j : Int) := by omega
                have HNX : Hid (dj[j]! < dj[n]! → shiftDown ltInt n (swp dj j n) = D1) := fun h => by subst hn; rw [← HJ.out, shiftDown_go h]
                have HNS : Hid (¬ dj[j]! < dj[n]! → dj = D1) := fun h => by subst hn; rw [← HJ.out, shiftDown_stop h]
                have q1 := HV.out.cell (j := j) (by omega)
                have q2 := HV.out.cell (j := n) (by omega)
                have HLS : Hid (∀ W, Calls Tryz.prog 134 #[.int .u32 dj[j]!, .int .u32 dj[n]!] W fun e w' => e = .returned (.bool (decide (dj[j]! < dj[n]!))) ∧ w' = W) := fun W => less_any _ _ W
                have hj4 : IntKind.i64.wrap ((j : Int) - 1) = (n : Int) := by rw [IntKind.wrap_i64]; omega
                have b5 : j < d.size := by omega
                have b6 : n < d.size := by omega
                have gd : wr.drew.cell? ⟨g, j, none⟩ = some (.int .u32 dj[j]!) ∧ wr.drew.cell? ⟨g, n, none⟩ = some (.int .u32 dj[n]!) := ⟨q1, q2⟩
                have HSW : Hid (∀ W, SW w g dj W → SW w g (swp dj j n) ((W.setCell ⟨g, j, none⟩ (.int .u32 dj[n]!)).setCell ⟨g, n, none⟩ (.int .u32 dj[j]!))) := fun W h => (h.set (by omega) _).set (by simp; omega) _
                have q3 : (wr.setCell ⟨g, j, none⟩ (.int .u32 dj[n]!)).cell? ⟨g, n, none⟩ = some (.int .u32 dj[n]!) := by
                  have := (HV.out.set (i := j) (by omega) dj[n]!).cell (j := n) (by simp; omega)
                  rwa [getElem!_set_other dj j n _ (by omega)] at this
                have hf1 : wr.frozen? ⟨g, j, none⟩ = false := HV.out.free (by omega)
                have hf2 : wr.frozen? ⟨g, n, none⟩ = false := HV.out.free (by omega)
                have HB : Hid (j = n + 1) := hn
                clear HJ hn
                generalize dj[j]! = x2 at *
                generalize dj[n]! = y2 at *
                go_upto_region 16 with (fail)
                go_region_held3 (fun w' => w'.cell? ⟨g, j, none⟩ = some (.int .u32 x2) ∧ w'.cell? ⟨g, n, none⟩ = some (.int .u32 y2))
                  (first | with_reducible exact gd)
                  (first | (go_at_call 134; with_reducible refine (HLS.out _).mono ?_; rintro e wa ⟨rfl, rfl⟩))
                have HV3 : Hid (SW w g dj wr.drew) := HV.out.drewN 1
                clear HLS gd
                by_cases hxy : x2 < y2
                · have hd3 : decide (x2 < y2) = true := decide_eq_true hxy
                  have HR3 := hid_mk (HNX.out hxy)
                  rw [hd3]
                  clear HNX HNS hxy hd3
                  go_upto_region 17 with (fail)
                  go_region
                  all_goals go_wp2
                  exact ⟨⟨n, swp dj j n, by have := HB.out; omega, rfl, by rw [size_swp]; exact hdj, HR3, ((HSW.out _ HV.out).drewN 2 : SW _ _ _ _)⟩, by have := HB.out; simp only [intOf]; omega⟩
                · have hd3 : decide (x2 < y2) = false := decide_eq_false hxy
                  have HR3 := hid_mk (HNS.out (by omega))
                  rw [hd3]
                  clear HNX HNS HSW hxy hd3
                  go_wp2_with fail
                  go_meet
                  rw [← HR3.out]
                  exact HV3
            · have HZ : Hid (Y = D1) := by rw [Hid, HD1.out, if_neg hka]
              have hd9 : ¬ (2 : Int) ≤ (k : Int) - (a : Int) := by omega
              have hd10 : decide ((2 : Int) ≤ (k : Int) - (a : Int)) = false := decide_eq_false hd9
              clear hmk HM hka HD1
              go_wp2_with fail
              go_meet
              rw [← HZ.out]
              exact HY
          case rest =>
          have HY1 : Hid (SW w g D1 _) := hcut
          clear hcut HD1 HY HSZ
          have HR4 : Hid (partialIns ltInt a b s k D2 = R) := HR2.out.symm
          clear HR2
          by_cases hka : b - k ≥ 2
          · have HS : Hid (shiftUp ltInt b (k + 1) D1 = D2) := by rw [Hid, HD2.out, if_pos hka]
            have hd9 : (2 : Int) ≤ (b : Int) - (k : Int) := by omega
            have hd10 : decide ((2 : Int) ≤ (b : Int) - (k : Int)) = true := decide_eq_true hd9
            have hkb1 : k + 1 ≤ b := by omega
            clear hmk HM hka HD2
            go_wp2
            go_loopw [10] (fun a10 wq => ∃ (j : Nat) (dj : Array Int), k + 1 ≤ j ∧ j ≤ b ∧ a10 = .int .i64 (j : Int) ∧ dj.size = d.size ∧ Hid (shiftUp ltInt b j dj = D2) ∧ Hid (SW w g dj wq)) (fun a10 _ => d.size + 1 - (intOf a10).toNat)
            case atStart => exact ⟨k + 1, D1, Nat.le_refl _, hkb1, by go_num, HDS.out, HS, HY1⟩
            case round =>
              obtain ⟨j, dj, hjk, hjb, rfl, hdj, HJ, HV⟩ := hrel
              clear HS HY1 HDS
              by_cases hj0 : j < b
              case neg =>
                have HZ : Hid (dj = D2) := by rw [Hid, ← HJ.out, shiftUp_end hj0]
                have hd11 : decide ((j : Int) < (b : Int)) = false := decide_eq_false (by omega)
                have hd12 : ¬ (j : Int) < (b : Int) := by omega
                clear HJ hj0
                have HY2 := HV
                rw [HZ.out] at HY2
                clear HZ HV
                go_wp2
                exact ⟨⟨k, s, t + 1, D2, by omega, hkb, by omega, rfl, by go_num, HDS2.out, HR4, HY2⟩, by simp only [intOf]; omega⟩
              obtain ⟨n, hn⟩ : ∃ n, j = n + 1 := ⟨j - 1, by omega⟩
              have hd11 : decide ((j : Int) < (b : Int)) = true := decide_eq_true (by omega)
              have hd12 : (j : Int) < (b : Int) := by omega
              have HNX : Hid (dj[j]! < dj[n]! → shiftUp ltInt b (j + 1) (swp dj j n) = D2) := fun h => by
                have e : j - 1 = n := by omega
                rw [← HJ.out, shiftUp_go hj0 (by rw [e]; exact h), e]
              have HNS : Hid (¬ dj[j]! < dj[n]! → dj = D2) := fun h => by
                have e : j - 1 = n := by omega
                rw [← HJ.out, shiftUp_stop (by rw [e]; exact h)]
              have q1 := HV.out.cell (j := j) (by omega)
              have q2 := HV.out.cell (j := n) (by omega)
              have HLS : Hid (∀ W, Calls Tryz.prog 134 #[.int .u32 dj[j]!, .int .u32 dj[n]!] W fun e w' => e = .returned (.bool (decide (dj[j]! < dj[n]!))) ∧ w' = W) := fun W => less_any _ _ W
              have hj4 : IntKind.i64.wrap ((j : Int) - 1) = (n : Int) := by rw [IntKind.wrap_i64]; omega
              have b5 : j < d.size := by omega
              have b6 : n < d.size := by omega
              have gd : wr.drew.cell? ⟨g, j, none⟩ = some (.int .u32 dj[j]!) ∧ wr.drew.cell? ⟨g, n, none⟩ = some (.int .u32 dj[n]!) := ⟨q1, q2⟩
              have HSW : Hid (∀ W, SW w g dj W → SW w g (swp dj j n) ((W.setCell ⟨g, j, none⟩ (.int .u32 dj[n]!)).setCell ⟨g, n, none⟩ (.int .u32 dj[j]!))) := fun W h => (h.set (by omega) _).set (by simp; omega) _
              have q3 : (wr.setCell ⟨g, j, none⟩ (.int .u32 dj[n]!)).cell? ⟨g, n, none⟩ = some (.int .u32 dj[n]!) := by
                have := (HV.out.set (i := j) (by omega) dj[n]!).cell (j := n) (by simp; omega)
                rwa [getElem!_set_other dj j n _ (by omega)] at this
              have hf1 : wr.frozen? ⟨g, j, none⟩ = false := HV.out.free (by omega)
              have hf2 : wr.frozen? ⟨g, n, none⟩ = false := HV.out.free (by omega)
              have HB : Hid (j = n + 1) := hn
              clear HJ hn
              generalize dj[j]! = x2 at *
              generalize dj[n]! = y2 at *
              go_upto_region 22 with (fail)
              go_region_held3 (fun w' => w'.cell? ⟨g, j, none⟩ = some (.int .u32 x2) ∧ w'.cell? ⟨g, n, none⟩ = some (.int .u32 y2))
                (first | with_reducible exact gd)
                (first | (go_at_call 134; with_reducible refine (HLS.out _).mono ?_; rintro e wa ⟨rfl, rfl⟩))
              have HV3 : Hid (SW w g dj wr.drew) := HV.out.drewN 1
              clear HLS gd
              by_cases hxy : x2 < y2
              · have hd3 : decide (x2 < y2) = true := decide_eq_true hxy
                have HR3 := hid_mk (HNX.out hxy)
                rw [hd3]
                clear HNX HNS hxy hd3
                go_upto_region 23 with (fail)
                go_region
                all_goals go_wp2
                exact ⟨⟨j + 1, swp dj j n, by omega, by omega, by go_num, by rw [size_swp]; exact hdj, HR3, ((HSW.out _ HV.out).drewN 2 : SW _ _ _ _)⟩, by have := HB.out; simp only [intOf]; omega⟩
              · have hd3 : decide (x2 < y2) = false := decide_eq_false hxy
                have HR3 := hid_mk (HNS.out (by omega))
                rw [hd3]
                clear HNX HNS HSW hxy hd3
                have HY2 := HV3
                rw [HR3.out] at HY2
                clear HR3 HV3
                go_wp2
                exact ⟨⟨k, s, t + 1, D2, by omega, hkb, by omega, rfl, by go_num, HDS2.out, HR4, HY2⟩, by simp only [intOf]; omega⟩
          · have HZ : Hid (D1 = D2) := by rw [Hid, HD2.out, if_neg hka]
            have hd9 : ¬ (2 : Int) ≤ (b : Int) - (k : Int) := by omega
            have hd10 : decide ((2 : Int) ≤ (b : Int) - (k : Int)) = false := decide_eq_false hd9
            clear hmk HM hka HD2
            have HY2 := HY1
            rw [HZ.out] at HY2
            clear HZ HY1
            go_wp2
            exact ⟨⟨k, s, t + 1, D2, by omega, hkb, by omega, rfl, by go_num, HDS2.out, HR4, HY2⟩, by simp only [intOf]; omega⟩
end Go.Proofs.YtdiljkmlneeboaaGreat.B
