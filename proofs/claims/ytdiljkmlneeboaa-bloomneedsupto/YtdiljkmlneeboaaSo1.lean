/- slices.Sort of keys: the insertion sort. -/
import Derived.Test.YtdiljkmlneeboaaSo0
namespace Go.Proofs.Ytdiljkmlneeboaa
open Go.RowKit Go.Sort
set_option maxRecDepth 100000

theorem insInner_stop {a j : Nat} {d : Array Int} (h : ¬ (a < j ∧ d[j]! < d[j - 1]!)) : insInner ltInt a j d = d := by
  cases j with
  | zero => rfl
  | succ j =>
    rw [insInner, if_neg]
    intro hh
    rw [Bool.and_eq_true] at hh
    exact h ⟨of_decide_eq_true hh.1, of_decide_eq_true hh.2⟩
theorem insInner_go {a j : Nat} {d : Array Int} (h1 : a < j + 1) (h2 : d[j + 1]! < d[j]!) : insInner ltInt a (j + 1) d = insInner ltInt a j (swp d (j + 1) j) := by
  rw [insInner, if_pos]
  rw [Bool.and_eq_true]
  exact ⟨decide_eq_true h1, decide_eq_true h2⟩
theorem insInner_size (a : Nat) : ∀ (j : Nat) (d : Array Int), (insInner ltInt a j d).size = d.size
  | 0, d => rfl
  | j + 1, d => by
    rw [insInner]
    split
    · rw [insInner_size a j]; simp [swp]
    · rfl

set_option maxHeartbeats 4000000 in
theorem insertion_any {w : World} {g cap a b : Nat} {d : Array Int} (hd : SW w g d w) (ha : a ≤ d.size) (hb : b ≤ d.size) (hsz : d.size ≤ 1000000) :
    Calls Try.prog 33 #[.slice (some ⟨g, 0, none⟩) d.size cap, .int .i64 (a : Int), .int .i64 (b : Int)] w fun e w' => e = .returned (.tuple #[]) ∧ SW w g (Sort.insertionSort ltInt d a b) w' := by
  have HD := hid_mk hd
  have HE0 : Hid (insOuter ltInt a b (a + 1) d = Sort.insertionSort ltInt d a b) := rfl
  generalize Sort.insertionSort ltInt d a b = D at *
  clear hd
  go_enter Try.func33, Try.ntmps33
  go_wp2
  go_loopw [6] (fun a6 wq => ∃ (i : Nat) (dk : Array Int), a + 1 ≤ i ∧ i ≤ 1000001 ∧ a6 = .int .i64 (i : Int) ∧ dk.size = d.size ∧ Hid (insOuter ltInt a b i dk = D) ∧ Hid (SW w g dk wq)) (fun a6 _ => b + 2 - (intOf a6).toNat)
  case atStart => exact ⟨a + 1, d, Nat.le_refl _, by omega, by go_num, rfl, HE0, HD⟩
  case round =>
    obtain ⟨i, dk, hai, hib, rfl, hdk, HE, HW⟩ := hrel
    clear HD HE0
    by_cases hil : i < b
    · have HE1 : Hid (insOuter ltInt a b (i + 1) (insInner ltInt a i dk) = D) := by
        have h := HE.out
        rw [insOuter, if_pos hil] at h
        exact h
      have HSZ : Hid ((insInner ltInt a i dk).size = d.size) := by rw [Hid, insInner_size, hdk]
      have HEI : Hid (insInner ltInt a i dk = insInner ltInt a i dk) := rfl
      obtain ⟨R, hR⟩ : ∃ R, R = insInner ltInt a i dk := ⟨_, rfl⟩
      have HR : Hid (insInner ltInt a i dk = R) := hR.symm
      rw [HR.out] at HE1 HSZ
      clear HE HEI hR
      go_wp2
      go_loopw [7] (fun a7 wq => ∃ (j : Nat) (dj : Array Int), j ≤ i ∧ a7 = .int .i64 (j : Int) ∧ dj.size = d.size ∧ Hid (insInner ltInt a j dj = R) ∧ Hid (SW w g dj wq)) (fun a7 _ => (intOf a7).toNat + 1)
      case atStart => exact ⟨i, dk, Nat.le_refl _, rfl, hdk, HR, HW⟩
      case round =>
        obtain ⟨j, dj, hji, rfl, hdj, HJ, HV⟩ := hrel
        clear HR HW
        by_cases hja : a < j
        · obtain ⟨m, hm⟩ : ∃ m, j = m + 1 := ⟨j - 1, by omega⟩
          have q1 := HV.out.cell (j := j) (by omega)
          have q2 := HV.out.cell (j := m) (by omega)
          have HLS : Hid (∀ W, Calls Try.prog 39 #[.int .u32 dj[j]!, .int .u32 dj[m]!] W fun e w' => e = .returned (.bool (decide (dj[j]! < dj[m]!))) ∧ w' = W) := fun W => less_any _ _ W
          have hd1 : decide ((a : Int) < (j : Int)) = true := decide_eq_true (by omega)
          have hd2 : (a : Int) < (j : Int) := by omega
          have hj4 : IntKind.i64.wrap ((j : Int) - 1) = (m : Int) := by rw [IntKind.wrap_i64]; omega
          have b1 : (0 : Int) ≤ (j : Int) := by omega
          have b2 : (j : Int) < (d.size : Int) := by omega
          have b3 : (0 : Int) ≤ (m : Int) := by omega
          have b4 : (m : Int) < (d.size : Int) := by omega
          have b5 : j < d.size := by omega
          have b6 : m < d.size := by omega
          have gd : wr.drew.cell? ⟨g, j, none⟩ = some (.int .u32 dj[j]!) ∧ wr.drew.cell? ⟨g, m, none⟩ = some (.int .u32 dj[m]!) := ⟨q1, q2⟩
          have HNX : Hid (dj[j]! < dj[m]! → insInner ltInt a m (swp dj j m) = R) := fun h => by subst hm; rw [← HJ.out, insInner_go hja h]
          have HNS : Hid (¬ dj[j]! < dj[m]! → dj = R) := fun h => by subst hm; rw [← HJ.out, insInner_stop fun hh => h hh.2]
          have HSW : Hid (∀ W, SW w g dj W → SW w g (swp dj j m) ((W.setCell ⟨g, j, none⟩ (.int .u32 dj[m]!)).setCell ⟨g, m, none⟩ (.int .u32 dj[j]!))) := fun W h => (h.set (by omega) _).set (by simp; omega) _
          have q3 : (wr.setCell ⟨g, j, none⟩ (.int .u32 dj[m]!)).cell? ⟨g, m, none⟩ = some (.int .u32 dj[m]!) := by
            have := (HV.out.set (i := j) (by omega) dj[m]!).cell (j := m) (by simp; omega)
            rwa [getElem!_set_other dj j m _ (by omega)] at this
          have hf1 : wr.frozen? ⟨g, j, none⟩ = false := HV.out.free (by omega)
          have hf2 : wr.frozen? ⟨g, m, none⟩ = false := HV.out.free (by omega)
          have HM := hid_mk hm
          clear HJ hm
          generalize dj[j]! = x at *
          generalize dj[m]! = y at *
          go_upto_region 5 with (fail)
          go_region_held3 (fun w' => w'.cell? ⟨g, j, none⟩ = some (.int .u32 x) ∧ w'.cell? ⟨g, m, none⟩ = some (.int .u32 y))
            (first | with_reducible exact gd)
            (first | (go_at_call 39; with_reducible refine (HLS.out _).mono ?_; rintro e wa ⟨rfl, rfl⟩))
          have HV2 : Hid (SW w g dj wr.drew) := HV.out.drewN 1
          clear HLS
          by_cases hxy : x < y
          · have hd3 : decide (x < y) = true := decide_eq_true hxy
            have HR2 := hid_mk (HNX.out hxy)
            clear gd
            rw [hd3]
            clear HNX HNS hxy hd3
            go_upto_region 7 with (fail)
            go_region
            all_goals go_wp2
            exact ⟨⟨m, swp dj j m, by have := HM.out; omega, rfl, by rw [size_swp]; exact hdj, HR2, ((HSW.out _ HV.out).drewN 2 : SW _ _ _ _)⟩, by have := HM.out; simp only [intOf]; omega⟩
          · have hd3 : decide (x < y) = false := decide_eq_false hxy
            have HR2 := hid_mk (HNS.out (by omega))
            rw [hd3]
            clear HNX HNS HSW hxy gd hd3
            go_wp2
            exact ⟨⟨i + 1, R, by omega, by omega, by go_num, by rw [← HR2.out]; exact hdj, HE1, by rw [← HR2.out]; exact HV2⟩, by simp only [intOf]; omega⟩
        · have HZ : Hid (dj = R) := by
            rw [Hid, ← HJ.out, insInner_stop fun h => hja h.1]
          have hd1 : decide ((a : Int) < (j : Int)) = false := decide_eq_false (by omega)
          clear HJ
          go_upto_region 5 with (fail)
          go_quiet (fail)
          go_wp2
          exact ⟨⟨i + 1, R, by omega, by omega, by go_num, by rw [← HZ.out]; exact hdj, HE1, by rw [← HZ.out]; exact HV.out.drewN _⟩, by simp only [intOf]; omega⟩
    · have HE1 : Hid (dk = D) := by
        have h := HE.out
        rw [insOuter, if_neg hil] at h
        exact h
      clear HE
      go_wp2
      exact bodyPost_end (v := .tuple #[]) (by simp [results, Try.results33, go_sem]) rfl ⟨rfl, by rw [← HE1.out]; exact HW.out⟩
end Go.Proofs.Ytdiljkmlneeboaa
