/- slices.Sort of keys: down the heap. -/
import Derived.Test.YtdiljkmlneeboaaSo0
namespace Go.Proofs.Ytdiljkmlneeboaa
open Go.RowKit Go.Sort
set_option maxRecDepth 100000

/-- The child that is looked at. -/
def kid (hi first r : Nat) (d : Array Int) : Nat := if 2 * r + 2 < hi ∧ d[first + (2 * r + 1)]! < d[first + (2 * r + 2)]! then 2 * r + 2 else 2 * r + 1
theorem kid_lt {hi first r : Nat} {d : Array Int} (h : 2 * r + 1 < hi) : kid hi first r d < hi := by
  unfold kid
  split
  · rename_i h1; exact h1.1
  · exact h
theorem sift_stop {hi first r : Nat} {d : Array Int} (h : hi ≤ 2 * r + 1) : siftDown ltInt hi first r d = d := by
  rw [siftDown, dif_pos h]
theorem sift_step {hi first r : Nat} {d : Array Int} (h : 2 * r + 1 < hi) : siftDown ltInt hi first r d = if d[first + r]! < d[first + kid hi first r d]! then siftDown ltInt hi first (kid hi first r d) (swp d (first + r) (first + kid hi first r d)) else d := by
  rw [siftDown, dif_neg (by omega)]
  unfold kid
  by_cases h1 : 2 * r + 2 < hi ∧ d[first + (2 * r + 1)]! < d[first + (2 * r + 2)]!
  · have e1 : (decide (2 * r + 1 + 1 < hi) && ltInt d[first + (2 * r + 1)]! d[first + (2 * r + 1) + 1]!) = true := by
      rw [Bool.and_eq_true]
      exact ⟨decide_eq_true h1.1, decide_eq_true h1.2⟩
    rw [if_pos e1, if_pos h1]
    by_cases h2 : d[first + r]! < d[first + (2 * r + 2)]!
    · have e2 : ¬ (!ltInt d[first + r]! d[first + (2 * r + 2)]!) = true := by simp [ltInt, h2]
      rw [if_neg e2, if_pos h2, dif_pos h1.1]
    · have e2 : (!ltInt d[first + r]! d[first + (2 * r + 2)]!) = true := by simp only [ltInt]; rw [decide_eq_false h2]; rfl
      rw [if_pos e2, if_neg h2]
  · have e1 : ¬ (decide (2 * r + 1 + 1 < hi) && ltInt d[first + (2 * r + 1)]! d[first + (2 * r + 1) + 1]!) = true := by
      rw [Bool.and_eq_true]
      exact fun hh => h1 ⟨of_decide_eq_true hh.1, of_decide_eq_true hh.2⟩
    rw [if_neg e1, if_neg h1]
    by_cases h2 : d[first + r]! < d[first + (2 * r + 1)]!
    · have e2 : ¬ (!ltInt d[first + r]! d[first + (2 * r + 1)]!) = true := by simp [ltInt, h2]
      rw [if_neg e2, if_pos h2]
    · have e2 : (!ltInt d[first + r]! d[first + (2 * r + 1)]!) = true := by simp only [ltInt]; rw [decide_eq_false h2]; rfl
      rw [if_pos e2, if_neg h2]

set_option maxHeartbeats 4000000 in
theorem sift_any {w : World} {g cap lo hi first : Nat} {d : Array Int} (hd : SW w g d w) (hl : lo ≤ d.size) (hb : first + hi ≤ d.size) (hsz : d.size ≤ 1000000) :
    Calls Try.prog 44 #[.slice (some ⟨g, 0, none⟩) d.size cap, .int .i64 (lo : Int), .int .i64 (hi : Int), .int .i64 (first : Int)] w fun e w' => e = .returned (.tuple #[]) ∧ SW w g (Sort.siftDown ltInt hi first lo d) w' := by
  have HD := hid_mk hd
  have HE0 : Hid (Sort.siftDown ltInt hi first lo d = Sort.siftDown ltInt hi first lo d) := rfl
  obtain ⟨D, hD⟩ : ∃ D, D = Sort.siftDown ltInt hi first lo d := ⟨_, rfl⟩
  rw [← hD]
  have HE1 : Hid (Sort.siftDown ltInt hi first lo d = D) := hD.symm
  clear hd HE0 hD
  go_enter Try.func44, Try.ntmps44
  go_wp2
  go_loopw [8] (fun a8 wq => ∃ (r : Nat) (dk : Array Int), r ≤ d.size ∧ a8 = .int .i64 (r : Int) ∧ dk.size = d.size ∧ Hid (Sort.siftDown ltInt hi first r dk = D) ∧ Hid (SW w g dk wq)) (fun a8 _ => d.size + 1 - (intOf a8).toNat)
  case atStart => exact ⟨lo, d, hl, rfl, rfl, HE1, HD⟩
  case round =>
    obtain ⟨r, dk, hrl, rfl, hdk, HE, HW⟩ := hrel
    clear HD HE1
    obtain ⟨r2, hr2⟩ : ∃ r2, r2 = 2 * r := ⟨_, rfl⟩
    obtain ⟨c1, hc1⟩ : ∃ c1, c1 = 2 * r + 1 := ⟨_, rfl⟩
    obtain ⟨c2, hc2⟩ : ∃ c2, c2 = 2 * r + 2 := ⟨_, rfl⟩
    have hw1 : IntKind.i64.wrap (2 * (r : Int)) = (r2 : Int) := by rw [IntKind.wrap_i64]; omega
    have hw2 : IntKind.i64.wrap ((r2 : Int) + 1) = (c1 : Int) := by rw [IntKind.wrap_i64]; omega
    have hw3 : IntKind.i64.wrap ((c1 : Int) + 1) = (c2 : Int) := by rw [IntKind.wrap_i64]; omega
    by_cases hc : hi ≤ c1
    · have HZ : Hid (dk = D) := by rw [Hid, ← HE.out, sift_stop (by omega)]
      have hd1 : decide ((hi : Int) ≤ (c1 : Int)) = true := decide_eq_true (by omega)
      clear HE hr2 hc1 hc2
      go_wp2
      exact bodyPost_end (v := .tuple #[]) (by simp [results, Try.results44, go_sem]) rfl ⟨rfl, by rw [← HZ.out]; exact HW.out⟩
    · have hd1 : decide ((hi : Int) ≤ (c1 : Int)) = false := decide_eq_false (by omega)
      have HS := hid_mk (sift_step (first := first) (d := dk) (r := r) (hi := hi) (by omega))
      have hkl := kid_lt (first := first) (d := dk) (r := r) (hi := hi) (by omega)
      have HKD : Hid (kid hi first r dk = if c2 < hi ∧ dk[first + c1]! < dk[first + c2]! then c2 else c1) := by rw [Hid, hc1, hc2]; rfl
      have hkr : r < kid hi first r dk := by unfold kid; split <;> omega
      obtain ⟨kc, hkc⟩ : ∃ kc, kc = kid hi first r dk := ⟨_, rfl⟩
      rw [← hkc] at HS hkl HKD hkr
      obtain ⟨f1, hf1⟩ : ∃ f1, f1 = first + c1 := ⟨_, rfl⟩
      obtain ⟨f2, hf2⟩ : ∃ f2, f2 = first + c2 := ⟨_, rfl⟩
      obtain ⟨fr, hfr⟩ : ∃ fr, fr = first + r := ⟨_, rfl⟩
      obtain ⟨fk, hfk⟩ : ∃ fk, fk = first + kc := ⟨_, rfl⟩
      have hw4 : IntKind.i64.wrap ((first : Int) + (c1 : Int)) = (f1 : Int) := by rw [IntKind.wrap_i64]; omega
      have hw5 : IntKind.i64.wrap ((f1 : Int) + 1) = (f2 : Int) := by rw [IntKind.wrap_i64]; omega
      have hw6 : IntKind.i64.wrap ((first : Int) + (r : Int)) = (fr : Int) := by rw [IntKind.wrap_i64]; omega
      have hw7 : IntKind.i64.wrap ((first : Int) + (kc : Int)) = (fk : Int) := by rw [IntKind.wrap_i64]; omega
      rw [← hf1, ← hf2] at HKD
      rw [HE.out, ← hfr, ← hfk] at HS
      have b1 : f1 < d.size := by omega
      have b3 : fr < d.size := by omega
      have b4 : fk < d.size := by omega
      have b5 : fr ≠ fk := by omega
      have HB2 : Hid (c2 < hi → f2 < d.size) := fun _ => by omega
      have HKK : Hid (kc < hi ∧ r < kc) := ⟨hkl, hkr⟩
      clear hkc hf1 hf2 hfr hfk hr2 hc1 hc2 HE hkl hkr
      go_upto_region 6 with (fail)
      have q1 := HW.out.cell (j := f1) (by omega)
      go_cut [36] (fun s36 wx => s36 = .bool (decide (c2 < hi ∧ dk[f1]! < dk[f2]!)) ∧ Hid (SW w g dk wx))
      case first =>
        clear HS HKD
        by_cases h2 : c2 < hi
        · have b2 := HB2.out h2
          have q2 := HW.out.cell (j := f2) (by omega)
          have HLS : Hid (∀ W, Calls Try.prog 39 #[.int .u32 dk[f1]!, .int .u32 dk[f2]!] W fun e w' => e = .returned (.bool (decide (dk[f1]! < dk[f2]!))) ∧ w' = W) := fun W => less_any _ _ W
          have hd2 : decide ((c2 : Int) < (hi : Int)) = true := decide_eq_true (by omega)
          have HZ : Hid (decide (c2 < hi ∧ dk[f1]! < dk[f2]!) = decide (dk[f1]! < dk[f2]!)) := by
            rw [Hid]
            by_cases h : dk[f1]! < dk[f2]! <;> simp [h, h2]
          have gd : wr.drew.cell? ⟨g, f1, none⟩ = some (.int .u32 dk[f1]!) ∧ wr.drew.cell? ⟨g, f2, none⟩ = some (.int .u32 dk[f2]!) := ⟨q1, q2⟩
          generalize dk[f1]! = x at *
          generalize dk[f2]! = y at *
          go_region_held3 (fun w' => w'.cell? ⟨g, f1, none⟩ = some (.int .u32 x) ∧ w'.cell? ⟨g, f2, none⟩ = some (.int .u32 y))
            (first | with_reducible exact gd)
            (first | (go_at_call 39; with_reducible refine (HLS.out _).mono ?_; rintro e wa ⟨rfl, rfl⟩))
          go_wp2_with fail
          go_meet
          exact ⟨by rw [HZ.out], HW.out.drewN 1⟩
        · have hd2 : decide ((c2 : Int) < (hi : Int)) = false := decide_eq_false (by omega)
          have HZ : Hid (decide (c2 < hi ∧ dk[f1]! < dk[f2]!) = false) := decide_eq_false fun h => h2 h.1
          go_quiet (fail)
          go_wp2_with fail
          go_meet
          exact ⟨by rw [HZ.out], HW.out.drewN _⟩
      case rest =>
      obtain ⟨rfl, HW2⟩ := hcut
      clear q1 HW
      go_upto_if 36 with (fail)
      go_cut [9] (fun s9 wx => s9 = .int .i64 (kc : Int) ∧ wx = wc)
      case first =>
        clear HS
        by_cases h2 : c2 < hi ∧ dk[f1]! < dk[f2]!
        · have e1 : decide (c2 < hi ∧ dk[f1]! < dk[f2]!) = true := decide_eq_true h2
          have HK : Hid (kc = c2) := by rw [Hid, HKD.out, if_pos h2]
          rw [e1]
          clear HKD h2 e1
          go_wp2_with fail
          go_meet
          exact ⟨by rw [HK.out], rfl⟩
        · have e1 : decide (c2 < hi ∧ dk[f1]! < dk[f2]!) = false := decide_eq_false h2
          have HK : Hid (kc = c1) := by rw [Hid, HKD.out, if_neg h2]
          rw [e1]
          clear HKD h2 e1
          go_wp2_with fail
          go_meet
          exact ⟨by rw [HK.out], rfl⟩
      case rest =>
      obtain ⟨rfl, hwc⟩ := hcut
      rw [hwc]
      clear HKD hwc
      have q1 := HW2.out.cell (j := fr) (by omega)
      have q2 := HW2.out.cell (j := fk) (by omega)
      have HLS : Hid (∀ W, Calls Try.prog 39 #[.int .u32 dk[fr]!, .int .u32 dk[fk]!] W fun e w' => e = .returned (.bool (decide (dk[fr]! < dk[fk]!))) ∧ w' = W) := fun W => less_any _ _ W
      have q3 : ∀ W, SW w g dk W → (W.setCell ⟨g, fr, none⟩ (.int .u32 dk[fk]!)).cell? ⟨g, fk, none⟩ = some (.int .u32 dk[fk]!) := fun W h => by
        have := (h.set (i := fr) (by omega) dk[fk]!).cell (j := fk) (by simp; omega)
        rwa [getElem!_set_other dk fr fk _ (by omega)] at this
      have q3 := q3 _ HW2.out
      have hf1 := HW2.out.free (j := fr) (by omega)
      have hf2 := HW2.out.free (j := fk) (by omega)
      have HSW : Hid (∀ W, SW w g dk W → SW w g (swp dk fr fk) ((W.setCell ⟨g, fr, none⟩ (.int .u32 dk[fk]!)).setCell ⟨g, fk, none⟩ (.int .u32 dk[fr]!))) := fun W h => (h.set (by omega) _).set (by simp; omega) _
      have gd : ∀ W : World, W.cell? ⟨g, fr, none⟩ = some (.int .u32 dk[fr]!) → W.cell? ⟨g, fk, none⟩ = some (.int .u32 dk[fk]!) → W.drew.cell? ⟨g, fr, none⟩ = some (.int .u32 dk[fr]!) ∧ W.drew.cell? ⟨g, fk, none⟩ = some (.int .u32 dk[fk]!) := fun W h1 h2 => ⟨h1, h2⟩
      have gd := gd _ q1 q2
      generalize dk[fr]! = x at *
      generalize dk[fk]! = y at *
      go_upto_region 8 with (fail)
      go_region_held3 (fun w' => w'.cell? ⟨g, fr, none⟩ = some (.int .u32 x) ∧ w'.cell? ⟨g, fk, none⟩ = some (.int .u32 y))
        (first | with_reducible exact gd)
        (first | (go_at_call 39; with_reducible refine (HLS.out _).mono ?_; rintro e wa ⟨rfl, rfl⟩))
      clear HLS gd
      by_cases hxy : x < y
      · have hd3 : decide (x < y) = true := decide_eq_true hxy
        have HR2 : Hid (Sort.siftDown ltInt hi first kc (swp dk fr fk) = D) := by rw [Hid, HS.out, if_pos hxy]
        rw [hd3]
        clear HS hxy hd3
        go_upto_region 10 with (fail)
        go_region
        all_goals go_wp2
        exact ⟨⟨kc, swp dk fr fk, by have := HKK.out; omega, rfl, by rw [size_swp]; exact hdk, HR2, ((HSW.out _ HW2.out).drewN 2 : SW _ _ _ _)⟩, by have := HKK.out; simp only [intOf]; omega⟩
      · have hd3 : decide (x < y) = false := decide_eq_false hxy
        have HR2 : Hid (dk = D) := by rw [Hid, HS.out, if_neg hxy]
        rw [hd3]
        clear HS hxy hd3 HSW q1 q2 q3
        go_wp2
        exact bodyPost_ret (v := .tuple #[]) (by simp [results, Try.results44, go_sem]) rfl ⟨rfl, by rw [← HR2.out]; exact HW2.out.drewN 1⟩
end Go.Proofs.Ytdiljkmlneeboaa
