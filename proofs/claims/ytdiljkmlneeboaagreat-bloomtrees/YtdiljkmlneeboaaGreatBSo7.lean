/- slices.Sort of keys: the order; the row. slices.Sort of keys: the insertion sort. slices.Sort of keys: the reversal of a range. slices.Sort of keys: down the heap. slices.Sort of keys: the heap sort. slices.Sort of keys: two in order, the median. slices.Sort of keys: the median. slices.Sort of keys: those that are equal to the pivot, ahead. -/
import Derived.Test.YtdiljkmlneeboaaGreatBNef
namespace Go.Proofs.YtdiljkmlneeboaaGreat.B
open Go.RowKit Go.Lib Go.Sort
set_option maxRecDepth 100000

theorem less_any (x y : Int) (w : World) : Calls Tryz.prog 134 #[.int .u32 x, .int .u32 y] w fun e w' => e = .returned (.bool (decide (x < y))) ∧ w' = w := by
  go_enter Tryz.func134, Tryz.ntmps134
  go_wp2
  go_ret
  exact ⟨rfl, rfl⟩
/-- These keys lie in the block, and all other blocks are as they were. -/
structure SW (w : World) (g : Nat) (d : Array Int) (W : World) : Prop where
  row : Holds (Value.int .u32) W g 0 d
  keep : KeepX g w W
theorem SW.cell {w W : World} {g : Nat} {d : Array Int} (h : SW w g d W) {j : Nat} (hj : j < d.size) : W.cell? ⟨g, j, none⟩ = some (.int .u32 d[j]!) := by
  have := (h.row j hj).1
  rwa [Nat.zero_add] at this
theorem SW.free {w W : World} {g : Nat} {d : Array Int} (h : SW w g d W) {j : Nat} (hj : j < d.size) : W.frozen? ⟨g, j, none⟩ = false := by
  have := (h.row j hj).2
  rwa [Nat.zero_add] at this
theorem SW.drewN {w W : World} {g : Nat} {d : Array Int} (h : SW w g d W) (n : Nat) : SW w g d (W.drewN n) := ⟨h.row, ⟨h.keep.os, h.keep.tape, h.keep.output, h.keep.size, h.keep.block⟩⟩
theorem SW.set {w W : World} {g : Nat} {d : Array Int} (h : SW w g d W) {i : Nat} (hi : i < d.size) (x : Int) : SW w g (d.setIfInBounds i x) (W.setCell ⟨g, i, none⟩ (.int .u32 x)) := by
  refine ⟨fun j hj => ?_, h.keep.trans ⟨rfl, rfl, rfl, by simp, fun k _ hk => Below.heap_setCell _ _ _ _ hk⟩⟩
  have hj' : j < d.size := by simpa using hj
  obtain ⟨c, e, fr, hb, hcj⟩ := cells_of_cell? (h.row j hj').1
  rw [Nat.zero_add]
  have hbl : (W.setCell ⟨g, i, none⟩ (.int .u32 x)).heap[g]? = some (.cells (c.setIfInBounds i (.int .u32 x)) e fr) := by
    rw [setCell_eq]
    simp [mapBlock, Array.getElem?_modify, hb, onCells]
  have hfz : (W.setCell ⟨g, i, none⟩ (.int .u32 x)).frozen? ⟨g, j, none⟩ = false := by
    rw [setCell_eq, frozen?_mapBlock]
    exact h.free hj'
  refine ⟨?_, hfz⟩
  rw [Nat.zero_add] at hcj
  have hjc := (Array.getElem?_eq_some_iff.1 hcj).1
  simp only [World.cell?, hbl]
  by_cases hij : i = j
  · subst hij
    rw [getElem!_set_same d i x hi]
    simp [hjc]
  · rw [getElem!_set_other d i j x (fun e => hij e.symm)]
    simp only [Array.getElem?_setIfInBounds_ne hij]
    simpa using hcj
end Go.Proofs.YtdiljkmlneeboaaGreat.B
namespace Go.Proofs.YtdiljkmlneeboaaGreat.B
open Go.RowKit Go.Sort
set_option maxRecDepth 100000

theorem insInner_stop {a j : Nat} {d : Array Int} (h : ¬ (a < j ∧ d[j]! < d[j - 1]!)) : insInner ltInt a j d = d := by
  cases j with
  | zero => rfl
  | succ j =>
    rw [insInner, if_neg]
    intro hh
    rw [Bool.and_eq_true] at hh
    exact h ⟨of_decide_eq_true hh.1, of_decide_eq_true hh.2⟩
theorem insInner_go {a j : Nat} {d : Array Int} (h1 : a < j + 1) (h2 : d[j + 1]! < d[j]!) : insInner ltInt a (j + 1) d = insInner ltInt a j (swp d (j + 1) j) := by
  rw [insInner, if_pos]
  rw [Bool.and_eq_true]
  exact ⟨decide_eq_true h1, decide_eq_true h2⟩
theorem insInner_size (a : Nat) : ∀ (j : Nat) (d : Array Int), (insInner ltInt a j d).size = d.size
  | 0, d => rfl
  | j + 1, d => by
    rw [insInner]
    split
    · rw [insInner_size a j]; simp [swp]
    · rfl

set_option maxHeartbeats 4000000 in
theorem insertion_any {w : World} {g cap a b : Nat} {d : Array Int} (hd : SW w g d w) (ha : a ≤ d.size) (hb : b ≤ d.size) (hsz : d.size ≤ 1000000) :
    Calls Tryz.prog 128 #[.slice (some ⟨g, 0, none⟩) d.size cap, .int .i64 (a : Int), .int .i64 (b : Int)] w fun e w' => e = .returned (.tuple #[]) ∧ SW w g (Sort.insertionSort ltInt d a b) w' := by
  have HD := hid_mk hd
  have HE0 : Hid (insOuter ltInt a b (a + 1) d = Sort.insertionSort ltInt d a b) := rfl
  generalize Sort.insertionSort ltInt d a b = D at *
  clear hd
  go_enter Tryz.func128, Tryz.ntmps128
  go_wp2
  go_loopw [6] (fun a6 wq => ∃ (i : Nat) (dk : Array Int), a + 1 ≤ i ∧ i ≤ 1000001 ∧ a6 = .int .i64 (i : Int) ∧ dk.size = d.size ∧ Hid (insOuter ltInt a b i dk = D) ∧ Hid (SW w g dk wq)) (fun a6 _ => b + 2 - (intOf a6).toNat)
  case atStart => exact ⟨a + 1, d, Nat.le_refl _, by omega, by go_num, rfl, HE0, HD⟩
  case round =>
    obtain ⟨i, dk, hai, hib, rfl, hdk, HE, HW⟩ := hrel
    clear HD HE0
    by_cases hil : i < b
    · have HE1 : Hid (insOuter ltInt a b (i + 1) (insInner ltInt a i dk) = D) := by
        have h := HE.out
        rw [insOuter, if_pos hil] at h
        exact h
      have HSZ : Hid ((insInner ltInt a i dk).size = d.size) := by rw [Hid, insInner_size, hdk]
      have HEI : Hid (insInner ltInt a i dk = insInner ltInt a i dk) := rfl
      obtain ⟨R, hR⟩ : ∃ R, R = insInner ltInt a i dk := ⟨_, rfl⟩
      have HR : Hid (insInner ltInt a i dk = R) := hR.symm
      rw [HR.out] at HE1 HSZ
      clear HE HEI hR
      go_wp2
      go_loopw [7] (fun a7 wq => ∃ (j : Nat) (dj : Array Int), j ≤ i ∧ a7 = .int .i64 (j : Int) ∧ dj.size = d.size ∧ Hid (insInner ltInt a j dj = R) ∧ Hid (SW w g dj wq)) (fun a7 _ => (intOf a7).toNat + 1)
      case atStart => exact ⟨i, dk, Nat.le_refl _, rfl, hdk, HR, HW⟩
      case round =>
        obtain ⟨j, dj, hji, rfl, hdj, HJ, HV⟩ := hrel
        clear HR HW
        by_cases hja : a < j
        · obtain ⟨m, hm⟩ : ∃ m, j = m + 1 := ⟨j - 1, by omega⟩
          have q1 := HV.out.cell (j := j) (by omega)
          have q2 := HV.out.cell (j := m) (by omega)
          have HLS : Hid (∀ W, Calls Tryz.prog 134 #[.int .u32 dj[j]!, .int .u32 dj[m]!] W fun e w' => e = .returned (.bool (decide (dj[j]! < dj[m]!))) ∧ w' = W) := fun W => less_any _ _ W
          have hd1 : decide ((a : Int) < (j : Int)) = true := decide_eq_true (by omega)
          have hd2 : (a : Int) < (j : Int) := by omega
          have hj4 : IntKind.i64.wrap ((j : Int) - 1) = (m : Int) := by rw [IntKind.wrap_i64]; omega
          have b1 : (0 : Int) ≤ (j : Int) := by omega
          have b2 : (j : Int) < (d.size : Int) := by omega
          have b3 : (0 : Int) ≤ (m : Int) := by omega
          have b4 : (m : Int) < (d.size : Int) := by omega
          have b5 : j < d.size := by omega
          have b6 : m < d.size := by omega
          have gd : wr.drew.cell? ⟨g, j, none⟩ = some (.int .u32 dj[j]!) ∧ wr.drew.cell? ⟨g, m, none⟩ = some (.int .u32 dj[m]!) := ⟨q1, q2⟩
          have HNX : Hid (dj[j]! < dj[m]! → insInner ltInt a m (swp dj j m) = R) := fun h => by subst hm; rw [← HJ.out, insInner_go hja h]
          have HNS : Hid (¬ dj[j]! < dj[m]! → dj = R) := fun h => by subst hm; rw [← HJ.out, insInner_stop fun hh => h hh.2]
          have HSW : Hid (∀ W, SW w g dj W → SW w g (swp dj j m) ((W.setCell ⟨g, j, none⟩ (.int .u32 dj[m]!)).setCell ⟨g, m, none⟩ (.int .u32 dj[j]!))) := fun W h => (h.set (by omega) _).set (by simp; omega) _
          have q3 : (wr.setCell ⟨g, j, none⟩ (.int .u32 dj[m]!)).cell? ⟨g, m, none⟩ = some (.int .u32 dj[m]!) := by
            have := (HV.out.set (i := j) (by omega) dj[m]!).cell (j := m) (by simp; omega)
            rwa [getElem!_set_other dj j m _ (by omega)] at this
          have hf1 : wr.frozen? ⟨g, j, none⟩ = false := HV.out.free (by omega)
          have hf2 : wr.frozen? ⟨g, m, none⟩ = false := HV.out.free (by omega)
          have HM := hid_mk hm
          clear HJ hm
          generalize dj[j]! = x at *
          generalize dj[m]! = y at *
          go_upto_region 5 with (fail)
          go_region_held3 (fun w' => w'.cell? ⟨g, j, none⟩ = some (.int .u32 x) ∧ w'.cell? ⟨g, m, none⟩ = some (.int .u32 y))
            (first | with_reducible exact gd)
            (first | (go_at_call 134; with_reducible refine (HLS.out _).mono ?_; rintro e wa ⟨rfl, rfl⟩))
          have HV2 : Hid (SW w g dj wr.drew) := HV.out.drewN 1
          clear HLS
          by_cases hxy : x < y
          · have hd3 : decide (x < y) = true := decide_eq_true hxy
            have HR2 := hid_mk (HNX.out hxy)
            clear gd
            rw [hd3]
            clear HNX HNS hxy hd3
            go_upto_region 7 with (fail)
            go_region
            all_goals go_wp2
            exact ⟨⟨m, swp dj j m, by have := HM.out; omega, rfl, by rw [size_swp]; exact hdj, HR2, ((HSW.out _ HV.out).drewN 2 : SW _ _ _ _)⟩, by have := HM.out; simp only [intOf]; omega⟩
          · have hd3 : decide (x < y) = false := decide_eq_false hxy
            have HR2 := hid_mk (HNS.out (by omega))
            rw [hd3]
            clear HNX HNS HSW hxy gd hd3
            go_wp2
            exact ⟨⟨i + 1, R, by omega, by omega, by go_num, by rw [← HR2.out]; exact hdj, HE1, by rw [← HR2.out]; exact HV2⟩, by simp only [intOf]; omega⟩
        · have HZ : Hid (dj = R) := by
            rw [Hid, ← HJ.out, insInner_stop fun h => hja h.1]
          have hd1 : decide ((a : Int) < (j : Int)) = false := decide_eq_false (by omega)
          clear HJ
          go_upto_region 5 with (fail)
          go_quiet (fail)
          go_wp2
          exact ⟨⟨i + 1, R, by omega, by omega, by go_num, by rw [← HZ.out]; exact hdj, HE1, by rw [← HZ.out]; exact HV.out.drewN _⟩, by simp only [intOf]; omega⟩
    · have HE1 : Hid (dk = D) := by
        have h := HE.out
        rw [insOuter, if_neg hil] at h
        exact h
      clear HE
      go_wp2
      exact bodyPost_end (v := .tuple #[]) (by simp [results, Tryz.results128, go_sem]) rfl ⟨rfl, by rw [← HE1.out]; exact HW.out⟩
end Go.Proofs.YtdiljkmlneeboaaGreat.B
namespace Go.Proofs.YtdiljkmlneeboaaGreat.B
open Go.RowKit Go.Sort
set_option maxRecDepth 100000

set_option maxHeartbeats 4000000 in
theorem reverse_any {w : World} {g cap a b : Nat} {d : Array Int} (hd : SW w g d w) (hab : a < b) (hb : b ≤ d.size) (hsz : d.size ≤ 1000000) :
    Calls Tryz.prog 132 #[.slice (some ⟨g, 0, none⟩) d.size cap, .int .i64 (a : Int), .int .i64 (b : Int)] w fun e w' => e = .returned (.tuple #[]) ∧ SW w g (Sort.reverseRange d a b) w' := by
  have HD := hid_mk hd
  have HE0 : Hid (reverseLoop a (b - 1) d = Sort.reverseRange d a b) := rfl
  have hb4 : IntKind.i64.wrap ((b : Int) - 1) = ((b - 1 : Nat) : Int) := by rw [IntKind.wrap_i64]; omega
  generalize Sort.reverseRange d a b = D at *
  obtain ⟨b', hb'⟩ : ∃ b', b' = b - 1 := ⟨_, rfl⟩
  rw [← hb'] at hb4 HE0
  have hbb : b' < d.size := by omega
  have hab' : a ≤ b' := by omega
  clear hd hb'
  go_enter Tryz.func132, Tryz.ntmps132
  go_wp2
  go_loopw [6, 7] (fun a6 a7 wq => ∃ (i j : Nat) (dk : Array Int), i ≤ d.size ∧ j < d.size ∧ a6 = .int .i64 (i : Int) ∧ a7 = .int .i64 (j : Int) ∧ dk.size = d.size ∧ Hid (reverseLoop i j dk = D) ∧ Hid (SW w g dk wq)) (fun a6 _ _ => d.size + 1 - (intOf a6).toNat)
  case atStart => exact ⟨a, b', d, by omega, hbb, rfl, rfl, rfl, HE0, HD⟩
  case round =>
    obtain ⟨i, j, dk, hil, hjl, rfl, rfl, hdk, HE, HW⟩ := hrel
    clear HD HE0
    by_cases hij : i < j
    · obtain ⟨m, hm⟩ : ∃ m, m = j - 1 := ⟨_, rfl⟩
      have q1 := HW.out.cell (j := i) (by omega)
      have q2 := HW.out.cell (j := j) (by omega)
      have hj4 : IntKind.i64.wrap ((j : Int) - 1) = (m : Int) := by rw [IntKind.wrap_i64]; omega
      have hd1 : decide ((i : Int) < (j : Int)) = true := decide_eq_true (by omega)
      have b1 : i < d.size := by omega
      have q3 : (wr.setCell ⟨g, i, none⟩ (.int .u32 dk[j]!)).cell? ⟨g, j, none⟩ = some (.int .u32 dk[j]!) := by
        have := (HW.out.set (i := i) (by omega) dk[j]!).cell (j := j) (by simp; omega)
        rwa [getElem!_set_other dk i j _ (by omega)] at this
      have hf1 : wr.frozen? ⟨g, i, none⟩ = false := HW.out.free (by omega)
      have hf2 : wr.frozen? ⟨g, j, none⟩ = false := HW.out.free (by omega)
      have HR2 : Hid (reverseLoop (i + 1) m (swp dk i j) = D) := by
        have h := HE.out
        rw [reverseLoop, if_pos hij, ← hm] at h
        exact h
      have HSW : Hid (∀ W, SW w g dk W → SW w g (swp dk i j) ((W.setCell ⟨g, i, none⟩ (.int .u32 dk[j]!)).setCell ⟨g, j, none⟩ (.int .u32 dk[i]!))) := fun W h => (h.set (by omega) _).set (by simp; omega) _
      have HM := hid_mk hm
      clear HE hm
      generalize dk[i]! = x at *
      generalize dk[j]! = y at *
      go_upto_region 5 with (fail)
      go_region
      all_goals go_wp2
      exact ⟨⟨i + 1, m, swp dk i j, by omega, by have := HM.out; omega, by go_num, rfl, by rw [size_swp]; exact hdk, HR2, ((HSW.out _ HW.out).drewN 1 : SW _ _ _ _)⟩, by simp only [intOf]; omega⟩
    · have HZ : Hid (dk = D) := by
        have h := HE.out
        rw [reverseLoop, if_neg hij] at h
        exact h
      have hd1 : decide ((i : Int) < (j : Int)) = false := decide_eq_false (by omega)
      clear HE
      go_wp2
      exact bodyPost_end (v := .tuple #[]) (by simp [results, Tryz.results132, go_sem]) rfl ⟨rfl, by rw [← HZ.out]; exact HW.out⟩
end Go.Proofs.YtdiljkmlneeboaaGreat.B
namespace Go.Proofs.YtdiljkmlneeboaaGreat.B
open Go.RowKit Go.Sort
set_option maxRecDepth 100000

/-- The child that is looked at. -/
def kid (hi first r : Nat) (d : Array Int) : Nat := if 2 * r + 2 < hi ∧ d[first + (2 * r + 1)]! < d[first + (2 * r + 2)]! then 2 * r + 2 else 2 * r + 1
theorem kid_lt {hi first r : Nat} {d : Array Int} (h : 2 * r + 1 < hi) : kid hi first r d < hi := by
  unfold kid
  split
  · rename_i h1; exact h1.1
  · exact h
theorem sift_stop {hi first r : Nat} {d : Array Int} (h : hi ≤ 2 * r + 1) : siftDown ltInt hi first r d = d := by
  rw [siftDown, dif_pos h]
theorem sift_step {hi first r : Nat} {d : Array Int} (h : 2 * r + 1 < hi) : siftDown ltInt hi first r d = if d[first + r]! < d[first + kid hi first r d]! then siftDown ltInt hi first (kid hi first r d) (swp d (first + r) (first + kid hi first r d)) else d := by
  rw [siftDown, dif_neg (by omega)]
  unfold kid
  by_cases h1 : 2 * r + 2 < hi ∧ d[first + (2 * r + 1)]! < d[first + (2 * r + 2)]!
  · have e1 : (decide (2 * r + 1 + 1 < hi) && ltInt d[first + (2 * r + 1)]! d[first + (2 * r + 1) + 1]!) = true := by
      rw [Bool.and_eq_true]
      exact ⟨decide_eq_true h1.1, decide_eq_true h1.2⟩
    rw [if_pos e1, if_pos h1]
    by_cases h2 : d[first + r]! < d[first + (2 * r + 2)]!
    · have e2 : ¬ (!ltInt d[first + r]! d[first + (2 * r + 2)]!) = true := by simp [ltInt, h2]
      rw [if_neg e2, if_pos h2, dif_pos h1.1]
    · have e2 : (!ltInt d[first + r]! d[first + (2 * r + 2)]!) = true := by simp only [ltInt]; rw [decide_eq_false h2]; rfl
      rw [if_pos e2, if_neg h2]
  · have e1 : ¬ (decide (2 * r + 1 + 1 < hi) && ltInt d[first + (2 * r + 1)]! d[first + (2 * r + 1) + 1]!) = true := by
      rw [Bool.and_eq_true]
      exact fun hh => h1 ⟨of_decide_eq_true hh.1, of_decide_eq_true hh.2⟩
    rw [if_neg e1, if_neg h1]
    by_cases h2 : d[first + r]! < d[first + (2 * r + 1)]!
    · have e2 : ¬ (!ltInt d[first + r]! d[first + (2 * r + 1)]!) = true := by simp [ltInt, h2]
      rw [if_neg e2, if_pos h2]
    · have e2 : (!ltInt d[first + r]! d[first + (2 * r + 1)]!) = true := by simp only [ltInt]; rw [decide_eq_false h2]; rfl
      rw [if_pos e2, if_neg h2]

set_option maxHeartbeats 4000000 in
theorem sift_any {w : World} {g cap lo hi first : Nat} {d : Array Int} (hd : SW w g d w) (hl : lo ≤ d.size) (hb : first + hi ≤ d.size) (hsz : d.size ≤ 1000000) :
    Calls Tryz.prog 146 #[.slice (some ⟨g, 0, none⟩) d.size cap, .int .i64 (lo : Int), .int .i64 (hi : Int), .int .i64 (first : Int)] w fun e w' => e = .returned (.tuple #[]) ∧ SW w g (Sort.siftDown ltInt hi first lo d) w' := by
  have HD := hid_mk hd
  have HE0 : Hid (Sort.siftDown ltInt hi first lo d = Sort.siftDown ltInt hi first lo d) := rfl
  obtain ⟨D, hD⟩ : ∃ D, D = Sort.siftDown ltInt hi first lo d := ⟨_, rfl⟩
  rw [← hD]
  have HE1 : Hid (Sort.siftDown ltInt hi first lo d = D) := hD.symm
  clear hd HE0 hD
  go_enter Tryz.func146, Tryz.ntmps146
  go_wp2
  go_loopw [8] (fun a8 wq => ∃ (r : Nat) (dk : Array Int), r ≤ d.size ∧ a8 = .int .i64 (r : Int) ∧ dk.size = d.size ∧ Hid (Sort.siftDown ltInt hi first r dk = D) ∧ Hid (SW w g dk wq)) (fun a8 _ => d.size + 1 - (intOf a8).toNat)
  case atStart => exact ⟨lo, d, hl, rfl, rfl, HE1, HD⟩
  case round =>
    obtain ⟨r, dk, hrl, rfl, hdk, HE, HW⟩ := hrel
    clear HD HE1
    obtain ⟨r2, hr2⟩ : ∃ r2, r2 = 2 * r := ⟨_, rfl⟩
    obtain ⟨c1, hc1⟩ : ∃ c1, c1 = 2 * r + 1 := ⟨_, rfl⟩
    obtain ⟨c2, hc2⟩ : ∃ c2, c2 = 2 * r + 2 := ⟨_, rfl⟩
    have hw1 : IntKind.i64.wrap (2 * (r : Int)) = (r2 : Int) := by rw [IntKind.wrap_i64]; omega
    have hw2 : IntKind.i64.wrap ((r2 : Int) + 1) = (c1 : Int) := by rw [IntKind.wrap_i64]; omega
    have hw3 : IntKind.i64.wrap ((c1 : Int) + 1) = (c2 : Int) := by rw [IntKind.wrap_i64]; omega
    by_cases hc : hi ≤ c1
    · have HZ : Hid (dk = D) := by rw [Hid, ← HE.out, sift_stop (by omega)]
      have hd1 : decide ((hi : Int) ≤ (c1 : Int)) = true := decide_eq_true (by omega)
      clear HE hr2 hc1 hc2
      go_wp2
      exact bodyPost_end (v := .tuple #[]) (by simp [results, Tryz.results146, go_sem]) rfl ⟨rfl, by rw [← HZ.out]; exact HW.out⟩
    · have hd1 : decide ((hi : Int) ≤ (c1 : Int)) = false := decide_eq_false (by omega)
      have HS := hid_mk (sift_step (first := first) (d := dk) (r := r) (hi := hi) (by omega))
      have hkl := kid_lt (first := first) (d := dk) (r := r) (hi := hi) (by omega)
      have HKD : Hid (kid hi first r dk = if c2 < hi ∧ dk[first + c1]! < dk[first + c2]! then c2 else c1) := by rw [Hid, hc1, hc2]; rfl
      have hkr : r < kid hi first r dk := by unfold kid; split <;> omega
      obtain ⟨kc, hkc⟩ : ∃ kc, kc = kid hi first r dk := ⟨_, rfl⟩
      rw [← hkc] at HS hkl HKD hkr
      obtain ⟨f1, hf1⟩ : ∃ f1, f1 = first + c1 := ⟨_, rfl⟩
      obtain ⟨f2, hf2⟩ : ∃ f2, f2 = first + c2 := ⟨_, rfl⟩
      obtain ⟨fr, hfr⟩ : ∃ fr, fr = first + r := ⟨_, rfl⟩
      obtain ⟨fk, hfk⟩ : ∃ fk, fk = first + kc := ⟨_, rfl⟩
      have hw4 : IntKind.i64.wrap ((first : Int) + (c1 : Int)) = (f1 : Int) := by rw [IntKind.wrap_i64]; omega
      have hw5 : IntKind.i64.wrap ((f1 : Int) + 1) = (f2 : Int) := by rw [IntKind.wrap_i64]; omega
      have hw6 : IntKind.i64.wrap ((first : Int) + (r : Int)) = (fr : Int) := by rw [IntKind.wrap_i64]; omega
      have hw7 : IntKind.i64.wrap ((first : Int) + (kc : Int)) = (fk : Int) := by rw [IntKind.wrap_i64]; omega
      rw [← hf1, ← hf2] at HKD
      rw [HE.out, ← hfr, ← hfk] at HS
      have b1 : f1 < d.size := by omega
      have b3 : fr < d.size := by omega
      have b4 : fk < d.size := by omega
      have b5 : fr ≠ fk := by omega
      have HB2 : Hid (c2 < hi → f2 < d.size) := fun _ => by omega
      have HKK : Hid (kc < hi ∧ r < kc) := ⟨hkl, hkr⟩
      clear hkc hf1 hf2 hfr hfk hr2 hc1 hc2 HE hkl hkr
      go_upto_region 6 with (fail)
      have q1 := HW.out.cell (j := f1) (by omega)
      go_cut [36] (fun s36 wx => s36 = .bool (decide (c2 < hi ∧ dk[f1]! < dk[f2]!)) ∧ Hid (SW w g dk wx))
      case first =>
        clear HS HKD
        by_cases h2 : c2 < hi
        · have b2 := HB2.out h2
          have q2 := HW.out.cell (j := f2) (by omega)
          have HLS : Hid (∀ W, Calls Tryz.prog 134 #[.int .u32 dk[f1]!, .int .u32 dk[f2]!] W fun e w' => e = .returned (.bool (decide (dk[f1]! < dk[f2]!))) ∧ w' = W) := fun W => less_any _ _ W
          have hd2 : decide ((c2 : Int) < (hi : Int)) = true := decide_eq_true (by omega)
          have HZ : Hid (decide (c2 < hi ∧ dk[f1]! < dk[f2]!) = decide (dk[f1]! < dk[f2]!)) := by
            rw [Hid]
            by_cases h : dk[f1]! < dk[f2]! <;> simp [h, h2]
          have gd : wr.drew.cell? ⟨g, f1, none⟩ = some (.int .u32 dk[f1]!) ∧ wr.drew.cell? ⟨g, f2, none⟩ = some (.int .u32 dk[f2]!) := ⟨q1, q2⟩
          generalize dk[f1]! = x at *
          generalize dk[f2]! = y at *
          go_region_held3 (fun w' => w'.cell? ⟨g, f1, none⟩ = some (.int .u32 x) ∧ w'.cell? ⟨g, f2, none⟩ = some (.int .u32 y))
            (first | with_reducible exact gd)
            (first | (go_at_call 134; with_reducible refine (HLS.out _).mono ?_; rintro e wa ⟨rfl, rfl⟩))
          go_wp2_with fail
          go_meet
          exact ⟨by rw [HZ.out], HW.out.drewN 1⟩
        · have hd2 : decide ((c2 : Int) < (hi : Int)) = false := decide_eq_false (by omega)
          have HZ : Hid (decide (c2 < hi ∧ dk[f1]! < dk[f2]!) = false) := decide_eq_false fun h => h2 h.1
          go_quiet (fail)
          go_wp2_with fail
          go_meet
          exact ⟨by rw [HZ.out], HW.out.drewN _⟩
      case rest =>
      obtain ⟨rfl, HW2⟩ := hcut
      clear q1 HW
      go_upto_if 36 with (fail)
      go_cut [9] (fun s9 wx => s9 = .int .i64 (kc : Int) ∧ wx = wc)
      case first =>
        clear HS
        by_cases h2 : c2 < hi ∧ dk[f1]! < dk[f2]!
        · have e1 : decide (c2 < hi ∧ dk[f1]! < dk[f2]!) = true := decide_eq_true h2
          have HK : Hid (kc = c2) := by rw [Hid, HKD.out, if_pos h2]
          rw [e1]
          clear HKD h2 e1
          go_wp2_with fail
          go_meet
          exact ⟨by rw [HK.out], rfl⟩
        · have e1 : decide (c2 < hi ∧ dk[f1]! < dk[f2]!) = false := decide_eq_false h2
          have HK : Hid (kc = c1) := by rw [Hid, HKD.out, if_neg h2]
          rw [e1]
          clear HKD h2 e1
          go_wp2_with fail
          go_meet
          exact ⟨by rw [HK.out], rfl⟩
      case rest =>
      obtain ⟨rfl, hwc⟩ := hcut
      rw [hwc]
      clear HKD hwc
      have q1 := HW2.out.cell (j := fr) (by omega)
      have q2 := HW2.out.cell (j := fk) (by omega)
      have HLS : Hid (∀ W, Calls Tryz.prog 134 #[.int .u32 dk[fr]!, .int .u32 dk[fk]!] W fun e w' => e = .returned (.bool (decide (dk[fr]! < dk[fk]!))) ∧ w' = W) := fun W => less_any _ _ W
      have q3 : ∀ W, SW w g dk W → (W.setCell ⟨g, fr, none⟩ (.int .u32 dk[fk]!)).cell? ⟨g, fk, none⟩ = some (.int .u32 dk[fk]!) := fun W h => by
        have := (h.set (i := fr) (by omega) dk[fk]!).cell (j := fk) (by simp; omega)
        rwa [getElem!_set_other dk fr fk _ (by omega)] at this
      have q3 := q3 _ HW2.out
      have hf1 := HW2.out.free (j := fr) (by omega)
      have hf2 := HW2.out.free (j := fk) (by omega)
      have HSW : Hid (∀ W, SW w g dk W → SW w g (swp dk fr fk) ((W.setCell ⟨g, fr, none⟩ (.int .u32 dk[fk]!)).setCell ⟨g, fk, none⟩ (.int .u32 dk[fr]!))) := fun W h => (h.set (by omega) _).set (by simp; omega) _
      have gd : ∀ W : World, W.cell? ⟨g, fr, none⟩ = some (.int .u32 dk[fr]!) → W.cell? ⟨g, fk, none⟩ = some (.int .u32 dk[fk]!) → W.drew.cell? ⟨g, fr, none⟩ = some (.int .u32 dk[fr]!) ∧ W.drew.cell? ⟨g, fk, none⟩ = some (.int .u32 dk[fk]!) := fun W h1 h2 => ⟨h1, h2⟩
      have gd := gd _ q1 q2
      generalize dk[fr]! = x at *
      generalize dk[fk]! = y at *
      go_upto_region 8 with (fail)
      go_region_held3 (fun w' => w'.cell? ⟨g, fr, none⟩ = some (.int .u32 x) ∧ w'.cell? ⟨g, fk, none⟩ = some (.int .u32 y))
        (first | with_reducible exact gd)
        (first | (go_at_call 134; with_reducible refine (HLS.out _).mono ?_; rintro e wa ⟨rfl, rfl⟩))
      clear HLS gd
      by_cases hxy : x < y
      · have hd3 : decide (x < y) = true := decide_eq_true hxy
        have HR2 : Hid (Sort.siftDown ltInt hi first kc (swp dk fr fk) = D) := by rw [Hid, HS.out, if_pos hxy]
        rw [hd3]
        clear HS hxy hd3
        go_upto_region 10 with (fail)
        go_region
        all_goals go_wp2
        exact ⟨⟨kc, swp dk fr fk, by have := HKK.out; omega, rfl, by rw [size_swp]; exact hdk, HR2, ((HSW.out _ HW2.out).drewN 2 : SW _ _ _ _)⟩, by have := HKK.out; simp only [intOf]; omega⟩
      · have hd3 : decide (x < y) = false := decide_eq_false hxy
        have HR2 : Hid (dk = D) := by rw [Hid, HS.out, if_neg hxy]
        rw [hd3]
        clear HS hxy hd3 HSW q1 q2 q3
        go_wp2
        exact bodyPost_ret (v := .tuple #[]) (by simp [results, Tryz.results146, go_sem]) rfl ⟨rfl, by rw [← HR2.out]; exact HW2.out.drewN 1⟩
end Go.Proofs.YtdiljkmlneeboaaGreat.B
namespace Go.Proofs.YtdiljkmlneeboaaGreat.B
open Go.RowKit Go.Sort
set_option maxRecDepth 100000

theorem SW.from {w W W' : World} {g : Nat} {d d' : Array Int} (h : SW w g d W) (k : SW W g d' W') : SW w g d' W' := ⟨k.row, h.keep.trans k.keep⟩
theorem SW.self {w W : World} {g : Nat} {d : Array Int} (h : SW w g d W) : SW W g d W := ⟨h.row, KeepX.of (Below.refl _ _)⟩
theorem sift_size (hi first : Nat) : ∀ (n r : Nat) (d : Array Int), hi - r ≤ n → (siftDown ltInt hi first r d).size = d.size
  | n, r, d, hn => by
    rcases Nat.lt_or_ge (2 * r + 1) hi with h | h
    · rw [sift_step h]
      split
      · have hk : r < kid hi first r d := by unfold kid; split <;> omega
        match n, hn with
        | 0, hn => omega
        | n + 1, hn =>
          rw [sift_size hi first n _ _ (by omega), size_swp]
      · rfl
    · rw [sift_stop h]

set_option maxHeartbeats 4000000 in
theorem heap_any {w : World} {g cap a b : Nat} {d : Array Int} (hd : SW w g d w) (hab : a < b) (hb : b ≤ d.size) (hsz : d.size ≤ 1000000) :
    Calls Tryz.prog 129 #[.slice (some ⟨g, 0, none⟩) d.size cap, .int .i64 (a : Int), .int .i64 (b : Int)] w fun e w' => e = .returned (.tuple #[]) ∧ SW w g (Sort.heapSort ltInt d a b) w' := by
  have HD := hid_mk hd
  obtain ⟨h, hh⟩ : ∃ h, h = b - a := ⟨_, rfl⟩
  obtain ⟨h0, hh0⟩ : ∃ h0, h0 = (h - 1) / 2 := ⟨_, rfl⟩
  have hw1 : IntKind.i64.wrap ((b : Int) - (a : Int)) = (h : Int) := by rw [IntKind.wrap_i64]; omega
  obtain ⟨h1, hh1⟩ : ∃ h1, h1 = h - 1 := ⟨_, rfl⟩
  have hw2 : IntKind.i64.wrap ((h : Int) - 1) = (h1 : Int) := by rw [IntKind.wrap_i64]; omega
  have hw3 : (h1 : Int).tdiv 2 = (h0 : Int) := by rw [Int.tdiv_eq_ediv_of_nonneg (by omega)]; omega
  have hw3' : (h1 : Int) / 2 = (h0 : Int) := by omega
  obtain ⟨R1, hR1⟩ : ∃ R1, R1 = heapBuild ltInt h a (h0 + 1) d := ⟨_, rfl⟩
  obtain ⟨D, hD⟩ : ∃ D, D = heapPop ltInt a h R1 := ⟨_, rfl⟩
  have HG : Hid (Sort.heapSort ltInt d a b = D) := by rw [Hid, hD, hR1, hh0, hh]; rfl
  rw [HG.out]
  have HE1 : Hid (heapBuild ltInt h a (h0 + 1) d = R1) := hR1.symm
  have HE2 : Hid (heapPop ltInt a h R1 = D) := hD.symm
  have HN : Hid (h1 + 1 = h ∧ h0 + 1 ≤ h ∧ a + h ≤ d.size) := by rw [Hid]; omega
  have hah : a + h ≤ d.size := by omega
  have hh0b : h0 ≤ 1000000 := by omega
  have hh1b : h1 ≤ 1000000 := by omega
  have hw5 : IntKind.i64.wrap (h0 : Int) = (h0 : Int) := by rw [IntKind.wrap_i64]; omega
  clear hd hh hh0 hh1 hR1 hD HG
  go_enter Tryz.func129, Tryz.ntmps129
  go_wp2
  go_loopw [9] (fun a9 wq => ∃ (k : Nat) (v : Int) (dk : Array Int), v = (k : Int) - 1 ∧ k ≤ h ∧ a9 = .int .i64 v ∧ dk.size = d.size ∧ Hid (heapBuild ltInt h a k dk = R1) ∧ Hid (SW w g dk wq)) (fun a9 _ => (intOf a9 + 1).toNat)
  case atStart => exact ⟨h0 + 1, (h0 : Int), d, by omega, by have := HN.out; omega, rfl, rfl, HE1, HD⟩
  case round =>
    obtain ⟨k, v, dk, hv, hk, rfl, hdk, HE, HW⟩ := hrel
    clear HD HE1
    cases k with
    | zero =>
      obtain rfl : v = -1 := by omega
      have HZ : Hid (dk = R1) := HE.out
      clear HE hv
      go_wp2
      go_loopw [10] (fun a10 wq => ∃ (k : Nat) (v : Int) (dj : Array Int), v = (k : Int) - 1 ∧ k ≤ h ∧ a10 = .int .i64 v ∧ dj.size = d.size ∧ Hid (heapPop ltInt a k dj = D) ∧ Hid (SW w g dj wq)) (fun a10 _ => (intOf a10 + 1).toNat)
      case atStart => exact ⟨h, (h1 : Int), dk, by have := HN.out; omega, Nat.le_refl _, rfl, hdk, by rw [HZ.out]; exact HE2, HW⟩
      case round =>
        obtain ⟨k, v, dj, hv, hk, rfl, hdj, HE, HV⟩ := hrel
        clear HW HZ HE2
        cases k with
        | zero =>
          obtain rfl : v = -1 := by omega
          have HZ : Hid (dj = D) := HE.out
          clear HE hv
          go_wp2
          exact bodyPost_end (v := .tuple #[]) (by simp [results, Tryz.results129, go_sem]) rfl ⟨rfl, by rw [← HZ.out]; exact HV.out⟩
        | succ k =>
          obtain rfl : v = (k : Int) := by omega
          obtain ⟨fk, hfk⟩ : ∃ fk, fk = a + k := ⟨_, rfl⟩
          have hw6 : IntKind.i64.wrap ((a : Int) + (k : Int)) = (fk : Int) := by rw [IntKind.wrap_i64]; omega
          have b1 : a < d.size := by omega
          have b2 : fk < d.size := by omega
          obtain ⟨v', hv'⟩ : ∃ v' : Int, v' = (k : Int) - 1 := ⟨_, rfl⟩
          have hw4 : IntKind.i64.wrap ((k : Int) - 1) = v' := by rw [IntKind.wrap_i64]; omega
          have HE3 : Hid (heapPop ltInt a k (siftDown ltInt k a 0 (swp dj a fk)) = D) := by rw [Hid, hfk]; exact HE.out
          have HSZ : Hid ((siftDown ltInt k a 0 (swp dj a fk)).size = d.size) := by rw [Hid, sift_size k a _ 0 _ (Nat.le_refl _), size_swp, hdj]
          have HSI : Hid (∀ W, SW w g (swp dj a fk) W → Calls Tryz.prog 146 #[.slice (some ⟨g, 0, none⟩) d.size cap, .int .i64 0, .int .i64 (k : Int), .int .i64 (a : Int)] W fun e w' => e = .returned (.tuple #[]) ∧ SW w g (siftDown ltInt k a 0 (swp dj a fk)) w') := fun W hW => by
            have h := sift_any (cap := cap) (lo := 0) (hi := k) (first := a) hW.self (by omega) (by rw [size_swp]; omega) (by rw [size_swp]; omega)
            rw [size_swp, hdj] at h
            exact h.mono fun e w' hh => ⟨hh.1, hW.from hh.2⟩
          have q1 := HV.out.cell (j := a) (by omega)
          have q2 := HV.out.cell (j := fk) (by omega)
          have q3 : ∀ W, SW w g dj W → (W.setCell ⟨g, a, none⟩ (.int .u32 dj[fk]!)).cell? ⟨g, fk, none⟩ = some (.int .u32 dj[fk]!) := fun W h => by
            have hc := (h.set (i := a) (by omega) dj[fk]!).cell (j := fk) (by simp; omega)
            by_cases e : fk = a
            · rw [e] at hc ⊢
              rwa [getElem!_set_same dj a _ (by omega)] at hc
            · rwa [getElem!_set_other dj a fk _ e] at hc
          have q3 := q3 _ HV.out
          have hf1 := HV.out.free (j := a) (by omega)
          have hf2 := HV.out.free (j := fk) (by omega)
          have HSW : Hid (∀ W, SW w g dj W → SW w g (swp dj a fk) ((W.setCell ⟨g, a, none⟩ (.int .u32 dj[fk]!)).setCell ⟨g, fk, none⟩ (.int .u32 dj[a]!))) := fun W h => (h.set (by omega) _).set (by simp; omega) _
          have HVV := hid_mk hv'
          clear HE hv hv' hfk
          generalize siftDown ltInt k a 0 (swp dj a fk) = X at *
          generalize swp dj a fk = Y at *
          generalize dj[a]! = x at *
          generalize dj[fk]! = y at *
          go_upto_region 10 with (fail)
          go_region
          all_goals go_wp2_with (go_at_call 146; fail)
          refine (HSI.out _ ((HSW.out _ HV.out).drewN 1)).mono ?_
          rintro e w2 ⟨rfl, hS⟩
          have HW2 := hid_mk hS
          clear HSI HSW HV hS q1 q2 q3 hf1 hf2
          go_wp2
          exact ⟨⟨k, v', X, HVV.out, by omega, rfl, HSZ.out, HE3, HW2⟩, by have := HVV.out; simp only [intOf]; omega⟩
    | succ k =>
      obtain rfl : v = (k : Int) := by omega
      have hsi := sift_any (cap := cap) (lo := k) (hi := h) (first := a) HW.out.self (by omega) (by omega) (by omega)
      rw [hdk] at hsi
      obtain ⟨v', hv'⟩ : ∃ v' : Int, v' = (k : Int) - 1 := ⟨_, rfl⟩
      have hw4 : IntKind.i64.wrap ((k : Int) - 1) = v' := by rw [IntKind.wrap_i64]; omega
      have HE3 : Hid (heapBuild ltInt h a k (siftDown ltInt h a k dk) = R1) := HE.out
      have HSZ : Hid ((siftDown ltInt h a k dk).size = d.size) := by rw [Hid, sift_size h a _ k dk (Nat.le_refl _), hdk]
      have HV := hid_mk hv'
      clear HE hv hv'
      generalize siftDown ltInt h a k dk = X at *
      go_wp2_with (go_at_call 146; fail)
      refine hsi.mono ?_
      rintro e w2 ⟨rfl, hS⟩
      have HW2 := hid_mk (HW.out.from hS)
      clear hsi hS HW
      go_wp2
      exact ⟨⟨k, v', X, HV.out, by omega, rfl, HSZ.out, HE3, HW2⟩, by have := HV.out; simp only [intOf]; omega⟩
end Go.Proofs.YtdiljkmlneeboaaGreat.B
namespace Go.Proofs.YtdiljkmlneeboaaGreat.B
open Go.RowKit Go.Sort
set_option maxRecDepth 100000

/-- The row, and the count of swaps in its own block. -/
structure SC (w : World) (g s : Nat) (d : Array Int) (n : Nat) (W : World) : Prop where
  row : Holds (Value.int .u32) W g 0 d
  cnt : W.heap[s]? = some (.cells #[.int .i64 (n : Int)] 3 (0, 0))
  keep : KeepX s w W
theorem SC.drew {w W : World} {g s n : Nat} {d : Array Int} (h : SC w g s d n W) (q : Nat) : SC w g s d n (W.drewN q) := ⟨h.row, h.cnt, ⟨h.keep.os, h.keep.tape, h.keep.output, h.keep.size, h.keep.block⟩⟩
theorem SC.cell {w W : World} {g s n : Nat} {d : Array Int} (h : SC w g s d n W) {j : Nat} (hj : j < d.size) : W.cell? ⟨g, j, none⟩ = some (.int .u32 d[j]!) := by
  have := (h.row j hj).1
  rwa [Nat.zero_add] at this
theorem SC.more {w W : World} {g s n : Nat} {d : Array Int} (h : SC w g s d n W) (hgs : g ≠ s) (m : Nat) : SC w g s d m (W.setCell ⟨s, 0, none⟩ (.int .i64 (m : Int))) := by
  refine ⟨fun j hj => ?_, by rw [set_at 0 _ _ h.cnt]; rfl, h.keep.trans ⟨rfl, rfl, rfl, by simp, fun k _ hk => Below.heap_setCell _ _ _ _ hk⟩⟩
  have e : (W.setCell ⟨s, 0, none⟩ (.int .i64 (m : Int))).heap[g]? = W.heap[g]? := Below.heap_setCell _ _ _ _ hgs
  refine ⟨(World.cell?_of_block e).trans (h.row j hj).1, ?_⟩
  rw [setCell_eq, frozen?_mapBlock]
  exact (h.row j hj).2

set_option maxHeartbeats 4000000 in
theorem order2_any {w W : World} {g s cap a b n : Nat} {d : Array Int} (h : SC w g s d n W) (hgs : g ≠ s) (ha : a < d.size) (hb : b < d.size) (hn : n ≤ 1000) :
    Calls Tryz.prog 160 #[.slice (some ⟨g, 0, none⟩) d.size cap, .int .i64 (a : Int), .int .i64 (b : Int), .pointer (some ⟨s, 0, none⟩)] W fun e w' => e = .returned (.tuple #[.int .i64 ((Sort.order2 ltInt d a b n).1 : Int), .int .i64 ((Sort.order2 ltInt d a b n).2.1 : Int)]) ∧ SC w g s d (Sort.order2 ltInt d a b n).2.2 w' := by
  have q1 := h.cell ha
  have q2 := h.cell hb
  have c0 : W.cell? ⟨s, 0, none⟩ = some (.int .i64 (n : Int)) := cellAt h.cnt 0
  have f0 : W.frozen? ⟨s, 0, none⟩ = false := by simp [World.frozen?, h.cnt]
  have HC := hid_mk h
  have HLS : Hid (∀ W, Calls Tryz.prog 134 #[.int .u32 d[b]!, .int .u32 d[a]!] W fun e w' => e = .returned (.bool (decide (d[b]! < d[a]!))) ∧ w' = W) := fun W => less_any _ _ W
  have HM : Hid (∀ q m, SC w g s d m ((W.drewN q).setCell ⟨s, 0, none⟩ (.int .i64 (m : Int)))) := fun q m => (h.drew q).more hgs m
  have HO : Hid (Sort.order2 ltInt d a b n = if d[b]! < d[a]! then (b, a, n + 1) else (a, b, n)) := by
    rw [Hid]
    unfold Sort.order2 ltInt
    simp
  have gd : W.drew.cell? ⟨g, b, none⟩ = some (.int .u32 d[b]!) ∧ W.drew.cell? ⟨g, a, none⟩ = some (.int .u32 d[a]!) := ⟨q2, q1⟩
  generalize Sort.order2 ltInt d a b n = O at *
  clear h
  generalize d[a]! = x at *
  generalize d[b]! = y at *
  go_enter Tryz.func160, Tryz.ntmps160
  go_upto_region 1 with (fail)
  go_region_held3 (fun w' => w'.cell? ⟨g, b, none⟩ = some (.int .u32 y) ∧ w'.cell? ⟨g, a, none⟩ = some (.int .u32 x))
    (first | with_reducible exact gd)
    (first | (go_at_call 134; with_reducible refine (HLS.out _).mono ?_; rintro e wa ⟨rfl, rfl⟩))
  by_cases hxy : y < x
  · have hd3 : decide (y < x) = true := decide_eq_true hxy
    have HR : Hid (O = (b, a, n + 1)) := by rw [Hid, HO.out, if_pos hxy]
    rw [hd3]
    clear HO hxy hd3 HLS gd
    go_wp2
    refine bodyPost_ret (v := .tuple #[.int .i64 (b : Int), .int .i64 (a : Int)]) (by simp [results, Tryz.results160, go_sem]) rfl ⟨by rw [HR.out], ?_⟩
    rw [HR.out]
    exact HM.out 1 (n + 1)
  · have hd3 : decide (y < x) = false := decide_eq_false hxy
    have HR : Hid (O = (a, b, n)) := by rw [Hid, HO.out, if_neg hxy]
    rw [hd3]
    clear HO hxy hd3 HLS gd
    go_wp2
    refine bodyPost_ret (v := .tuple #[.int .i64 (a : Int), .int .i64 (b : Int)]) (by simp [results, Tryz.results160, go_sem]) rfl ⟨by rw [HR.out], ?_⟩
    rw [HR.out]
    exact HC.out.drew 1
end Go.Proofs.YtdiljkmlneeboaaGreat.B
namespace Go.Proofs.YtdiljkmlneeboaaGreat.B
open Go.RowKit Go.Sort
set_option maxRecDepth 100000

theorem order2_lt {d : Array Int} {a b n N : Nat} (ha : a < N) (hb : b < N) : (Sort.order2 ltInt d a b n).1 < N ∧ (Sort.order2 ltInt d a b n).2.1 < N ∧ (Sort.order2 ltInt d a b n).2.2 ≤ n + 1 := by
  unfold Sort.order2
  split
  · exact ⟨hb, ha, Nat.le_refl _⟩
  · exact ⟨ha, hb, Nat.le_succ _⟩

set_option maxHeartbeats 4000000 in
theorem median_any {w W : World} {g s cap a b c n : Nat} {d : Array Int} (h : SC w g s d n W) (hgs : g ≠ s) (ha : a < d.size) (hb : b < d.size) (hc : c < d.size) (hn : n ≤ 900) :
    Calls Tryz.prog 150 #[.slice (some ⟨g, 0, none⟩) d.size cap, .int .i64 (a : Int), .int .i64 (b : Int), .int .i64 (c : Int), .pointer (some ⟨s, 0, none⟩)] W fun e w' => e = .returned (.int .i64 ((Sort.median ltInt d a b c n).1 : Int)) ∧ SC w g s d (Sort.median ltInt d a b c n).2 w' ∧ (Sort.median ltInt d a b c n).1 < d.size ∧ (Sort.median ltInt d a b c n).2 ≤ n + 3 := by
  have HO : Hid (∀ W a b n, SC w g s d n W → a < d.size → b < d.size → n ≤ 1000 → Calls Tryz.prog 160 #[.slice (some ⟨g, 0, none⟩) d.size cap, .int .i64 (a : Int), .int .i64 (b : Int), .pointer (some ⟨s, 0, none⟩)] W fun e w' => e = .returned (.tuple #[.int .i64 ((Sort.order2 ltInt d a b n).1 : Int), .int .i64 ((Sort.order2 ltInt d a b n).2.1 : Int)]) ∧ SC w g s d (Sort.order2 ltInt d a b n).2.2 w') := fun W a b n h ha hb hn => order2_any h hgs ha hb hn
  have HM : Hid (Sort.median ltInt d a b c n = ((Sort.order2 ltInt d (Sort.order2 ltInt d a b n).1 (Sort.order2 ltInt d (Sort.order2 ltInt d a b n).2.1 c (Sort.order2 ltInt d a b n).2.2).1 (Sort.order2 ltInt d (Sort.order2 ltInt d a b n).2.1 c (Sort.order2 ltInt d a b n).2.2).2.2).2.1, (Sort.order2 ltInt d (Sort.order2 ltInt d a b n).1 (Sort.order2 ltInt d (Sort.order2 ltInt d a b n).2.1 c (Sort.order2 ltInt d a b n).2.2).1 (Sort.order2 ltInt d (Sort.order2 ltInt d a b n).2.1 c (Sort.order2 ltInt d a b n).2.2).2.2).2.2)) := rfl
  obtain ⟨l1, l2, l3⟩ := order2_lt (d := d) (n := n) ha hb
  have h1 := HO.out W a b n h ha hb (by omega)
  generalize Sort.order2 ltInt d a b n = r1 at *
  obtain ⟨m1, m2, m3⟩ := order2_lt (d := d) (n := r1.2.2) l2 hc
  have H2 : Hid (∀ W, SC w g s d r1.2.2 W → _) := fun W h => HO.out W r1.2.1 c r1.2.2 h l2 hc (by omega)
  generalize Sort.order2 ltInt d r1.2.1 c r1.2.2 = r2 at *
  obtain ⟨n1, n2, n3⟩ := order2_lt (d := d) (n := r2.2.2) l1 m1
  have H3 : Hid (∀ W, SC w g s d r2.2.2 W → _) := fun W h => HO.out W r1.1 r2.1 r2.2.2 h l1 m1 (by omega)
  generalize Sort.order2 ltInt d r1.1 r2.1 r2.2.2 = r3 at *
  have HB : Hid (r3.2.1 < d.size ∧ r3.2.2 ≤ n + 3) := by rw [Hid]; omega
  rw [HM.out]
  obtain ⟨a1, b1, k1⟩ := r1
  obtain ⟨b2, c2, k2⟩ := r2
  obtain ⟨a3, b3, k3⟩ := r3
  dsimp only at *
  clear HO HM h l1 l2 l3 m1 m2 m3 n1 n2 n3
  go_enter Tryz.func150, Tryz.ntmps150
  go_wp2_with (go_at_call 160; fail)
  refine h1.mono ?_
  rintro e w1 ⟨rfl, hS1⟩
  have h2 := H2.out w1 hS1
  clear h1 hS1 H2
  go_wp2_with (go_at_call 160; fail)
  refine h2.mono ?_
  rintro e w2 ⟨rfl, hS2⟩
  have h3 := H3.out w2 hS2
  clear h2 hS2 H3
  go_wp2_with (go_at_call 160; fail)
  refine h3.mono ?_
  rintro e w3 ⟨rfl, hS3⟩
  have HS3 := hid_mk hS3
  clear h3 hS3
  go_wp2
  go_ret
  exact ⟨rfl, HS3.out, HB.out⟩

set_option maxHeartbeats 4000000 in
theorem adjacent_any {w W : World} {g s cap a n : Nat} {d : Array Int} (h : SC w g s d n W) (hgs : g ≠ s) (h1 : 1 ≤ a) (ha : a + 1 < d.size) (hn : n ≤ 900) (hsz : d.size ≤ 1000000) :
    Calls Tryz.prog 149 #[.slice (some ⟨g, 0, none⟩) d.size cap, .int .i64 (a : Int), .pointer (some ⟨s, 0, none⟩)] W fun e w' => e = .returned (.int .i64 ((Sort.medianAdjacent ltInt d a n).1 : Int)) ∧ SC w g s d (Sort.medianAdjacent ltInt d a n).2 w' ∧ (Sort.medianAdjacent ltInt d a n).1 < d.size ∧ (Sort.medianAdjacent ltInt d a n).2 ≤ n + 3 := by
  have hm := median_any (cap := cap) (a := a - 1) (b := a) (c := a + 1) h hgs (by omega) (by omega) (by omega) hn
  have HE : Hid (Sort.medianAdjacent ltInt d a n = Sort.median ltInt d (a - 1) a (a + 1) n) := rfl
  rw [HE.out]
  obtain ⟨p, hp⟩ : ∃ p, p = a - 1 := ⟨_, rfl⟩
  obtain ⟨q, hq⟩ : ∃ q, q = a + 1 := ⟨_, rfl⟩
  rw [← hp, ← hq] at hm ⊢
  have hw1 : IntKind.i64.wrap ((a : Int) - 1) = (p : Int) := by rw [IntKind.wrap_i64]; omega
  have hw2 : IntKind.i64.wrap ((a : Int) + 1) = (q : Int) := by rw [IntKind.wrap_i64]; omega
  generalize Sort.median ltInt d p a q n = M at *
  clear h HE hp hq
  go_enter Tryz.func149, Tryz.ntmps149
  go_wp2_with (go_at_call 150; fail)
  refine hm.mono ?_
  rintro e w1 ⟨rfl, hS⟩
  have HS := hid_mk hS
  clear hm hS
  go_wp2
  go_ret
  exact ⟨rfl, HS.out⟩
end Go.Proofs.YtdiljkmlneeboaaGreat.B
namespace Go.Proofs.YtdiljkmlneeboaaGreat.B
open Go.RowKit Go.Sort
set_option maxRecDepth 100000

theorem scanUp_go {p : Int → Bool} {d : Array Int} {j i : Nat} (h : i ≤ j) (hp : p d[i]! = true) : scanUp p d j i = scanUp p d j (i + 1) := by
  rw [scanUp, if_pos (by rw [Bool.and_eq_true]; exact ⟨decide_eq_true h, hp⟩)]
theorem scanUp_stop {p : Int → Bool} {d : Array Int} {j i : Nat} (h : ¬ (i ≤ j ∧ p d[i]! = true)) : scanUp p d j i = i := by
  rw [scanUp, if_neg]
  intro hh
  rw [Bool.and_eq_true] at hh
  exact h ⟨of_decide_eq_true hh.1, hh.2⟩
theorem scanDown_go {p : Int → Bool} {d : Array Int} {j i : Nat} (h : i ≤ j + 1) (hp : p d[j + 1]! = true) : scanDown p d i (j + 1) = scanDown p d i j := by
  rw [scanDown, if_pos (by rw [Bool.and_eq_true]; exact ⟨decide_eq_true h, hp⟩)]
theorem scanDown_stop {p : Int → Bool} {d : Array Int} {j i : Nat} (h : ¬ (i ≤ j ∧ p d[j]! = true)) : scanDown p d i j = j := by
  cases j with
  | zero => rfl
  | succ j =>
    rw [scanDown, if_neg]
    intro hh
    rw [Bool.and_eq_true] at hh
    exact h ⟨of_decide_eq_true hh.1, hh.2⟩
theorem scanUp_le {p : Int → Bool} {d : Array Int} {j : Nat} : ∀ (n i : Nat), j + 1 - i ≤ n → i ≤ scanUp p d j i ∧ (i ≤ j + 1 → scanUp p d j i ≤ j + 1)
  | n, i, hn => by
    by_cases h : i ≤ j ∧ p d[i]! = true
    · rw [scanUp_go h.1 h.2]
      match n, hn with
      | 0, hn => omega
      | n + 1, hn =>
        have := scanUp_le (p := p) (d := d) (j := j) n (i + 1) (by omega)
        exact ⟨by omega, fun _ => this.2 (by omega)⟩
    · rw [scanUp_stop h]
      exact ⟨Nat.le_refl _, id⟩
theorem scanDown_le {p : Int → Bool} {d : Array Int} {i : Nat} : ∀ (j : Nat), scanDown p d i j ≤ j ∧ (i ≤ j + 1 → 1 ≤ i → i ≤ scanDown p d i j + 1)
  | 0 => ⟨Nat.le_refl _, fun h _ => by simpa [scanDown] using h⟩
  | j + 1 => by
    by_cases h : i ≤ j + 1 ∧ p d[j + 1]! = true
    · rw [scanDown_go h.1 h.2]
      have := scanDown_le (p := p) (d := d) (i := i) j
      exact ⟨by omega, fun _ h1 => this.2 (by omega) h1⟩
    · rw [scanDown_stop h]
      exact ⟨Nat.le_refl _, fun h _ => h⟩
end Go.Proofs.YtdiljkmlneeboaaGreat.B
