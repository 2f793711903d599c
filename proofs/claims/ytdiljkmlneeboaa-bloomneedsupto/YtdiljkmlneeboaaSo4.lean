/- slices.Sort of keys: the heap sort. -/
import Derived.Test.YtdiljkmlneeboaaSo3
namespace Go.Proofs.Ytdiljkmlneeboaa
open Go.RowKit Go.Sort
set_option maxRecDepth 100000

theorem SW.from {w W W' : World} {g : Nat} {d d' : Array Int} (h : SW w g d W) (k : SW W g d' W') : SW w g d' W' := ⟨k.row, h.keep.trans k.keep⟩
theorem SW.self {w W : World} {g : Nat} {d : Array Int} (h : SW w g d W) : SW W g d W := ⟨h.row, KeepX.of (Below.refl _ _)⟩
theorem sift_size (hi first : Nat) : ∀ (n r : Nat) (d : Array Int), hi - r ≤ n → (siftDown ltInt hi first r d).size = d.size
  | n, r, d, hn => by
    rcases Nat.lt_or_ge (2 * r + 1) hi with h | h
    · rw [sift_step h]
      split
      · have hk : r < kid hi first r d := by unfold kid; split <;> omega
        match n, hn with
        | 0, hn => omega
        | n + 1, hn =>
          rw [sift_size hi first n _ _ (by omega), size_swp]
      · rfl
    · rw [sift_stop h]

set_option maxHeartbeats 4000000 in
theorem heap_any {w : World} {g cap a b : Nat} {d : Array Int} (hd : SW w g d w) (hab : a < b) (hb : b ≤ d.size) (hsz : d.size ≤ 1000000) :
    Calls Try.prog 34 #[.slice (some ⟨g, 0, none⟩) d.size cap, .int .i64 (a : Int), .int .i64 (b : Int)] w fun e w' => e = .returned (.tuple #[]) ∧ SW w g (Sort.heapSort ltInt d a b) w' := by
  have HD := hid_mk hd
  obtain ⟨h, hh⟩ : ∃ h, h = b - a := ⟨_, rfl⟩
  obtain ⟨h0, hh0⟩ : ∃ h0, h0 = (h - 1) / 2 := ⟨_, rfl⟩
  have hw1 : IntKind.i64.wrap ((b : Int) - (a : Int)) = (h : Int) := by rw [IntKind.wrap_i64]; omega
  obtain ⟨h1, hh1⟩ : ∃ h1, h1 = h - 1 := ⟨_, rfl⟩
  have hw2 : IntKind.i64.wrap ((h : Int) - 1) = (h1 : Int) := by rw [IntKind.wrap_i64]; omega
  have hw3 : (h1 : Int).tdiv 2 = (h0 : Int) := by rw [Int.tdiv_eq_ediv_of_nonneg (by omega)]; omega
  have hw3' : (h1 : Int) / 2 = (h0 : Int) := by omega
  obtain ⟨R1, hR1⟩ : ∃ R1, R1 = heapBuild ltInt h a (h0 + 1) d := ⟨_, rfl⟩
  obtain ⟨D, hD⟩ : ∃ D, D = heapPop ltInt a h R1 := ⟨_, rfl⟩
  have HG : Hid (Sort.heapSort ltInt d a b = D) := by rw [Hid, hD, hR1, hh0, hh]; rfl
  rw [HG.out]
  have HE1 : Hid (heapBuild ltInt h a (h0 + 1) d = R1) := hR1.symm
  have HE2 : Hid (heapPop ltInt a h R1 = D) := hD.symm
  have HN : Hid (h1 + 1 = h ∧ h0 + 1 ≤ h ∧ a + h ≤ d.size) := by rw [Hid]; omega
  have hah : a + h ≤ d.size := by omega
  have hh0b : h0 ≤ 1000000 := by omega
  have hh1b : h1 ≤ 1000000 := by omega
  have hw5 : IntKind.i64.wrap (h0 : Int) = (h0 : Int) := by rw [IntKind.wrap_i64]; omega
  clear hd hh hh0 hh1 hR1 hD HG
  go_enter Try.func34, Try.ntmps34
  go_wp2
  go_loopw [9] (fun a9 wq => ∃ (k : Nat) (v : Int) (dk : Array Int), v = (k : Int) - 1 ∧ k ≤ h ∧ a9 = .int .i64 v ∧ dk.size = d.size ∧ Hid (heapBuild ltInt h a k dk = R1) ∧ Hid (SW w g dk wq)) (fun a9 _ => (intOf a9 + 1).toNat)
  case atStart => exact ⟨h0 + 1, (h0 : Int), d, by omega, by have := HN.out; omega, rfl, rfl, HE1, HD⟩
  case round =>
    obtain ⟨k, v, dk, hv, hk, rfl, hdk, HE, HW⟩ := hrel
    clear HD HE1
    cases k with
    | zero =>
      obtain rfl : v = -1 := by omega
      have HZ : Hid (dk = R1) := HE.out
      clear HE hv
      go_wp2
      go_loopw [10] (fun a10 wq => ∃ (k : Nat) (v : Int) (dj : Array Int), v = (k : Int) - 1 ∧ k ≤ h ∧ a10 = .int .i64 v ∧ dj.size = d.size ∧ Hid (heapPop ltInt a k dj = D) ∧ Hid (SW w g dj wq)) (fun a10 _ => (intOf a10 + 1).toNat)
      case atStart => exact ⟨h, (h1 : Int), dk, by have := HN.out; omega, Nat.le_refl _, rfl, hdk, by rw [HZ.out]; exact HE2, HW⟩
      case round =>
        obtain ⟨k, v, dj, hv, hk, rfl, hdj, HE, HV⟩ := hrel
        clear HW HZ HE2
        cases k with
        | zero =>
          obtain rfl : v = -1 := by omega
          have HZ : Hid (dj = D) := HE.out
          clear HE hv
          go_wp2
          exact bodyPost_end (v := .tuple #[]) (by simp [results, Try.results34, go_sem]) rfl ⟨rfl, by rw [← HZ.out]; exact HV.out⟩
        | succ k =>
          obtain rfl : v = (k : Int) := by omega
          obtain ⟨fk, hfk⟩ : ∃ fk, fk = a + k := ⟨_, rfl⟩
          have hw6 : IntKind.i64.wrap ((a : Int) + (k : Int)) = (fk : Int) := by rw [IntKind.wrap_i64]; omega
          have b1 : a < d.size := by omega
          have b2 : fk < d.size := by omega
          obtain ⟨v', hv'⟩ : ∃ v' : Int, v' = (k : Int) - 1 := ⟨_, rfl⟩
          have hw4 : IntKind.i64.wrap ((k : Int) - 1) = v' := by rw [IntKind.wrap_i64]; omega
          have HE3 : Hid (heapPop ltInt a k (siftDown ltInt k a 0 (swp dj a fk)) = D) := by rw [Hid, hfk]; exact HE.out
          have HSZ : Hid ((siftDown ltInt k a 0 (swp dj a fk)).size = d.size) := by rw [Hid, sift_size k a _ 0 _ (Nat.le_refl _), size_swp, hdj]
          have HSI : Hid (∀ W, SW w g (swp dj a fk) W → Calls Try.prog 44 #[.slice (some ⟨g, 0, none⟩) d.size cap, .int .i64 0, .int .i64 (k : Int), .int .i64 (a : Int)] W fun e w' => e = .returned (.tuple #[]) ∧ SW w g (siftDown ltInt k a 0 (swp dj a fk)) w') := fun W hW => by
            have h := sift_any (cap := cap) (lo := 0) (hi := k) (first := a) hW.self (by omega) (by rw [size_swp]; omega) (by rw [size_swp]; omega)
            rw [size_swp, hdj] at h
            exact h.mono fun e w' hh => ⟨hh.1, hW.from hh.2⟩
          have q1 := HV.out.cell (j := a) (by omega)
          have q2 := HV.out.cell (j := fk) (by omega)
          have q3 : ∀ W, SW w g dj W → (W.setCell ⟨g, a, none⟩ (.int .u32 dj[fk]!)).cell? ⟨g, fk, none⟩ = some (.int .u32 dj[fk]!) := fun W h => by
            have hc := (h.set (i := a) (by omega) dj[fk]!).cell (j := fk) (by simp; omega)
            by_cases e : fk = a
            · rw [e] at hc ⊢
              rwa [getElem!_set_same dj a _ (by omega)] at hc
            · rwa [getElem!_set_other dj a fk _ e] at hc
          have q3 := q3 _ HV.out
          have hf1 := HV.out.free (j := a) (by omega)
          have hf2 := HV.out.free (j := fk) (by omega)
          have HSW : Hid (∀ W, SW w g dj W → SW w g (swp dj a fk) ((W.setCell ⟨g, a, none⟩ (.int .u32 dj[fk]!)).setCell ⟨g, fk, none⟩ (.int .u32 dj[a]!))) := fun W h => (h.set (by omega) _).set (by simp; omega) _
          have HVV := hid_mk hv'
          clear HE hv hv' hfk
          generalize siftDown ltInt k a 0 (swp dj a fk) = X at *
          generalize swp dj a fk = Y at *
          generalize dj[a]! = x at *
          generalize dj[fk]! = y at *
          go_upto_region 10 with (fail)
          go_region
          all_goals go_wp2_with (go_at_call 44; fail)
          refine (HSI.out _ ((HSW.out _ HV.out).drewN 1)).mono ?_
          rintro e w2 ⟨rfl, hS⟩
          have HW2 := hid_mk hS
          clear HSI HSW HV hS q1 q2 q3 hf1 hf2
          go_wp2
          exact ⟨⟨k, v', X, HVV.out, by omega, rfl, HSZ.out, HE3, HW2⟩, by have := HVV.out; simp only [intOf]; omega⟩
    | succ k =>
      obtain rfl : v = (k : Int) := by omega
      have hsi := sift_any (cap := cap) (lo := k) (hi := h) (first := a) HW.out.self (by omega) (by omega) (by omega)
      rw [hdk] at hsi
      obtain ⟨v', hv'⟩ : ∃ v' : Int, v' = (k : Int) - 1 := ⟨_, rfl⟩
      have hw4 : IntKind.i64.wrap ((k : Int) - 1) = v' := by rw [IntKind.wrap_i64]; omega
      have HE3 : Hid (heapBuild ltInt h a k (siftDown ltInt h a k dk) = R1) := HE.out
      have HSZ : Hid ((siftDown ltInt h a k dk).size = d.size) := by rw [Hid, sift_size h a _ k dk (Nat.le_refl _), hdk]
      have HV := hid_mk hv'
      clear HE hv hv'
      generalize siftDown ltInt h a k dk = X at *
      go_wp2_with (go_at_call 44; fail)
      refine hsi.mono ?_
      rintro e w2 ⟨rfl, hS⟩
      have HW2 := hid_mk (HW.out.from hS)
      clear hsi hS HW
      go_wp2
      exact ⟨⟨k, v', X, HV.out, by omega, rfl, HSZ.out, HE3, HW2⟩, by have := HV.out; simp only [intOf]; omega⟩
end Go.Proofs.Ytdiljkmlneeboaa
