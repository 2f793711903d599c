/- slices.Sort of keys: the reversal of a range. -/
import Derived.Test.YtdiljkmlneeboaaSo0
namespace Go.Proofs.Ytdiljkmlneeboaa
open Go.RowKit Go.Sort
set_option maxRecDepth 100000

set_option maxHeartbeats 4000000 in
theorem reverse_any {w : World} {g cap a b : Nat} {d : Array Int} (hd : SW w g d w) (hab : a < b) (hb : b ≤ d.size) (hsz : d.size ≤ 1000000) :
    Calls Try.prog 37 #[.slice (some ⟨g, 0, none⟩) d.size cap, .int .i64 (a : Int), .int .i64 (b : Int)] w fun e w' => e = .returned (.tuple #[]) ∧ SW w g (Sort.reverseRange d a b) w' := by
  have HD := hid_mk hd
  have HE0 : Hid (reverseLoop a (b - 1) d = Sort.reverseRange d a b) := rfl
  have hb4 : IntKind.i64.wrap ((b : Int) - 1) = ((b - 1 : Nat) : Int) := by rw [IntKind.wrap_i64]; omega
  generalize Sort.reverseRange d a b = D at *
  obtain ⟨b', hb'⟩ : ∃ b', b' = b - 1 := ⟨_, rfl⟩
  rw [← hb'] at hb4 HE0
  have hbb : b' < d.size := by omega
  have hab' : a ≤ b' := by omega
  clear hd hb'
  go_enter Try.func37, Try.ntmps37
  go_wp2
  go_loopw [6, 7] (fun a6 a7 wq => ∃ (i j : Nat) (dk : Array Int), i ≤ d.size ∧ j < d.size ∧ a6 = .int .i64 (i : Int) ∧ a7 = .int .i64 (j : Int) ∧ dk.size = d.size ∧ Hid (reverseLoop i j dk = D) ∧ Hid (SW w g dk wq)) (fun a6 _ _ => d.size + 1 - (intOf a6).toNat)
  case atStart => exact ⟨a, b', d, by omega, hbb, rfl, rfl, rfl, HE0, HD⟩
  case round =>
    obtain ⟨i, j, dk, hil, hjl, rfl, rfl, hdk, HE, HW⟩ := hrel
    clear HD HE0
    by_cases hij : i < j
    · obtain ⟨m, hm⟩ : ∃ m, m = j - 1 := ⟨_, rfl⟩
      have q1 := HW.out.cell (j := i) (by omega)
      have q2 := HW.out.cell (j := j) (by omega)
      have hj4 : IntKind.i64.wrap ((j : Int) - 1) = (m : Int) := by rw [IntKind.wrap_i64]; omega
      have hd1 : decide ((i : Int) < (j : Int)) = true := decide_eq_true (by omega)
      have b1 : i < d.size := by omega
      have q3 : (wr.setCell ⟨g, i, none⟩ (.int .u32 dk[j]!)).cell? ⟨g, j, none⟩ = some (.int .u32 dk[j]!) := by
        have := (HW.out.set (i := i) (by omega) dk[j]!).cell (j := j) (by simp; omega)
        rwa [getElem!_set_other dk i j _ (by omega)] at this
      have hf1 : wr.frozen? ⟨g, i, none⟩ = false := HW.out.free (by omega)
      have hf2 : wr.frozen? ⟨g, j, none⟩ = false := HW.out.free (by omega)
      have HR2 : Hid (reverseLoop (i + 1) m (swp dk i j) = D) := by
        have h := HE.out
        rw [reverseLoop, if_pos hij, ← hm] at h
        exact h
      have HSW : Hid (∀ W, SW w g dk W → SW w g (swp dk i j) ((W.setCell ⟨g, i, none⟩ (.int .u32 dk[j]!)).setCell ⟨g, j, none⟩ (.int .u32 dk[i]!))) := fun W h => (h.set (by omega) _).set (by simp; omega) _
      have HM := hid_mk hm
      clear HE hm
      generalize dk[i]! = x at *
      generalize dk[j]! = y at *
      go_upto_region 5 with (fail)
      go_region
      all_goals go_wp2
      exact ⟨⟨i + 1, m, swp dk i j, by omega, by have := HM.out; omega, by go_num, rfl, by rw [size_swp]; exact hdk, HR2, ((HSW.out _ HW.out).drewN 1 : SW _ _ _ _)⟩, by simp only [intOf]; omega⟩
    · have HZ : Hid (dk = D) := by
        have h := HE.out
        rw [reverseLoop, if_neg hij] at h
        exact h
      have hd1 : decide ((i : Int) < (j : Int)) = false := decide_eq_false (by omega)
      clear HE
      go_wp2
      exact bodyPost_end (v := .tuple #[]) (by simp [results, Try.results37, go_sem]) rfl ⟨rfl, by rw [← HZ.out]; exact HW.out⟩
end Go.Proofs.Ytdiljkmlneeboaa
