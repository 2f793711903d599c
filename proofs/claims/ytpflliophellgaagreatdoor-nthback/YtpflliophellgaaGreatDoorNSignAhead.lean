/- nth.signAhead, whatever the text. -/
import Derived.Test.YtpflliophellgaaGreatDoorNNumberAhead
namespace Go.Proofs.YtpflliophellgaaGreatDoor.N
open Go.RowKit

theorem get_at (s : ByteArray) (h0 : 0 < s.size) : s.get! 0 = s[0]'h0 := by
  show s.data[0]! = s.data[0]
  rw [getElem!_pos s.data 0 h0]
theorem first_byte (s : ByteArray) (h0 : 0 < s.size) : s.extract 0 1 = ⟨#[s[0]'h0]⟩ := by
  apply ByteArray.ext
  apply Array.ext
  · simp
    have : 0 < s.data.size := h0
    omega
  · intro i h1 h2
    have hi : i = 0 := by
      have : i < 1 := h2
      omega
    subst hi
    simp
    rfl
theorem first_list (s : ByteArray) (h0 : 0 < s.size) (c : UInt8) : ((s.extract 0 1).toList == [c]) = ((s[0]'h0) == c) := by
  rw [first_byte s h0, ByteArray.toList_eq]
  simp
/-- The sign ahead, and what is behind. -/
def sgnZ (s : ByteArray) : ByteArray × ByteArray := if h : 0 < s.size then (if (s[0]'h).toNat = 43 then (⟨#[43]⟩, s.extract 1 s.size) else if (s[0]'h).toNat = 45 then (⟨#[45]⟩, s.extract 1 s.size) else (⟨#[]⟩, s)) else (⟨#[]⟩, s)
theorem ret_ss {a b c d : ByteArray} (h1 : a = c) (h2 : b = d) : Ending.returned (.tuple #[.string a, .string b]) = .returned (.tuple #[.string c, .string d]) := by rw [h1, h2]

set_option maxHeartbeats 400000 in
theorem signAhead_any (s : ByteArray) (w : World) : Calls Tryz.prog 47 #[.string s] w fun e w' => e = .returned (.tuple #[.string (sgnZ s).1, .string (sgnZ s).2]) ∧ Below w.heap.size w w' := by
  have hB : Below w.heap.size w w := Below.refl _ w
  by_cases h0 : 0 < s.size
  · have f1 := first_list s h0 43
    have f2 := first_list s h0 45
    have fb := first_byte s h0
    have h1 : (1 : Int) ≤ (s.size : Int) := by omega
    by_cases h43 : (s[0]'h0).toNat = 43
    · have e43 : (s[0]'h0) = 43 := UInt8.toNat_inj.1 h43
      have HS : Hid (sgnZ s = (⟨#[43]⟩, s.extract 1 s.size)) := by
        show _ = _
        unfold sgnZ
        rw [dif_pos h0, if_pos h43]
      have HF : Hid (s.extract 0 1 = ⟨#[43]⟩) := by show _ = _; rw [fb, e43]
      have z1 : ((s.extract 0 1).toList == [43]) = true := by rw [f1, e43]; rfl
      clear f1 f2 fb h43 e43
      go_enter Tryz.func47, Tryz.ntmps47
      go_wp2
      go_quiet (fail)
      go_wp2
      go_ret2
      exact ⟨ret_ss (by rw [HS.out, HF.out]) (by rw [HS.out]), hB.trans (below_drewN3 _ _ _)⟩
    · have n43 : ((s[0]'h0) == 43) = false := by
        rw [Bool.eq_false_iff]
        intro h
        have : (s[0]'h0) = 43 := by simpa using h
        rw [this] at h43
        exact h43 rfl
      by_cases h45 : (s[0]'h0).toNat = 45
      · have e45 : (s[0]'h0) = 45 := UInt8.toNat_inj.1 h45
        have HS : Hid (sgnZ s = (⟨#[45]⟩, s.extract 1 s.size)) := by
          show _ = _
          unfold sgnZ
          rw [dif_pos h0, if_neg h43, if_pos h45]
        have HF : Hid (s.extract 0 1 = ⟨#[45]⟩) := by show _ = _; rw [fb, e45]
        have z1 : ((s.extract 0 1).toList == [43]) = false := by rw [f1, n43]
        have z2 : ((s.extract 0 1).toList == [45]) = true := by rw [f2, e45]; rfl
        clear f1 f2 fb h43 h45 e45 n43
        go_enter Tryz.func47, Tryz.ntmps47
        go_wp2
        go_quiet (fail)
        go_wp2
        go_ret2
        exact ⟨ret_ss (by rw [HS.out, HF.out]) (by rw [HS.out]), hB.trans (below_drewN3 _ _ _)⟩
      · have HS : Hid (sgnZ s = (⟨#[]⟩, s)) := by
          show _ = _
          unfold sgnZ
          rw [dif_pos h0, if_neg h43, if_neg h45]
        have n45 : ((s[0]'h0) == 45) = false := by
          rw [Bool.eq_false_iff]
          intro h
          have : (s[0]'h0) = 45 := by simpa using h
          rw [this] at h45
          exact h45 rfl
        have z1 : ((s.extract 0 1).toList == [43]) = false := by rw [f1, n43]
        have z2 : ((s.extract 0 1).toList == [45]) = false := by rw [f2, n45]
        clear f1 f2 fb h43 h45 n43 n45
        go_enter Tryz.func47, Tryz.ntmps47
        go_wp2
        go_ret2
        exact ⟨ret_ss (by rw [HS.out]) (by rw [HS.out]), hB⟩
  · have e0 := empty_of (show s.size = 0 by omega)
    subst e0
    go_enter Tryz.func47, Tryz.ntmps47
    go_wp2
    go_ret2
    exact ⟨rfl, hB⟩

end Go.Proofs.YtpflliophellgaaGreatDoor.N
