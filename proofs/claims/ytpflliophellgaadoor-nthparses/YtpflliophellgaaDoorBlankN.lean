/- gouacheref04.blank, whatever the text. -/
import Derived.Test.YtpflliophellgaaDoorBehind
namespace Go.Proofs.YtpflliophellgaaDoor
open Go.RowKit

set_option maxHeartbeats 400000 in
theorem blank_any (s : ByteArray) (w : World) : Calls Tryd.prog 23 #[.string s] w fun e w' => e = .returned (.string (trimZ s)) ∧ w = w' := by
  by_cases h0 : 0 < s.size
  · by_cases h32 : (s[0]'h0).toNat = 32
    · have HS : Hid (trimZ s = s.extract 1 s.size) := by
        show _ = _
        unfold trimZ
        rw [dif_pos h0, if_pos h32]
      have z1 : (((s[0]'h0).toNat : Int) == 32) = true := by rw [h32]; rfl
      clear h32
      go_enter Tryd.func23, Tryd.ntmps23
      go_wp2
      go_ret
      exact ⟨congrArg (fun s => Ending.returned (.string s)) HS.out.symm, rfl⟩
    · have HS : Hid (trimZ s = s) := by
        show _ = _
        unfold trimZ
        rw [dif_pos h0, if_neg h32]
      have z1 : (((s[0]'h0).toNat : Int) == 32) = false := by simp; omega
      clear h32
      go_enter Tryd.func23, Tryd.ntmps23
      go_wp2
      go_ret
      exact ⟨congrArg (fun s => Ending.returned (.string s)) HS.out.symm, rfl⟩
  · have e0 := empty_of (show s.size = 0 by omega)
    subst e0
    go_enter Tryd.func23, Tryd.ntmps23
    go_wp2
    go_ret
    exact ⟨rfl, rfl⟩

end Go.Proofs.YtpflliophellgaaDoor
