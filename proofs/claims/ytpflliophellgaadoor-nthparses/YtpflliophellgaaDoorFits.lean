/- nth.Fits and the document's Fits, in plain numbers. -/
import Derived.Test.YtpflliophellgaaDoorRows
import Derived.WalkKit
import Derived.WalkLawsBesides
import Derived.IntWalk
namespace Go.Proofs.YtpflliophellgaaDoor
open Go.RowKit

theorem hid_mk {p : Prop} (h : p) : Hid p := h

set_option maxHeartbeats 400000 in
theorem size_neg (x : Int) (h0 : -9223372036854775808 ≤ x) (hx : x < 0) (w : World) :
    Calls Tryd.prog 25 #[.int .i64 x] w fun e w' => e = .returned (.int .u64 (-x)) ∧ w = w' := by
  go_enter Tryd.func25, Tryd.ntmps25
  go_wp2
  go_ret
  refine ⟨congrArg (fun z => Ending.returned (.int .u64 z)) (?_ : (_ : Int) = _), rfl⟩
  omega
set_option maxHeartbeats 400000 in
theorem size_pos (x : Int) (hx : 0 ≤ x) (h1 : x ≤ 9223372036854775807) (w : World) :
    Calls Tryd.prog 25 #[.int .i64 x] w fun e w' => e = .returned (.int .u64 x) ∧ w = w' := by
  go_enter Tryd.func25, Tryd.ntmps25
  go_wp2
  go_ret
  exact ⟨rfl, rfl⟩

set_option maxHeartbeats 400000 in
theorem above_any (n o : Int) (h0 : 1 ≤ n) (h1 : n ≤ 9223372036854775807) (h2 : -9223372036854775808 ≤ o) (h3 : o ≤ n) (w : World) :
    Calls Tryd.prog 24 #[.int .i64 n, .int .i64 o] w fun e w' => e = .returned (.int .u64 (n - o)) ∧ w = w' := by
  by_cases hx : o < 0
  · have hs := fun w => size_neg o h2 hx w
    go_enter Tryd.func24, Tryd.ntmps24
    go_wp2_with (go_at_call 25; fail)
    refine (hs _).mono ?_
    rintro e w' ⟨rfl, rfl⟩
    go_wp2
    go_ret
    exact ⟨by congr 2, rfl⟩
  · go_enter Tryd.func24, Tryd.ntmps24
    go_wp2
    go_ret
    exact ⟨rfl, rfl⟩

def fitsB (a b n : Int) : Bool :=
  if n < 1 then false else if 0 < a then decide (b ≤ n) && decide ((n - b) % a = 0) else if a < 0 then decide (n ≤ b) && decide ((b - n) % a = 0) else decide (n = b)

set_option maxHeartbeats 400000 in
theorem fits_any (a b n : Int) (a0 : -9223372036854775808 ≤ a) (a1 : a ≤ 9223372036854775807) (b0 : -9223372036854775808 ≤ b) (b1 : b ≤ 9223372036854775807) (n0 : -9223372036854775808 ≤ n) (n1 : n ≤ 9223372036854775807) (w : World) :
    Calls Tryd.prog 11 #[.int .i64 a, .int .i64 b, .int .i64 n] w fun e w' => e = .returned (.bool (fitsB a b n)) ∧ w = w' := by
  by_cases hn : n < 1
  · have e1 : fitsB a b n = false := by simp [fitsB, hn]
    rw [e1]
    clear e1
    go_enter Tryd.func11, Tryd.ntmps11
    go_wp2
    go_ret
    exact ⟨rfl, rfl⟩
  by_cases hp : 0 < a
  · by_cases hb : b ≤ n
    · have e1 : fitsB a b n = decide ((n - b) % a = 0) := by simp [fitsB, hn, hp, hb]
      rw [e1]
      clear e1
      have hs := fun w => size_pos a (by omega) a1 w
      have ha := fun w => above_any n b (by omega) n1 b0 hb w
      go_enter Tryd.func11, Tryd.ntmps11
      go_wp2_with (go_at_call 24; fail)
      refine (ha _).mono ?_
      rintro e w' ⟨rfl, rfl⟩
      go_wp2_with (go_at_call 25; fail)
      refine (hs _).mono ?_
      rintro e w' ⟨rfl, rfl⟩
      go_wp2
      go_ret
      exact ⟨rfl, rfl⟩
    · have e1 : fitsB a b n = false := by simp [fitsB, hb, hp]
      rw [e1]
      clear e1
      go_enter Tryd.func11, Tryd.ntmps11
      go_wp2
      go_ret
      exact ⟨rfl, rfl⟩
  by_cases hm : a < 0
  · by_cases hb : n ≤ b
    · have e1 : fitsB a b n = decide ((b - n) % a = 0) := by simp [fitsB, hn, hp, hm, hb]
      rw [e1]
      clear e1
      have hs := fun w => size_neg a a0 hm w
      have ha := fun w => above_any b n (by omega) b1 n0 hb w
      go_enter Tryd.func11, Tryd.ntmps11
      go_wp2_with (go_at_call 24; fail)
      refine (ha _).mono ?_
      rintro e w' ⟨rfl, rfl⟩
      go_wp2_with (go_at_call 25; fail)
      refine (hs _).mono ?_
      rintro e w' ⟨rfl, rfl⟩
      go_wp2
      go_ret
      exact ⟨rfl, rfl⟩
    · have e1 : fitsB a b n = false := by simp [fitsB, hn, hp, hm, hb]
      rw [e1]
      clear e1
      go_enter Tryd.func11, Tryd.ntmps11
      go_wp2
      go_ret
      exact ⟨rfl, rfl⟩
  · have e1 : fitsB a b n = decide (n = b) := by simp [fitsB, hn, hp, hm]
    rw [e1]
    clear e1
    go_enter Tryd.func11, Tryd.ntmps11
    go_wp2
    go_ret
    exact ⟨rfl, rfl⟩

end Go.Proofs.YtpflliophellgaaDoor
