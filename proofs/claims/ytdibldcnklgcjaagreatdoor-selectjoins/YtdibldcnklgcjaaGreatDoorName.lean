/- What text.Name answers: whether all characters fit, the first one being a small letter; it leaves all that was there. -/
import Derived.Test.YtdibldcnklgcjaaGreatDoorSame
import Derived.Test.YtdibldcnklgcjaaGreatDoorPlain
namespace Go.Proofs.YtdibldcnklgcjaaGreatDoor
open Go.RowKit
set_option maxRecDepth 100000

def fitZ (first : Bool) (c : Int) : Bool := if first then smallZ c else smallZ c || digitZ c || c == 45 || c == 95
def namesZ : Bool → List Int → Bool
  | _, [] => true
  | f, c :: r => fitZ f c && namesZ false r
def nameZ (s : ByteArray) : Bool := if s.size = 0 ∨ 64 < s.size then false else namesZ true (chars s)

theorem small_any (c : Int) (w : World) : Calls Tryz.prog 98 #[.int .i32 c] w fun e w' => e = .returned (.bool (smallZ c)) ∧ w = w' := by
  by_cases h1 : 97 ≤ c
  · by_cases h2 : c ≤ 122
    · have HT : Hid (smallZ c = true) := by show smallZ c = true; simp [smallZ, h1, h2]
      go_enter Tryz.func98, Tryz.ntmps98
      go_wp2
      go_ret
      exact ⟨ret_bool (by rw [HT.out]), rfl⟩
    · have HT : Hid (smallZ c = false) := by show smallZ c = false; simp [smallZ, h1, h2]
      go_enter Tryz.func98, Tryz.ntmps98
      go_wp2
      go_ret
      exact ⟨ret_bool (by rw [HT.out]), rfl⟩
  · have HT : Hid (smallZ c = false) := by show smallZ c = false; simp [smallZ, h1]
    go_enter Tryz.func98, Tryz.ntmps98
    go_wp2
    go_ret
    exact ⟨ret_bool (by rw [HT.out]), rfl⟩

theorem digit_any (c : Int) (w : World) : Calls Tryz.prog 77 #[.int .i32 c] w fun e w' => e = .returned (.bool (digitZ c)) ∧ w = w' := by
  by_cases h1 : 48 ≤ c
  · by_cases h2 : c ≤ 57
    · have HT : Hid (digitZ c = true) := by show digitZ c = true; simp [digitZ, h1, h2]
      go_enter Tryz.func77, Tryz.ntmps77
      go_wp2
      go_ret
      exact ⟨ret_bool (by rw [HT.out]), rfl⟩
    · have HT : Hid (digitZ c = false) := by show digitZ c = false; simp [digitZ, h1, h2]
      go_enter Tryz.func77, Tryz.ntmps77
      go_wp2
      go_ret
      exact ⟨ret_bool (by rw [HT.out]), rfl⟩
  · have HT : Hid (digitZ c = false) := by show digitZ c = false; simp [digitZ, h1]
    go_enter Tryz.func77, Tryz.ntmps77
    go_wp2
    go_ret
    exact ⟨ret_bool (by rw [HT.out]), rfl⟩

theorem setCell_block {w : World} {g k : Nat} (v : Value) (h : k ≠ g) : (w.setCell ⟨g, 0, none⟩ v).heap[k]? = w.heap[k]? := Below.heap_setCell w ⟨g, 0, none⟩ v k h

end Go.Proofs.YtdibldcnklgcjaaGreatDoor
