/- What text.Name answers: whether all characters fit, the first one being a small letter; it leaves all that was there. -/
import Derived.Test.YtemlnblifkdenaaGreatDoorSame
import Derived.Test.YtemlnblifkdenaaGreatDoorPlain
set_option maxRecDepth 100000
set_option maxHeartbeats 8000000
namespace Go.Proofs.YtemlnblifkdenaaGreatDoor
open Go.RowKit
def fitZ (first:Bool) (c:Int):Bool:=if first then smallZ c else smallZ c || digitZ c || c == 45 || c == 95
theorem digit_any (c:Int) (w:World):Calls Tryz.prog 105 #[.int .i32 c] w fun e w'=>e=.returned (.bool (digitZ c))∧w=w':=by
 by_cases h1:48≤c
 ·by_cases h2:c≤57
  ·have HT:Hid (digitZ c=true):=by show digitZ c=true;simp [digitZ,h1,h2]
   go_enter Tryz.func105,Tryz.ntmps105
   go_wp2
   go_ret
   exact ⟨ret_bool (by rw [HT.out]),rfl⟩
  ·have HT:Hid (digitZ c=false):=by show digitZ c=false;simp [digitZ,h1,h2]
   go_enter Tryz.func105,Tryz.ntmps105
   go_wp2
   go_ret
   exact ⟨ret_bool (by rw [HT.out]),rfl⟩
 ·have HT:Hid (digitZ c=false):=by show digitZ c=false;simp [digitZ,h1]
  go_enter Tryz.func105,Tryz.ntmps105
  go_wp2
  go_ret
  exact ⟨ret_bool (by rw [HT.out]),rfl⟩
end Go.Proofs.YtemlnblifkdenaaGreatDoor
