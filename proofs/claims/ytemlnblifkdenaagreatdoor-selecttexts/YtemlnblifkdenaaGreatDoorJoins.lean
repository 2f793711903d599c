/- text.Runes never answers nil. -/
import Derived.Test.YtemlnblifkdenaaGreatDoorMath
set_option maxRecDepth 100000
set_option maxHeartbeats 8000000
namespace Go.Proofs.YtemlnblifkdenaaGreatDoor
open Go.RowKit
theorem hid_mk {p:Prop} (h:p):Hid p:=h
end Go.Proofs.YtemlnblifkdenaaGreatDoor
