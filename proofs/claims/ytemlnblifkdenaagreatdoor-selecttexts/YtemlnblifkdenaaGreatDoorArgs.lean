/- What a slice that came in holds, as bytes or as numbers. -/
import Derived.Test.YtemlnblifkdenaaGreatDoorName
import Derived.Laws.AppendOwnNone
set_option maxRecDepth 100000
set_option maxHeartbeats 8000000
namespace Go.Proofs.YtemlnblifkdenaaGreatDoor
open Go.RowKit
theorem strOf_size (xs:List Int):(strOfNums xs).size=xs.length:=by
 show (xs.map _).toArray.size=_
 simp
end Go.Proofs.YtemlnblifkdenaaGreatDoor
