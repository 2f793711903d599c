/- What text.Bytes and gouacheref01.Bytes answer: the characters' bytes, one behind the other. -/
import Derived.Test.YtemlnblifkdenaaGreatDoorEnc
set_option maxRecDepth 100000
set_option maxHeartbeats 8000000
namespace Go.Proofs.YtemlnblifkdenaaGreatDoor
open Go.RowKit
theorem bytesZ_len (xs:List Int):(bytesZ xs).length≤4 * xs.length:=by
 induction xs with
 | nil=>simp [bytesZ]
 | cons x r ih =>
   have h:=(Lib.encodeRuneZ_length x).2
   have e:bytesZ (x::r)=Lib.encodeRuneZ x++bytesZ r:=by simp [bytesZ]
   rw [e,List.length_append,List.length_cons]
   omega
end Go.Proofs.YtemlnblifkdenaaGreatDoor
