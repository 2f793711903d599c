/- What text.Name answers: whether all characters fit, the first one being a small letter; it leaves all that was there. -/
import Derived.Test.YtihdiaklhkecmabSame
import Derived.Test.YtihdiaklhkecmabPlain
namespace Go.Proofs.Ytihdiaklhkecmab
open Go.RowKit

def fitZ (first : Bool) (c : Int) : Bool := if first then smallZ c else smallZ c || digitZ c || c == 45 || c == 95
def namesZ : Bool → List Int → Bool
  | _, [] => true
  | f, c :: r => fitZ f c && namesZ false r
def nameZ (s : ByteArray) : Bool := if s.size = 0 ∨ 64 < s.size then false else namesZ true (chars s)

theorem setCell_block {w : World} {g k : Nat} (v : Value) (h : k ≠ g) : (w.setCell ⟨g, 0, none⟩ v).heap[k]? = w.heap[k]? := Below.heap_setCell w ⟨g, 0, none⟩ v k h

end Go.Proofs.Ytihdiaklhkecmab
