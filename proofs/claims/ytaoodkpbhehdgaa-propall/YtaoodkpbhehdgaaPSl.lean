/- strings.TrimPrefix, by the shelf. -/
import Derived.Test.YtaoodkpbhehdgaaPFi
import Derived.Shelf.Lay
import Derived.Shelf.Strings.Prefix
namespace Go.Proofs.Ytaoodkpbhehdgaa
open Go.RowKit
set_option maxRecDepth 100000

shelf_lay Lays.n101 Nm 101 at Try as laysTp
theorem trim_any (s p : ByteArray) (w : World) : Calls Try.prog 13 #[.string s, .string p] w fun e w' => e = .returned (.string ⟨(Lib.trimPrefix s.data.toList p.data.toList).toArray⟩) ∧ w' = w := Any.strings_TrimPrefix laysTp s p w
theorem info9 : (Try.prog.info? 9).map (fun i => (i.zero, i.size, i.bytes)) = some (some (.string ⟨#[]⟩), 1, 16) := by kernel_rfl
end Go.Proofs.Ytaoodkpbhehdgaa
