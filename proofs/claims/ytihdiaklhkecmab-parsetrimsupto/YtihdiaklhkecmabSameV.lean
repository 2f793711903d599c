/- gouacheref03.Same of two slices that hold the same tree. -/
import Derived.Test.YtihdiaklhkecmabTree
import Derived.BigQuiet
import Derived.Deep.QuietTactic
namespace Go.Proofs.Ytihdiaklhkecmab
open Go.RowKit
set_option maxRecDepth 100000

theorem below_drewN5 (B : Nat) (w : World) (n : Nat) : Below B w (w.drewN n) := ⟨rfl, rfl, rfl, Nat.le_refl _, fun _ _ => rfl⟩
end Go.Proofs.Ytihdiaklhkecmab
