/- What utf8.AppendRune and gouacheref01.one lay: a character's bytes. -/
import Derived.Test.YtihdiaklhkecmabName
import Derived.Lib.RuneBytes
namespace Go.Proofs.Ytihdiaklhkecmab
open Go.RowKit

/-- A block that is laid out cell by cell holds these cells. -/
theorem news_lit (w : World) (l : List Int) : ∀ (j : Nat) u, (l.map (Value.int .u8))[j]? = some u → (w.alloc (.cells (l.map (Value.int .u8)).toArray 5)).cell? ((⟨w.heap.size, 0, none⟩ : Addr).add j) = some u := by
  intro j u hj
  have e : (⟨w.heap.size, 0, none⟩ : Addr).add j = ⟨w.heap.size, j, none⟩ := by unfold Addr.add; split <;> simp_all
  rw [e, World.cell?_alloc_new]
  simpa using hj

end Go.Proofs.Ytihdiaklhkecmab
