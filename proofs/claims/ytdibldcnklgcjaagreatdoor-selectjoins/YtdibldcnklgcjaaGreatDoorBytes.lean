/- What text.Bytes and gouacheref01.Bytes answer: the characters' bytes, one behind the other. -/
import Derived.Test.YtdibldcnklgcjaaGreatDoorEnc
namespace Go.Proofs.YtdibldcnklgcjaaGreatDoor
open Go.RowKit
set_option maxRecDepth 100000

theorem bytesZ_len (xs : List Int) : (bytesZ xs).length ≤ 4 * xs.length := by
  induction xs with
  | nil => simp [bytesZ]
  | cons x r ih =>
    have h := (Lib.encodeRuneZ_length x).2
    have e : bytesZ (x :: r) = Lib.encodeRuneZ x ++ bytesZ r := by simp [bytesZ]
    rw [e, List.length_append, List.length_cons]
    omega

theorem bytesZ_take {xs : List Int} {k : Nat} (h : k < xs.length) : bytesZ (xs.take (k + 1)) = bytesZ (xs.take k) ++ Lib.encodeRuneZ (xs.getD k 0) := by
  rw [List.take_succ_eq_append_getElem h, bytesZ, List.flatMap_append, ← bytesZ]
  congr 1
  simp [List.getD, h]

theorem bytesZ_wf (xs : List Int) : ∀ n ∈ bytesZ xs, (Lit.int .u8 n).wf = true := by
  intro n hn
  obtain ⟨x, _, hx⟩ := List.mem_flatMap.1 hn
  have := Lib.encodeRuneZ_byte x n hx
  simp [Lit.wf, IntKind.min, IntKind.max, IntKind.signed, IntKind.bits]
  omega

theorem news_block {w : World} {l : List Int} : ∀ (j : Nat) u, (l.map (Value.int .u8))[j]? = some u → (w.alloc (.cells (l.map (Value.int .u8)).toArray 5)).cell? ((⟨w.heap.size, 0, none⟩ : Addr).add j) = some u := by
  intro j u hj
  have e : (⟨w.heap.size, 0, none⟩ : Addr).add j = ⟨w.heap.size, j, none⟩ := by unfold Addr.add; split <;> simp_all
  rw [e, World.cell?_alloc_new]
  simpa using hj

end Go.Proofs.YtdibldcnklgcjaaGreatDoor
