/- The document's own example: what it says, reckoned. -/
import Derived.Test.YtihdiaklhkecmabTextV
namespace Go.Proofs.Ytihdiaklhkecmab
open Go.RowKit
set_option maxRecDepth 100000

def docS : ByteArray := ⟨#[97, 32, 98, 123, 99, 58, 100, 33, 105, 109, 112, 111, 114, 116, 97, 110, 116, 59, 101, 125, 32, 64, 120, 32, 121, 59, 32, 102, 123, 125]⟩
/-- Its values. -/
def docV : List V := valsZ ((toks (runesZ docS)).map t5)
/-- Nowhere too many, and no long text: by so many steps. -/
def smallB : Nat → List V → Bool
  | 0, _ => false
  | f + 1, vs => decide (vs.length ≤ 1000) && vs.all fun x => decide (x.tok.tx.size ≤ 1000) && smallB f x.kids
theorem smallB_most : ∀ (f : Nat) (vs : List V), smallB f vs = true → V.most vs ∧ vs.length ≤ 1000 ∧ ∀ y ∈ vs, y.tok.tx.size ≤ 1000
  | 0, _, h => by simp [smallB] at h
  | f + 1, vs, h => by
    rw [smallB, Bool.and_eq_true, decide_eq_true_eq, List.all_eq_true] at h
    have h2 : ∀ x ∈ vs, x.tok.tx.size ≤ 1000 ∧ smallB f x.kids = true := fun x hx => by
      have := h.2 x hx
      rwa [Bool.and_eq_true, decide_eq_true_eq] at this
    exact ⟨.mk vs (by omega) (fun x hx => (smallB_most f x.kids (h2 x hx).2).1), h.1, fun y hy => (h2 y hy).1⟩
/-- All that is asked of it. -/
def docB : Bool := smallB 5 docV && (match rulesZ docV.length docV with
  | [x0, _] => smallB 5 x0.2 && (match declsZ x0.2.length x0.2 with
    | [d] => d.1.toList == [99] && d.2.2 && (match d.2.1 with | [v] => v.tok.tx.toList == [100] | _ => false)
    | _ => false)
  | _ => false)
theorem doc_true : docB = true := by kernel_rfl
theorem doc_fine : (toks (runesZ docS)).length = 21 := by kernel_rfl

end Go.Proofs.Ytihdiaklhkecmab
