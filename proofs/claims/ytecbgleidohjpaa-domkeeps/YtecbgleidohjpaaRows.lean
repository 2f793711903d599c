/-
  No cell of these rows narrows 'for every input' (looked for: loops, veiled, ifaces, maps, wideKeys, modest, calm, conditions, laid).
  DERIVED. THE GIVEN ROWS OF THIS SEAT. 6 by the template 'for every input the law returns true; each argument reads behind the call as it read before'; 0 by the template 'total and deterministic' (their statements: YtecbgleidohjpaaTotals.lean).
  GIVEN WITH THE SEED: the statements are not yours to turn. If you find one false, say at which input.
  Laid BY PROGRAM, IN A SANDBOX (cutbox-rows.mjs): the forced cells as the released guide's own fill.sh prints them over the translation 63d98cef73bf5ff4… (all of the seat's roots in one cut). By AI agents, Wed Nov 11 2026. No macro, syntax, notation, axiom, sorry.
-/
import Derived.Test.YtecbgleidohjpaaChecked
import GoSem.Claim
import GoSem.ClaimJoined
import GoSem.ClaimMapViews
import Derived.JoinedTies
import Derived.KernelRfl
namespace Go.Proofs.Ytecbgleidohjpaa
/- THE CELL 'sum', in the pinned program and in every row, IS THE sha256 OF THE DUMP (.gsa) THAT YtecbgleidohjpaaProg.lean LOADS. Nothing in Lean hashes anything: it is a label: what it is worth is what the hold of that sum in a sandbox is worth. -/
noncomputable def Try.pinned : Pinned := { name := "ytecbgleidohjpaa", sum := "63d98cef73bf5ff406c94ba91723751838ef7f88447ba1e2080105a6f4da9a38", checked := Try.checked }
namespace Rows
def none {H : Type} : Left H := { results := [], args := [] }

/-- 'gouachelaw07.DomActs': WHATEVER THE INPUT: true; the input reads as it did. -/
def domActsSpec : ChangeSpec := { name := "domActs", fn := fun _ => fun
  | [d1, d2, d3] => { results := [.lit (.bool true)], args := [d1, d2, d3] }
  | _ => none }
def domActsRow : OpenClaim := { program := "ytecbgleidohjpaa", sum := "63d98cef73bf5ff406c94ba91723751838ef7f88447ba1e2080105a6f4da9a38", func := "gouache/gouachelaw07.DomActs", spec := "domActs", inPlace := ["internal/bytealg.abigen_runtime_cmpstring"], unfollowed := true, recurses := true, apart := false }
def DomActsSaid : Prop := domActsRow.holds Try.pinned (OpenSpec.ofChange domActsSpec)

/-- ITS FALSE NEIGHBOUR: 'it returns false'. Refute it at one input. -/
def domActsWrong : ChangeSpec := { name := "domActs", fn := fun _ => fun
  | [d1, d2, d3] => { results := [.lit (.bool false)], args := [d1, d2, d3] }
  | _ => none }
def DomActsWrongFalsely : Prop := domActsRow.holds Try.pinned (OpenSpec.ofChange domActsWrong)

/-- 'gouachelaw07.DomWords': WHATEVER THE INPUT: true; the input reads as it did. -/
def domWordsSpec : ChangeSpec := { name := "domWords", fn := fun _ => fun
  | [d] => { results := [.lit (.bool true)], args := [d] }
  | _ => none }
def domWordsRow : OpenClaim := { program := "ytecbgleidohjpaa", sum := "63d98cef73bf5ff406c94ba91723751838ef7f88447ba1e2080105a6f4da9a38", func := "gouache/gouachelaw07.DomWords", spec := "domWords", unfollowed := true, recurses := true, apart := false }
def DomWordsSaid : Prop := domWordsRow.holds Try.pinned (OpenSpec.ofChange domWordsSpec)

/-- ITS FALSE NEIGHBOUR: 'it returns false'. Refute it at one input. -/
def domWordsWrong : ChangeSpec := { name := "domWords", fn := fun _ => fun
  | [d] => { results := [.lit (.bool false)], args := [d] }
  | _ => none }
def DomWordsWrongFalsely : Prop := domWordsRow.holds Try.pinned (OpenSpec.ofChange domWordsWrong)

/-- 'gouachelaw07.DomKeeps': WHATEVER THE INPUT: true; the input reads as it did. -/
def domKeepsSpec : ChangeSpec := { name := "domKeeps", fn := fun _ => fun
  | [d] => { results := [.lit (.bool true)], args := [d] }
  | _ => none }
def domKeepsRow : OpenClaim := { program := "ytecbgleidohjpaa", sum := "63d98cef73bf5ff406c94ba91723751838ef7f88447ba1e2080105a6f4da9a38", func := "gouache/gouachelaw07.DomKeeps", spec := "domKeeps", inPlace := ["internal/bytealg.abigen_runtime_cmpstring"], unfollowed := true, recurses := true, apart := false }
def DomKeepsSaid : Prop := domKeepsRow.holds Try.pinned (OpenSpec.ofChange domKeepsSpec)

/-- ITS FALSE NEIGHBOUR: 'it returns false'. Refute it at one input. -/
def domKeepsWrong : ChangeSpec := { name := "domKeeps", fn := fun _ => fun
  | [d] => { results := [.lit (.bool false)], args := [d] }
  | _ => none }
def DomKeepsWrongFalsely : Prop := domKeepsRow.holds Try.pinned (OpenSpec.ofChange domKeepsWrong)

/-- 'gouachelaw07.DomShape': WHATEVER THE INPUT: true; the input reads as it did. -/
def domShapeSpec : ChangeSpec := { name := "domShape", fn := fun _ => fun
  | [d] => { results := [.lit (.bool true)], args := [d] }
  | _ => none }
def domShapeRow : OpenClaim := { program := "ytecbgleidohjpaa", sum := "63d98cef73bf5ff406c94ba91723751838ef7f88447ba1e2080105a6f4da9a38", func := "gouache/gouachelaw07.DomShape", spec := "domShape", inPlace := ["internal/bytealg.abigen_runtime_cmpstring"], unfollowed := true, recurses := true, apart := false }
def DomShapeSaid : Prop := domShapeRow.holds Try.pinned (OpenSpec.ofChange domShapeSpec)

/-- ITS FALSE NEIGHBOUR: 'it returns false'. Refute it at one input. -/
def domShapeWrong : ChangeSpec := { name := "domShape", fn := fun _ => fun
  | [d] => { results := [.lit (.bool false)], args := [d] }
  | _ => none }
def DomShapeWrongFalsely : Prop := domShapeRow.holds Try.pinned (OpenSpec.ofChange domShapeWrong)

/-- 'gouachelaw07.DomDeep': WHATEVER THE INPUT: true; the input reads as it did. -/
def domDeepSpec : ChangeSpec := { name := "domDeep", fn := fun _ => fun
  | [d] => { results := [.lit (.bool true)], args := [d] }
  | _ => none }
def domDeepRow : OpenClaim := { program := "ytecbgleidohjpaa", sum := "63d98cef73bf5ff406c94ba91723751838ef7f88447ba1e2080105a6f4da9a38", func := "gouache/gouachelaw07.DomDeep", spec := "domDeep", unfollowed := true, recurses := true, apart := false }
def DomDeepSaid : Prop := domDeepRow.holds Try.pinned (OpenSpec.ofChange domDeepSpec)

/-- ITS FALSE NEIGHBOUR: 'it returns false'. Refute it at one input. -/
def domDeepWrong : ChangeSpec := { name := "domDeep", fn := fun _ => fun
  | [d] => { results := [.lit (.bool false)], args := [d] }
  | _ => none }
def DomDeepWrongFalsely : Prop := domDeepRow.holds Try.pinned (OpenSpec.ofChange domDeepWrong)

/-- 'gouachelaw07.DomNone': WHATEVER THE INPUT: true; the input reads as it did. -/
def domNoneSpec : ChangeSpec := { name := "domNone", fn := fun _ => fun
  | [d] => { results := [.lit (.bool true)], args := [d] }
  | _ => none }
def domNoneRow : OpenClaim := { program := "ytecbgleidohjpaa", sum := "63d98cef73bf5ff406c94ba91723751838ef7f88447ba1e2080105a6f4da9a38", func := "gouache/gouachelaw07.DomNone", spec := "domNone", inPlace := ["internal/bytealg.abigen_runtime_cmpstring"], unfollowed := true, recurses := true, apart := false }
def DomNoneSaid : Prop := domNoneRow.holds Try.pinned (OpenSpec.ofChange domNoneSpec)

/-- ITS FALSE NEIGHBOUR: 'it returns false'. Refute it at one input. -/
def domNoneWrong : ChangeSpec := { name := "domNone", fn := fun _ => fun
  | [d] => { results := [.lit (.bool false)], args := [d] }
  | _ => none }
def DomNoneWrongFalsely : Prop := domNoneRow.holds Try.pinned (OpenSpec.ofChange domNoneWrong)

/- THE SECOND FORM. 'bulk': how many values and letters a reading holds, each counted each time it is reached (what is shared counts as often as it is met; a slice's spare places count too). A statement '..UptoSaid' is the law's where the arguments, and the package variables that the reading takes, are together of bulk at most 1048576: NARROWER than '..Said'. Prove '..Said' where nothing that the law and all that it calls make is longer than what came in: it says more and counts as full. Else prove '..UptoSaid'. A law counts once. -/
mutual
def uptoBulk {H : Type} : DataW H → Nat
  | .lit (.string bytes) => bytes.length + 1
  | .lit _ => 1
  | .nil => 1
  | .ptr d => uptoBulk d + 1
  | .slice elems spare => uptoBulkAll elems + uptoBulkAll spare + 1
  | .agg parts => uptoBulkAll parts + 1
  | .iface _ d => uptoBulk d + 1
  | .map entries => uptoBulkEntries entries + 1
  | .held _ => 1
def uptoBulkAll {H : Type} : List (DataW H) → Nat
  | [] => 0
  | d :: r => uptoBulk d + uptoBulkAll r
def uptoBulkEntries {H : Type} : List (Lit × DataW H) → Nat
  | [] => 0
  | x :: r => uptoBulkEntry x + uptoBulkEntries r
def uptoBulkEntry {H : Type} : Lit × DataW H → Nat
  | (.string bytes, d) => bytes.length + uptoBulk d + 1
  | (_, d) => uptoBulk d + 1
 end
def uptoSmall : (H : Type) → List (DataW H) → Bool := fun _ ds => decide (uptoBulkAll ds ≤ 1048576)
def OpenSpec.upto (s : _root_.Go.ChangeSpec) : _root_.Go.OpenSpec := { _root_.Go.OpenSpec.ofChange s with cond := some uptoSmall }

/-- 'gouachelaw07.DomActs', WHERE WHAT IT READS IS OF BULK AT MOST 1048576: true; the input reads as it did. -/
def domActsUptoRow : OpenClaim := { program := "ytecbgleidohjpaa", sum := "63d98cef73bf5ff406c94ba91723751838ef7f88447ba1e2080105a6f4da9a38", func := "gouache/gouachelaw07.DomActs", spec := "domActs", inPlace := ["internal/bytealg.abigen_runtime_cmpstring"], unfollowed := true, recurses := true, apart := false, narrowed := true }
def DomActsUptoSaid : Prop := domActsUptoRow.holds Try.pinned (OpenSpec.upto domActsSpec)

/-- 'gouachelaw07.DomWords', WHERE WHAT IT READS IS OF BULK AT MOST 1048576: true; the input reads as it did. -/
def domWordsUptoRow : OpenClaim := { program := "ytecbgleidohjpaa", sum := "63d98cef73bf5ff406c94ba91723751838ef7f88447ba1e2080105a6f4da9a38", func := "gouache/gouachelaw07.DomWords", spec := "domWords", unfollowed := true, recurses := true, apart := false, narrowed := true }
def DomWordsUptoSaid : Prop := domWordsUptoRow.holds Try.pinned (OpenSpec.upto domWordsSpec)

/-- 'gouachelaw07.DomKeeps', WHERE WHAT IT READS IS OF BULK AT MOST 1048576: true; the input reads as it did. -/
def domKeepsUptoRow : OpenClaim := { program := "ytecbgleidohjpaa", sum := "63d98cef73bf5ff406c94ba91723751838ef7f88447ba1e2080105a6f4da9a38", func := "gouache/gouachelaw07.DomKeeps", spec := "domKeeps", inPlace := ["internal/bytealg.abigen_runtime_cmpstring"], unfollowed := true, recurses := true, apart := false, narrowed := true }
def DomKeepsUptoSaid : Prop := domKeepsUptoRow.holds Try.pinned (OpenSpec.upto domKeepsSpec)

/-- 'gouachelaw07.DomShape', WHERE WHAT IT READS IS OF BULK AT MOST 1048576: true; the input reads as it did. -/
def domShapeUptoRow : OpenClaim := { program := "ytecbgleidohjpaa", sum := "63d98cef73bf5ff406c94ba91723751838ef7f88447ba1e2080105a6f4da9a38", func := "gouache/gouachelaw07.DomShape", spec := "domShape", inPlace := ["internal/bytealg.abigen_runtime_cmpstring"], unfollowed := true, recurses := true, apart := false, narrowed := true }
def DomShapeUptoSaid : Prop := domShapeUptoRow.holds Try.pinned (OpenSpec.upto domShapeSpec)

/-- 'gouachelaw07.DomDeep', WHERE WHAT IT READS IS OF BULK AT MOST 1048576: true; the input reads as it did. -/
def domDeepUptoRow : OpenClaim := { program := "ytecbgleidohjpaa", sum := "63d98cef73bf5ff406c94ba91723751838ef7f88447ba1e2080105a6f4da9a38", func := "gouache/gouachelaw07.DomDeep", spec := "domDeep", unfollowed := true, recurses := true, apart := false, narrowed := true }
def DomDeepUptoSaid : Prop := domDeepUptoRow.holds Try.pinned (OpenSpec.upto domDeepSpec)

/-- 'gouachelaw07.DomNone', WHERE WHAT IT READS IS OF BULK AT MOST 1048576: true; the input reads as it did. -/
def domNoneUptoRow : OpenClaim := { program := "ytecbgleidohjpaa", sum := "63d98cef73bf5ff406c94ba91723751838ef7f88447ba1e2080105a6f4da9a38", func := "gouache/gouachelaw07.DomNone", spec := "domNone", inPlace := ["internal/bytealg.abigen_runtime_cmpstring"], unfollowed := true, recurses := true, apart := false, narrowed := true }
def DomNoneUptoSaid : Prop := domNoneUptoRow.holds Try.pinned (OpenSpec.upto domNoneSpec)

end Rows
end Go.Proofs.Ytecbgleidohjpaa
