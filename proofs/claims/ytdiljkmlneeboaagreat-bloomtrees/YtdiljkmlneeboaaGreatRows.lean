/-
  NARROWER THAN 'FOR EVERY INPUT', by the rows' own cells (each row's printed sentence says how): BloomRight: loops.
  DERIVED. THE GIVEN ROWS OF THIS SEAT. 2 by the template 'for every input the law returns true; each argument reads behind the call as it read before'; 0 by the template 'total and deterministic' (their statements: YtdiljkmlneeboaaGreatTotals.lean).
  GIVEN WITH THE SEED: the statements are not yours to turn. If you find one false, say at which input.
  Laid BY PROGRAM, IN A SANDBOX (cutbox-rows.mjs): the forced cells as the released guide's own fill.sh prints them over the translation ba8dfccf804fe737… (all of the seat's roots in one cut). By AI agents, Wed Nov 11 2026. No macro, syntax, notation, axiom, sorry.
-/
import Derived.Test.YtdiljkmlneeboaaGreatChecked
import GoSem.Claim
import GoSem.ClaimJoined
import GoSem.ClaimMapViews
import Derived.JoinedTies
import Derived.KernelRfl
namespace Go.Proofs.YtdiljkmlneeboaaGreat
/- THE CELL 'sum', in the pinned program and in every row, IS THE sha256 OF THE DUMP (.gsa) THAT YtdiljkmlneeboaaGreatProg.lean LOADS. Nothing in Lean hashes anything: it is a label: what it is worth is what the hold of that sum in a sandbox is worth. -/
noncomputable def Tryz.pinned : Pinned := { name := "ytdiljkmlneeboaagreat", sum := "ba8dfccf804fe7378e03e138ba796787fa519c2776c185890e8aee5b91f04f08", checked := Tryz.checked }
namespace Rows
def none {H : Type} : Left H := { results := [], args := [] }

/-- 'gouachelaw10.BloomTrees': WHATEVER THE INPUT: true; the input reads as it did. -/
def bloomTreesSpec : ChangeSpec := { name := "bloomTrees", fn := fun _ => fun
  | [d1, d2] => { results := [.lit (.bool true)], args := [d1, d2] }
  | _ => none }
def bloomTreesRow : OpenClaim := { program := "ytdiljkmlneeboaagreat", sum := "ba8dfccf804fe7378e03e138ba796787fa519c2776c185890e8aee5b91f04f08", func := "gouache/gouachelaw10.BloomTrees", spec := "bloomTrees", inPlace := ["internal/bytealg.abigen_runtime_cmpstring"], unfollowed := true, recurses := true, plainKeys := false, apart := false }
def BloomTreesSaid : Prop := bloomTreesRow.holds Tryz.pinned (OpenSpec.ofChange bloomTreesSpec)

/-- ITS FALSE NEIGHBOUR: 'it returns false'. Refute it at one input. -/
def bloomTreesWrong : ChangeSpec := { name := "bloomTrees", fn := fun _ => fun
  | [d1, d2] => { results := [.lit (.bool false)], args := [d1, d2] }
  | _ => none }
def BloomTreesWrongFalsely : Prop := bloomTreesRow.holds Tryz.pinned (OpenSpec.ofChange bloomTreesWrong)

/-- 'gouachelaw10.BloomRight': WHATEVER THE INPUT: true; the input reads as it did. -/
def bloomRightSpec : ChangeSpec := { name := "bloomRight", fn := fun _ => fun
  | [d1, d2, d3] => { results := [.lit (.bool true)], args := [d1, d2, d3] }
  | _ => none }
def bloomRightRow : OpenClaim := { program := "ytdiljkmlneeboaagreat", sum := "ba8dfccf804fe7378e03e138ba796787fa519c2776c185890e8aee5b91f04f08", func := "gouache/gouachelaw10.BloomRight", spec := "bloomRight", inPlace := ["internal/bytealg.abigen_runtime_cmpstring", "internal/bytealg.IndexByteString", "internal/bytealg.IndexString"], unfollowed := true, recurses := true, named := ["internal/bytealg.MaxLen"], loops := true, plainKeys := false, apart := false }
def BloomRightSaid : Prop := bloomRightRow.holds Tryz.pinned (OpenSpec.ofChange bloomRightSpec)

/-- ITS FALSE NEIGHBOUR: 'it returns false'. Refute it at one input. -/
def bloomRightWrong : ChangeSpec := { name := "bloomRight", fn := fun _ => fun
  | [d1, d2, d3] => { results := [.lit (.bool false)], args := [d1, d2, d3] }
  | _ => none }
def BloomRightWrongFalsely : Prop := bloomRightRow.holds Tryz.pinned (OpenSpec.ofChange bloomRightWrong)

/- THE SECOND FORM. 'bulk': how many values and letters a reading holds, each counted each time it is reached (what is shared counts as often as it is met; a slice's spare places count too). A statement '..UptoSaid' is the law's where the arguments, and the package variables that the reading takes, are together of bulk at most 1048576: NARROWER than '..Said'. Prove '..Said' where nothing that the law and all that it calls make is longer than what came in: it says more and counts as full. Else prove '..UptoSaid'. A law counts once. -/
mutual
def uptoBulk {H : Type} : DataW H → Nat
  | .lit (.string bytes) => bytes.length + 1
  | .lit _ => 1
  | .nil => 1
  | .ptr d => uptoBulk d + 1
  | .slice elems spare => uptoBulkAll elems + uptoBulkAll spare + 1
  | .agg parts => uptoBulkAll parts + 1
  | .iface _ d => uptoBulk d + 1
  | .map entries => uptoBulkEntries entries + 1
  | .held _ => 1
def uptoBulkAll {H : Type} : List (DataW H) → Nat
  | [] => 0
  | d :: r => uptoBulk d + uptoBulkAll r
def uptoBulkEntries {H : Type} : List (Lit × DataW H) → Nat
  | [] => 0
  | x :: r => uptoBulkEntry x + uptoBulkEntries r
def uptoBulkEntry {H : Type} : Lit × DataW H → Nat
  | (.string bytes, d) => bytes.length + uptoBulk d + 1
  | (_, d) => uptoBulk d + 1
 end
def uptoSmall : (H : Type) → List (DataW H) → Bool := fun _ ds => decide (uptoBulkAll ds ≤ 1048576)
def OpenSpec.upto (s : _root_.Go.ChangeSpec) : _root_.Go.OpenSpec := { _root_.Go.OpenSpec.ofChange s with cond := some uptoSmall }

/-- 'gouachelaw10.BloomTrees', WHERE WHAT IT READS IS OF BULK AT MOST 1048576: true; the input reads as it did. -/
def bloomTreesUptoRow : OpenClaim := { program := "ytdiljkmlneeboaagreat", sum := "ba8dfccf804fe7378e03e138ba796787fa519c2776c185890e8aee5b91f04f08", func := "gouache/gouachelaw10.BloomTrees", spec := "bloomTrees", inPlace := ["internal/bytealg.abigen_runtime_cmpstring"], unfollowed := true, recurses := true, plainKeys := false, apart := false, narrowed := true }
def BloomTreesUptoSaid : Prop := bloomTreesUptoRow.holds Tryz.pinned (OpenSpec.upto bloomTreesSpec)

/-- 'gouachelaw10.BloomRight', WHERE WHAT IT READS IS OF BULK AT MOST 1048576: true; the input reads as it did. -/
def bloomRightUptoRow : OpenClaim := { program := "ytdiljkmlneeboaagreat", sum := "ba8dfccf804fe7378e03e138ba796787fa519c2776c185890e8aee5b91f04f08", func := "gouache/gouachelaw10.BloomRight", spec := "bloomRight", inPlace := ["internal/bytealg.abigen_runtime_cmpstring", "internal/bytealg.IndexByteString", "internal/bytealg.IndexString"], unfollowed := true, recurses := true, named := ["internal/bytealg.MaxLen"], loops := true, plainKeys := false, apart := false, narrowed := true }
def BloomRightUptoSaid : Prop := bloomRightUptoRow.holds Tryz.pinned (OpenSpec.upto bloomRightSpec)

end Rows
end Go.Proofs.YtdiljkmlneeboaaGreat
