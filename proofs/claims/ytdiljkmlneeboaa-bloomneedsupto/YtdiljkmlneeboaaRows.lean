/-
  NARROWER THAN 'FOR EVERY INPUT', by the rows' own cells (each row's printed sentence says how): BloomNeeds: loops.
  DERIVED. THE GIVEN ROWS OF THIS SEAT. 3 by the template 'for every input the law returns true; each argument reads behind the call as it read before'; 0 by the template 'total and deterministic' (their statements: YtdiljkmlneeboaaTotals.lean).
  GIVEN WITH THE SEED: the statements are not yours to turn. If you find one false, say at which input.
  Laid BY PROGRAM, IN A SANDBOX (cutbox-rows.mjs): the forced cells as the released guide's own fill.sh prints them over the translation 3428ffee49e98233… (all of the seat's roots in one cut). By AI agents, Wed Nov 11 2026. No macro, syntax, notation, axiom, sorry.
-/
import Derived.Test.YtdiljkmlneeboaaChecked
import GoSem.Claim
import GoSem.ClaimJoined
import GoSem.ClaimMapViews
import Derived.JoinedTies
import Derived.KernelRfl
namespace Go.Proofs.Ytdiljkmlneeboaa
/- THE CELL 'sum', in the pinned program and in every row, IS THE sha256 OF THE DUMP (.gsa) THAT YtdiljkmlneeboaaProg.lean LOADS. Nothing in Lean hashes anything: it is a label: what it is worth is what the hold of that sum in a sandbox is worth. -/
noncomputable def Try.pinned : Pinned := { name := "ytdiljkmlneeboaa", sum := "3428ffee49e98233713ab4a776fee7324591c0143224477f590397a1f68f8e1d", checked := Try.checked }
namespace Rows
def none {H : Type} : Left H := { results := [], args := [] }

/-- 'gouachelaw10.BloomKeys': WHATEVER THE INPUT: true; the input reads as it did. -/
def bloomKeysSpec : ChangeSpec := { name := "bloomKeys", fn := fun _ => fun
  | [d1, d2, d3] => { results := [.lit (.bool true)], args := [d1, d2, d3] }
  | _ => none }
def bloomKeysRow : OpenClaim := { program := "ytdiljkmlneeboaa", sum := "3428ffee49e98233713ab4a776fee7324591c0143224477f590397a1f68f8e1d", func := "gouache/gouachelaw10.BloomKeys", spec := "bloomKeys", unfollowed := true, recurses := true, apart := false }
def BloomKeysSaid : Prop := bloomKeysRow.holds Try.pinned (OpenSpec.ofChange bloomKeysSpec)

/-- ITS FALSE NEIGHBOUR: 'it returns false'. Refute it at one input. -/
def bloomKeysWrong : ChangeSpec := { name := "bloomKeys", fn := fun _ => fun
  | [d1, d2, d3] => { results := [.lit (.bool false)], args := [d1, d2, d3] }
  | _ => none }
def BloomKeysWrongFalsely : Prop := bloomKeysRow.holds Try.pinned (OpenSpec.ofChange bloomKeysWrong)

/-- 'gouachelaw10.BloomNeeds': WHATEVER THE INPUT: true; the input reads as it did. -/
def bloomNeedsSpec : ChangeSpec := { name := "bloomNeeds", fn := fun _ => fun
  | [d1, d2] => { results := [.lit (.bool true)], args := [d1, d2] }
  | _ => none }
def bloomNeedsRow : OpenClaim := { program := "ytdiljkmlneeboaa", sum := "3428ffee49e98233713ab4a776fee7324591c0143224477f590397a1f68f8e1d", func := "gouache/gouachelaw10.BloomNeeds", spec := "bloomNeeds", unfollowed := true, recurses := true, loops := true, apart := false }
def BloomNeedsSaid : Prop := bloomNeedsRow.holds Try.pinned (OpenSpec.ofChange bloomNeedsSpec)

/-- ITS FALSE NEIGHBOUR: 'it returns false'. Refute it at one input. -/
def bloomNeedsWrong : ChangeSpec := { name := "bloomNeeds", fn := fun _ => fun
  | [d1, d2] => { results := [.lit (.bool false)], args := [d1, d2] }
  | _ => none }
def BloomNeedsWrongFalsely : Prop := bloomNeedsRow.holds Try.pinned (OpenSpec.ofChange bloomNeedsWrong)

/-- 'gouachelaw10.BloomSets': WHATEVER THE INPUT: true; the input reads as it did. -/
def bloomSetsSpec : ChangeSpec := { name := "bloomSets", fn := fun _ => fun
  | [d] => { results := [.lit (.bool true)], args := [d] }
  | _ => none }
def bloomSetsRow : OpenClaim := { program := "ytdiljkmlneeboaa", sum := "3428ffee49e98233713ab4a776fee7324591c0143224477f590397a1f68f8e1d", func := "gouache/gouachelaw10.BloomSets", spec := "bloomSets", unfollowed := true, recurses := true, apart := false }
def BloomSetsSaid : Prop := bloomSetsRow.holds Try.pinned (OpenSpec.ofChange bloomSetsSpec)

/-- ITS FALSE NEIGHBOUR: 'it returns false'. Refute it at one input. -/
def bloomSetsWrong : ChangeSpec := { name := "bloomSets", fn := fun _ => fun
  | [d] => { results := [.lit (.bool false)], args := [d] }
  | _ => none }
def BloomSetsWrongFalsely : Prop := bloomSetsRow.holds Try.pinned (OpenSpec.ofChange bloomSetsWrong)

/- THE SECOND FORM. 'bulk': how many values and letters a reading holds, each counted each time it is reached (what is shared counts as often as it is met; a slice's spare places count too). A statement '..UptoSaid' is the law's where the arguments, and the package variables that the reading takes, are together of bulk at most 1048576: NARROWER than '..Said'. Prove '..Said' where nothing that the law and all that it calls make is longer than what came in: it says more and counts as full. Else prove '..UptoSaid'. A law counts once. -/
mutual
def uptoBulk {H : Type} : DataW H → Nat
  | .lit (.string bytes) => bytes.length + 1
  | .lit _ => 1
  | .nil => 1
  | .ptr d => uptoBulk d + 1
  | .slice elems spare => uptoBulkAll elems + uptoBulkAll spare + 1
  | .agg parts => uptoBulkAll parts + 1
  | .iface _ d => uptoBulk d + 1
  | .map entries => uptoBulkEntries entries + 1
  | .held _ => 1
def uptoBulkAll {H : Type} : List (DataW H) → Nat
  | [] => 0
  | d :: r => uptoBulk d + uptoBulkAll r
def uptoBulkEntries {H : Type} : List (Lit × DataW H) → Nat
  | [] => 0
  | x :: r => uptoBulkEntry x + uptoBulkEntries r
def uptoBulkEntry {H : Type} : Lit × DataW H → Nat
  | (.string bytes, d) => bytes.length + uptoBulk d + 1
  | (_, d) => uptoBulk d + 1
 end
def uptoSmall : (H : Type) → List (DataW H) → Bool := fun _ ds => decide (uptoBulkAll ds ≤ 1048576)
def OpenSpec.upto (s : _root_.Go.ChangeSpec) : _root_.Go.OpenSpec := { _root_.Go.OpenSpec.ofChange s with cond := some uptoSmall }

/-- 'gouachelaw10.BloomKeys', WHERE WHAT IT READS IS OF BULK AT MOST 1048576: true; the input reads as it did. -/
def bloomKeysUptoRow : OpenClaim := { program := "ytdiljkmlneeboaa", sum := "3428ffee49e98233713ab4a776fee7324591c0143224477f590397a1f68f8e1d", func := "gouache/gouachelaw10.BloomKeys", spec := "bloomKeys", unfollowed := true, recurses := true, apart := false, narrowed := true }
def BloomKeysUptoSaid : Prop := bloomKeysUptoRow.holds Try.pinned (OpenSpec.upto bloomKeysSpec)

/-- 'gouachelaw10.BloomNeeds', WHERE WHAT IT READS IS OF BULK AT MOST 1048576: true; the input reads as it did. -/
def bloomNeedsUptoRow : OpenClaim := { program := "ytdiljkmlneeboaa", sum := "3428ffee49e98233713ab4a776fee7324591c0143224477f590397a1f68f8e1d", func := "gouache/gouachelaw10.BloomNeeds", spec := "bloomNeeds", unfollowed := true, recurses := true, loops := true, apart := false, narrowed := true }
def BloomNeedsUptoSaid : Prop := bloomNeedsUptoRow.holds Try.pinned (OpenSpec.upto bloomNeedsSpec)

/-- 'gouachelaw10.BloomSets', WHERE WHAT IT READS IS OF BULK AT MOST 1048576: true; the input reads as it did. -/
def bloomSetsUptoRow : OpenClaim := { program := "ytdiljkmlneeboaa", sum := "3428ffee49e98233713ab4a776fee7324591c0143224477f590397a1f68f8e1d", func := "gouache/gouachelaw10.BloomSets", spec := "bloomSets", unfollowed := true, recurses := true, apart := false, narrowed := true }
def BloomSetsUptoSaid : Prop := bloomSetsUptoRow.holds Try.pinned (OpenSpec.upto bloomSetsSpec)

end Rows
end Go.Proofs.Ytdiljkmlneeboaa
