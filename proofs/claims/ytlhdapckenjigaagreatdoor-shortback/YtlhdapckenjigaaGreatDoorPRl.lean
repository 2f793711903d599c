/- The table of the longhands: what prop.longhands and the document's All lay. prop.longhands, prop.All and the document's All: what they answer. prop.eachLonghand: an iterator that tells each longhand behind its place. prop.found: a longhand behind its place. Texts in a slice; gouacheref14.Texts; prop.Find and prop.Place. prop.Find, prop.Place, and the document's. strings.Split and strings.TrimPrefix, by the shelf; prop.Forms. The document's Forms. The document's Find; prop.All; the sides of a name. strings.Split and strings.TrimPrefix, by the shelf; prop.Forms. Texts in a slice; gouacheref14.Texts; prop.Find and prop.Place. The longhands of a shorthand. prop.Longs. The document's Longs. -/
import Derived.Test.YtlhdapckenjigaaGreatDoorRows
import Derived.WalkKit
import Derived.Deep.WholeRow
import Derived.Deep.MidRow
import Derived.Great.CaseRows
import Derived.Great.BuildSlice
import Derived.RangeFuncNested
import Derived.RangeFuncBound
import Derived.RangeFuncCalls
import Derived.RangeFuncLeaves
import Derived.Shelf.Abstract
import Derived.Shelf.RegionOpen
import Derived.OwnWalkIn
import Derived.TacticsInMore
import Derived.LoopNIn
import Derived.LoopIn
import Derived.RangeFuncBox
import Derived.Laws.OwnMore
import Derived.OwnWalk
import Derived.Deep.QuietTactic
import Derived.BigQuiet
import Derived.Deep.DeepCutAuto
import Derived.Deep.CutBlock
import Derived.WalkSmall
import Derived.WalkMore
import Derived.WalkLawsBesides
import Derived.Deep.RegionHeld3
import Derived.Laws.IdiomStrings
import Derived.Deep.AppendLies
import Derived.Maps.AppendAt
import Derived.Handy
import Derived.Shelf.Lay
import Derived.Shelf.Strings.SplitShaped
import Derived.Shelf.Strings.Prefix
import Derived.WideShapes
namespace Go.Proofs.YtlhdapckenjigaaGreatDoor.P
open Go.RowKit
set_option maxRecDepth 100000

theorem hid_mk {p : Prop} (h : p) : Hid p := h
/-- A longhand. -/
structure Pr where
  n : ByteArray
  i : ByteArray
  h : Bool
  f : ByteArray
def Pr.cs (p : Pr) : List Value := [.string p.n, .string p.i, .bool p.h, .string p.f]
def Pr.v (p : Pr) : Value := .agg p.cs.toArray
def T : List Pr := [
  ⟨⟨#[100, 105, 115, 112, 108, 97, 121]⟩, ⟨#[105, 110, 108, 105, 110, 101]⟩, false, ⟨#[98, 108, 111, 99, 107, 124, 105, 110, 108, 105, 110, 101, 124, 105, 110, 108, 105, 110, 101, 45, 98, 108, 111, 99, 107, 124, 102, 108, 101, 120, 124, 103, 114, 105, 100, 124, 110, 111, 110, 101, 124, 99, 111, 110, 116, 101, 110, 116, 115, 124, 116, 97, 98, 108, 101]⟩⟩,
  ⟨⟨#[112, 111, 115, 105, 116, 105, 111, 110]⟩, ⟨#[115, 116, 97, 116, 105, 99]⟩, false, ⟨#[115, 116, 97, 116, 105, 99, 124, 114, 101, 108, 97, 116, 105, 118, 101, 124, 97, 98, 115, 111, 108, 117, 116, 101, 124, 102, 105, 120, 101, 100, 124, 115, 116, 105, 99, 107, 121]⟩⟩,
  ⟨⟨#[102, 108, 111, 97, 116]⟩, ⟨#[110, 111, 110, 101]⟩, false, ⟨#[108, 101, 102, 116, 124, 114, 105, 103, 104, 116, 124, 110, 111, 110, 101]⟩⟩,
  ⟨⟨#[99, 108, 101, 97, 114]⟩, ⟨#[110, 111, 110, 101]⟩, false, ⟨#[108, 101, 102, 116, 124, 114, 105, 103, 104, 116, 124, 98, 111, 116, 104, 124, 110, 111, 110, 101]⟩⟩,
  ⟨⟨#[118, 105, 115, 105, 98, 105, 108, 105, 116, 121]⟩, ⟨#[118, 105, 115, 105, 98, 108, 101]⟩, true, ⟨#[118, 105, 115, 105, 98, 108, 101, 124, 104, 105, 100, 100, 101, 110, 124, 99, 111, 108, 108, 97, 112, 115, 101]⟩⟩,
  ⟨⟨#[111, 118, 101, 114, 102, 108, 111, 119, 45, 120]⟩, ⟨#[118, 105, 115, 105, 98, 108, 101]⟩, false, ⟨#[118, 105, 115, 105, 98, 108, 101, 124, 104, 105, 100, 100, 101, 110, 124, 99, 108, 105, 112, 124, 115, 99, 114, 111, 108, 108, 124, 97, 117, 116, 111]⟩⟩,
  ⟨⟨#[111, 118, 101, 114, 102, 108, 111, 119, 45, 121]⟩, ⟨#[118, 105, 115, 105, 98, 108, 101]⟩, false, ⟨#[118, 105, 115, 105, 98, 108, 101, 124, 104, 105, 100, 100, 101, 110, 124, 99, 108, 105, 112, 124, 115, 99, 114, 111, 108, 108, 124, 97, 117, 116, 111]⟩⟩,
  ⟨⟨#[98, 111, 120, 45, 115, 105, 122, 105, 110, 103]⟩, ⟨#[99, 111, 110, 116, 101, 110, 116, 45, 98, 111, 120]⟩, false, ⟨#[99, 111, 110, 116, 101, 110, 116, 45, 98, 111, 120, 124, 98, 111, 114, 100, 101, 114, 45, 98, 111, 120]⟩⟩,
  ⟨⟨#[119, 105, 100, 116, 104]⟩, ⟨#[97, 117, 116, 111]⟩, false, ⟨#[97, 117, 116, 111, 124, 60, 108, 101, 110, 43, 62, 124, 60, 112, 99, 116, 43, 62]⟩⟩,
  ⟨⟨#[104, 101, 105, 103, 104, 116]⟩, ⟨#[97, 117, 116, 111]⟩, false, ⟨#[97, 117, 116, 111, 124, 60, 108, 101, 110, 43, 62, 124, 60, 112, 99, 116, 43, 62]⟩⟩,
  ⟨⟨#[109, 105, 110, 45, 119, 105, 100, 116, 104]⟩, ⟨#[97, 117, 116, 111]⟩, false, ⟨#[97, 117, 116, 111, 124, 60, 108, 101, 110, 43, 62, 124, 60, 112, 99, 116, 43, 62]⟩⟩,
  ⟨⟨#[109, 105, 110, 45, 104, 101, 105, 103, 104, 116]⟩, ⟨#[97, 117, 116, 111]⟩, false, ⟨#[97, 117, 116, 111, 124, 60, 108, 101, 110, 43, 62, 124, 60, 112, 99, 116, 43, 62]⟩⟩,
  ⟨⟨#[109, 97, 120, 45, 119, 105, 100, 116, 104]⟩, ⟨#[110, 111, 110, 101]⟩, false, ⟨#[110, 111, 110, 101, 124, 60, 108, 101, 110, 43, 62, 124, 60, 112, 99, 116, 43, 62]⟩⟩,
  ⟨⟨#[109, 97, 120, 45, 104, 101, 105, 103, 104, 116]⟩, ⟨#[110, 111, 110, 101]⟩, false, ⟨#[110, 111, 110, 101, 124, 60, 108, 101, 110, 43, 62, 124, 60, 112, 99, 116, 43, 62]⟩⟩,
  ⟨⟨#[109, 97, 114, 103, 105, 110, 45, 116, 111, 112]⟩, ⟨#[48, 112, 120]⟩, false, ⟨#[97, 117, 116, 111, 124, 60, 108, 101, 110, 62, 124, 60, 112, 99, 116, 62]⟩⟩,
  ⟨⟨#[109, 97, 114, 103, 105, 110, 45, 114, 105, 103, 104, 116]⟩, ⟨#[48, 112, 120]⟩, false, ⟨#[97, 117, 116, 111, 124, 60, 108, 101, 110, 62, 124, 60, 112, 99, 116, 62]⟩⟩,
  ⟨⟨#[109, 97, 114, 103, 105, 110, 45, 98, 111, 116, 116, 111, 109]⟩, ⟨#[48, 112, 120]⟩, false, ⟨#[97, 117, 116, 111, 124, 60, 108, 101, 110, 62, 124, 60, 112, 99, 116, 62]⟩⟩,
  ⟨⟨#[109, 97, 114, 103, 105, 110, 45, 108, 101, 102, 116]⟩, ⟨#[48, 112, 120]⟩, false, ⟨#[97, 117, 116, 111, 124, 60, 108, 101, 110, 62, 124, 60, 112, 99, 116, 62]⟩⟩,
  ⟨⟨#[112, 97, 100, 100, 105, 110, 103, 45, 116, 111, 112]⟩, ⟨#[48, 112, 120]⟩, false, ⟨#[60, 108, 101, 110, 43, 62, 124, 60, 112, 99, 116, 43, 62]⟩⟩,
  ⟨⟨#[112, 97, 100, 100, 105, 110, 103, 45, 114, 105, 103, 104, 116]⟩, ⟨#[48, 112, 120]⟩, false, ⟨#[60, 108, 101, 110, 43, 62, 124, 60, 112, 99, 116, 43, 62]⟩⟩,
  ⟨⟨#[112, 97, 100, 100, 105, 110, 103, 45, 98, 111, 116, 116, 111, 109]⟩, ⟨#[48, 112, 120]⟩, false, ⟨#[60, 108, 101, 110, 43, 62, 124, 60, 112, 99, 116, 43, 62]⟩⟩,
  ⟨⟨#[112, 97, 100, 100, 105, 110, 103, 45, 108, 101, 102, 116]⟩, ⟨#[48, 112, 120]⟩, false, ⟨#[60, 108, 101, 110, 43, 62, 124, 60, 112, 99, 116, 43, 62]⟩⟩,
  ⟨⟨#[98, 111, 114, 100, 101, 114, 45, 116, 111, 112, 45, 119, 105, 100, 116, 104]⟩, ⟨#[109, 101, 100, 105, 117, 109]⟩, false, ⟨#[116, 104, 105, 110, 124, 109, 101, 100, 105, 117, 109, 124, 116, 104, 105, 99, 107, 124, 60, 108, 101, 110, 43, 62]⟩⟩,
  ⟨⟨#[98, 111, 114, 100, 101, 114, 45, 114, 105, 103, 104, 116, 45, 119, 105, 100, 116, 104]⟩, ⟨#[109, 101, 100, 105, 117, 109]⟩, false, ⟨#[116, 104, 105, 110, 124, 109, 101, 100, 105, 117, 109, 124, 116, 104, 105, 99, 107, 124, 60, 108, 101, 110, 43, 62]⟩⟩,
  ⟨⟨#[98, 111, 114, 100, 101, 114, 45, 98, 111, 116, 116, 111, 109, 45, 119, 105, 100, 116, 104]⟩, ⟨#[109, 101, 100, 105, 117, 109]⟩, false, ⟨#[116, 104, 105, 110, 124, 109, 101, 100, 105, 117, 109, 124, 116, 104, 105, 99, 107, 124, 60, 108, 101, 110, 43, 62]⟩⟩,
  ⟨⟨#[98, 111, 114, 100, 101, 114, 45, 108, 101, 102, 116, 45, 119, 105, 100, 116, 104]⟩, ⟨#[109, 101, 100, 105, 117, 109]⟩, false, ⟨#[116, 104, 105, 110, 124, 109, 101, 100, 105, 117, 109, 124, 116, 104, 105, 99, 107, 124, 60, 108, 101, 110, 43, 62]⟩⟩,
  ⟨⟨#[98, 111, 114, 100, 101, 114, 45, 116, 111, 112, 45, 115, 116, 121, 108, 101]⟩, ⟨#[110, 111, 110, 101]⟩, false, ⟨#[110, 111, 110, 101, 124, 104, 105, 100, 100, 101, 110, 124, 100, 111, 116, 116, 101, 100, 124, 100, 97, 115, 104, 101, 100, 124, 115, 111, 108, 105, 100, 124, 100, 111, 117, 98, 108, 101]⟩⟩,
  ⟨⟨#[98, 111, 114, 100, 101, 114, 45, 114, 105, 103, 104, 116, 45, 115, 116, 121, 108, 101]⟩, ⟨#[110, 111, 110, 101]⟩, false, ⟨#[110, 111, 110, 101, 124, 104, 105, 100, 100, 101, 110, 124, 100, 111, 116, 116, 101, 100, 124, 100, 97, 115, 104, 101, 100, 124, 115, 111, 108, 105, 100, 124, 100, 111, 117, 98, 108, 101]⟩⟩,
  ⟨⟨#[98, 111, 114, 100, 101, 114, 45, 98, 111, 116, 116, 111, 109, 45, 115, 116, 121, 108, 101]⟩, ⟨#[110, 111, 110, 101]⟩, false, ⟨#[110, 111, 110, 101, 124, 104, 105, 100, 100, 101, 110, 124, 100, 111, 116, 116, 101, 100, 124, 100, 97, 115, 104, 101, 100, 124, 115, 111, 108, 105, 100, 124, 100, 111, 117, 98, 108, 101]⟩⟩,
  ⟨⟨#[98, 111, 114, 100, 101, 114, 45, 108, 101, 102, 116, 45, 115, 116, 121, 108, 101]⟩, ⟨#[110, 111, 110, 101]⟩, false, ⟨#[110, 111, 110, 101, 124, 104, 105, 100, 100, 101, 110, 124, 100, 111, 116, 116, 101, 100, 124, 100, 97, 115, 104, 101, 100, 124, 115, 111, 108, 105, 100, 124, 100, 111, 117, 98, 108, 101]⟩⟩,
  ⟨⟨#[98, 111, 114, 100, 101, 114, 45, 116, 111, 112, 45, 99, 111, 108, 111, 114]⟩, ⟨#[99, 117, 114, 114, 101, 110, 116, 99, 111, 108, 111, 114]⟩, false, ⟨#[99, 117, 114, 114, 101, 110, 116, 99, 111, 108, 111, 114, 124, 116, 114, 97, 110, 115, 112, 97, 114, 101, 110, 116, 124, 60, 99, 111, 108, 111, 114, 62]⟩⟩,
  ⟨⟨#[98, 111, 114, 100, 101, 114, 45, 114, 105, 103, 104, 116, 45, 99, 111, 108, 111, 114]⟩, ⟨#[99, 117, 114, 114, 101, 110, 116, 99, 111, 108, 111, 114]⟩, false, ⟨#[99, 117, 114, 114, 101, 110, 116, 99, 111, 108, 111, 114, 124, 116, 114, 97, 110, 115, 112, 97, 114, 101, 110, 116, 124, 60, 99, 111, 108, 111, 114, 62]⟩⟩,
  ⟨⟨#[98, 111, 114, 100, 101, 114, 45, 98, 111, 116, 116, 111, 109, 45, 99, 111, 108, 111, 114]⟩, ⟨#[99, 117, 114, 114, 101, 110, 116, 99, 111, 108, 111, 114]⟩, false, ⟨#[99, 117, 114, 114, 101, 110, 116, 99, 111, 108, 111, 114, 124, 116, 114, 97, 110, 115, 112, 97, 114, 101, 110, 116, 124, 60, 99, 111, 108, 111, 114, 62]⟩⟩,
  ⟨⟨#[98, 111, 114, 100, 101, 114, 45, 108, 101, 102, 116, 45, 99, 111, 108, 111, 114]⟩, ⟨#[99, 117, 114, 114, 101, 110, 116, 99, 111, 108, 111, 114]⟩, false, ⟨#[99, 117, 114, 114, 101, 110, 116, 99, 111, 108, 111, 114, 124, 116, 114, 97, 110, 115, 112, 97, 114, 101, 110, 116, 124, 60, 99, 111, 108, 111, 114, 62]⟩⟩,
  ⟨⟨#[116, 111, 112]⟩, ⟨#[97, 117, 116, 111]⟩, false, ⟨#[97, 117, 116, 111, 124, 60, 108, 101, 110, 62, 124, 60, 112, 99, 116, 62]⟩⟩,
  ⟨⟨#[114, 105, 103, 104, 116]⟩, ⟨#[97, 117, 116, 111]⟩, false, ⟨#[97, 117, 116, 111, 124, 60, 108, 101, 110, 62, 124, 60, 112, 99, 116, 62]⟩⟩,
  ⟨⟨#[98, 111, 116, 116, 111, 109]⟩, ⟨#[97, 117, 116, 111]⟩, false, ⟨#[97, 117, 116, 111, 124, 60, 108, 101, 110, 62, 124, 60, 112, 99, 116, 62]⟩⟩,
  ⟨⟨#[108, 101, 102, 116]⟩, ⟨#[97, 117, 116, 111]⟩, false, ⟨#[97, 117, 116, 111, 124, 60, 108, 101, 110, 62, 124, 60, 112, 99, 116, 62]⟩⟩,
  ⟨⟨#[99, 111, 108, 111, 114]⟩, ⟨#[35, 48, 48, 48, 48, 48, 48]⟩, true, ⟨#[60, 99, 111, 108, 111, 114, 62]⟩⟩,
  ⟨⟨#[98, 97, 99, 107, 103, 114, 111, 117, 110, 100, 45, 99, 111, 108, 111, 114]⟩, ⟨#[116, 114, 97, 110, 115, 112, 97, 114, 101, 110, 116]⟩, false, ⟨#[116, 114, 97, 110, 115, 112, 97, 114, 101, 110, 116, 124, 99, 117, 114, 114, 101, 110, 116, 99, 111, 108, 111, 114, 124, 60, 99, 111, 108, 111, 114, 62]⟩⟩,
  ⟨⟨#[102, 111, 110, 116, 45, 115, 105, 122, 101]⟩, ⟨#[49, 54, 112, 120]⟩, true, ⟨#[60, 108, 101, 110, 43, 62, 124, 60, 112, 99, 116, 43, 62]⟩⟩,
  ⟨⟨#[102, 111, 110, 116, 45, 119, 101, 105, 103, 104, 116]⟩, ⟨#[110, 111, 114, 109, 97, 108]⟩, true, ⟨#[110, 111, 114, 109, 97, 108, 124, 98, 111, 108, 100, 124, 60, 105, 110, 116, 43, 62]⟩⟩,
  ⟨⟨#[108, 105, 110, 101, 45, 104, 101, 105, 103, 104, 116]⟩, ⟨#[110, 111, 114, 109, 97, 108]⟩, true, ⟨#[110, 111, 114, 109, 97, 108, 124, 60, 105, 110, 116, 43, 62, 124, 60, 108, 101, 110, 43, 62, 124, 60, 112, 99, 116, 43, 62]⟩⟩,
  ⟨⟨#[116, 101, 120, 116, 45, 97, 108, 105, 103, 110]⟩, ⟨#[115, 116, 97, 114, 116]⟩, true, ⟨#[115, 116, 97, 114, 116, 124, 101, 110, 100, 124, 108, 101, 102, 116, 124, 114, 105, 103, 104, 116, 124, 99, 101, 110, 116, 101, 114, 124, 106, 117, 115, 116, 105, 102, 121]⟩⟩,
  ⟨⟨#[119, 104, 105, 116, 101, 45, 115, 112, 97, 99, 101]⟩, ⟨#[110, 111, 114, 109, 97, 108]⟩, true, ⟨#[110, 111, 114, 109, 97, 108, 124, 110, 111, 119, 114, 97, 112, 124, 112, 114, 101, 124, 112, 114, 101, 45, 119, 114, 97, 112]⟩⟩,
  ⟨⟨#[100, 105, 114, 101, 99, 116, 105, 111, 110]⟩, ⟨#[108, 116, 114]⟩, true, ⟨#[108, 116, 114, 124, 114, 116, 108]⟩⟩,
  ⟨⟨#[111, 114, 100, 101, 114]⟩, ⟨#[48]⟩, false, ⟨#[60, 105, 110, 116, 62]⟩⟩,
  ⟨⟨#[122, 45, 105, 110, 100, 101, 120]⟩, ⟨#[97, 117, 116, 111]⟩, false, ⟨#[97, 117, 116, 111, 124, 60, 105, 110, 116, 62]⟩⟩]
def TC : List Value := T.flatMap Pr.cs
theorem T_len : T.length = 48 := by kernel_rfl
theorem TC_len : TC.length = 192 := by kernel_rfl

/-- Builds, one behind the other. -/
def bld (P : Program) : List Oper → Act → Option Act
  | [], a => some a
  | o :: r, a => match o.guard, o.op with
    | none, .build t parts => match P.built t (parts.map fun (i, x) => (i, a.eval x)).toList with
      | some cs => bld P r (a.put o.dst (.agg cs))
      | none => none
    | _, _ => none
theorem wpList_bld {P : Program} {ops : Array Oper} {Q : Exit → Act → World → Prop} {rest : List Oper} {w : World} : ∀ (l : List Oper) (a a' : Act), bld P l a = some a' → wpList P ops Q rest a' w → wpList P ops Q (l ++ rest) a w
  | [], a, a', h, hq => by
    injection h with h
    subst h
    exact hq
  | o :: r, a, a', h, hq => by
    unfold bld at h
    split at h
    · rename_i t parts hg ho
      split at h
      · rename_i cs hc
        refine wpList_build hg t parts ho (by rw [hc]; rfl) ?_
        rw [hc]
        exact wpList_bld r _ a' h hq
      · cases h
    · cases h
end Go.Proofs.YtlhdapckenjigaaGreatDoor.P
namespace Go.Proofs.YtlhdapckenjigaaGreatDoor.P
open Go.RowKit
set_option maxRecDepth 100000

def opsOf : Option Code → Array Oper
  | some (.seq _ (.seq (.region _ ops _) _)) => ops
  | _ => #[]
def hdOf : Option Code → Array Oper
  | some (.seq (.region _ ops _) _) => ops
  | _ => #[]
noncomputable def LB : Array Oper := opsOf Tryz.f133.body
noncomputable def LH : Array Oper := hdOf Tryz.f133.body
noncomputable def RB : Array Oper := opsOf Tryz.f47.body
noncomputable def RH : Array Oper := hdOf Tryz.f47.body
theorem body24 : Tryz.f133.body = some (.seq (.region 0 LH false) (.seq (.region 1 LB false) .ret)) := by kernel_rfl
theorem body17 : Tryz.f47.body = some (.seq (.region 0 RH false) (.seq (.region 1 RB false) .ret)) := by kernel_rfl
theorem one_of {l : List Oper} {g : Option (Nat × Bool)} {op : Op} {d : Option Tmp} (h : l.map (fun o => (o.guard, o.op, o.dst)) = [(g, op, d)]) : ∃ o, l = [o] ∧ o.guard = g ∧ o.op = op ∧ o.dst = d := by
  cases l with
  | nil => simp at h
  | cons o r =>
    cases r with
    | nil =>
      simp only [List.map_cons, List.map_nil, List.cons.injEq, Prod.mk.injEq, and_true] at h
      exact ⟨o, rfl, h.1, h.2.1, h.2.2⟩
    | cons o2 r => simp at h
theorem two_of {l : List Oper} {g g' : Option (Nat × Bool)} {op op' : Op} {d d' : Option Tmp} (h : l.map (fun o => (o.guard, o.op, o.dst)) = [(g, op, d), (g', op', d')]) : ∃ o o', l = [o, o'] ∧ (o.guard = g ∧ o.op = op ∧ o.dst = d) ∧ (o'.guard = g' ∧ o'.op = op' ∧ o'.dst = d') := by
  cases l with
  | nil => simp at h
  | cons o r =>
    cases r with
    | nil => simp at h
    | cons o2 r =>
      cases r with
      | nil =>
        simp only [List.map_cons, List.map_nil, List.cons.injEq, Prod.mk.injEq, and_true] at h
        exact ⟨o, o2, rfl, ⟨h.1.1, h.1.2.1, h.1.2.2⟩, h.2.1, h.2.2.1, h.2.2.2⟩
      | cons o3 r => simp at h
theorem LH_eq : LH.toList.map (fun o => (o.guard, o.op, o.dst)) = [(none, .alloc 161, some 0)] := by kernel_rfl
theorem LB_eq : (LB.toList.drop 49).map (fun o => (o.guard, o.op, o.dst)) = [(none, .store 161 (.tmp 0) (.tmp 49), none)] := by kernel_rfl
theorem RH_eq : RH.toList.map (fun o => (o.guard, o.op, o.dst)) = [(none, .assign (.const (.slice none 0 0)), some 0)] := by kernel_rfl
def parts17 : Array (Nat × Operand) := ((List.range 48).map fun i => (i, Operand.tmp (i + 1))).toArray
theorem RB_eq : (RB.toList.drop 48).map (fun o => (o.guard, o.op, o.dst)) = [(none, .buildSlice 90 48 parts17, some 49), (none, .assign (.tmp 49), some 0)] := by kernel_rfl
theorem info49 : (Tryz.prog.info? 161).map (fun i => (i.zero, i.size)) = some (some (.agg (List.replicate 48 [.string ⟨#[]⟩, .string ⟨#[]⟩, .bool false, .string ⟨#[]⟩]).flatten.toArray), 192) := by kernel_rfl
theorem under49 : Tryz.prog.underlying 161 = some (.array 48 83) := by kernel_rfl
def ac0 (p : Value) (n : Nat) : Act := { tmps := (p :: List.replicate (n - 1) undef).toArray, defers := [] }
def out49 (o : Option Act) : Option (Value × Value × List Deferred) := o.map fun a => (a.eval (.tmp 0), a.eval (.tmp 49), a.defers)
theorem bld49 (p : Value) : out49 (bld Tryz.prog (LB.toList.take 49) (ac0 p 50)) = some (p, .agg TC.toArray, []) := by kernel_rfl
theorem info27 : (Tryz.prog.info? 63).map (fun i => (i.zero, i.size)) = some (some (.agg #[.string ⟨#[]⟩, .string ⟨#[]⟩, .bool false, .string ⟨#[]⟩]), 4) := by kernel_rfl
theorem under40 : Tryz.prog.underlying 90 = some (.slice 63) := by kernel_rfl
def fill17 (a : Act) : Option (Array Value) := Instr.fill (fun i => some (i * 4, 4)) ((Array.range (48 * 4)).map ((Value.agg #[.string ⟨#[]⟩, .string ⟨#[]⟩, .bool false, .string ⟨#[]⟩]).cells[· % 4]!)) (parts17.map fun (i, x) => (i, a.eval x)).toList
theorem bld17 (p : Value) : ((bld Tryz.prog (RB.toList.take 48) (ac0 p 50)).map fun a => (fill17 a, a.defers, a.tmps.size)) = some (some TC.toArray, [], 50) := by kernel_rfl
theorem ones_TC : TC.toArray.all (·.oneCell') = true := by kernel_rfl
theorem results24 (tmps : Array Value) (w : World) (p : Addr) (h : tmps.getD 0 undef = .pointer (some p)) (v : Value) (hv : (loadVar 161 p).run Tryz.prog w = .ok v w) : (results Tryz.f133 tmps).run Tryz.prog w = .ok v w := by
  have h2 : tmps[0]?.getD undef = .pointer (some p) := by simpa using h
  simp only [results, show Tryz.f133.results = #[.cell 0 161] from by kernel_rfl]
  simp [asAddr, h2, hv]

/-- prop.longhands: the table. -/
theorem long_any (w : World) : Calls Tryz.prog 133 #[] w (fun e w' => e = .returned (.agg TC.toArray) ∧ w' = w.alloc (.cells TC.toArray 161)) := by
  obtain ⟨o0, hl0, hg0, ho0, hd0⟩ := one_of LH_eq
  obtain ⟨o1, hl1, hg1, ho1, hd1⟩ := one_of LB_eq
  obtain ⟨hz, hi⟩ := zero_of_info info49
  have hb := bld49 (.pointer (some ⟨w.heap.size, 0, none⟩))
  obtain ⟨a1, ha1⟩ : ∃ a1, bld Tryz.prog (LB.toList.take 49) (ac0 (.pointer (some ⟨w.heap.size, 0, none⟩)) 50) = some a1 := by
    cases hx : bld Tryz.prog (LB.toList.take 49) (ac0 (.pointer (some ⟨w.heap.size, 0, none⟩)) 50) with
    | none => rw [hx] at hb; cases hb
    | some a => exact ⟨a, rfl⟩
  rw [ha1] at hb
  simp only [out49, Option.map_some, Option.some.injEq, Prod.mk.injEq] at hb
  refine calls_of_wp Tryz.func133 body24 ?_
  have hn : Tryz.f133.ntmps = 50 := by kernel_rfl
  refine wp_seq (wp_region_list ?_)
  rw [hl0]
  generalize hZ : (List.replicate 48 [Value.string ⟨#[]⟩, .string ⟨#[]⟩, .bool false, .string ⟨#[]⟩]).flatten.toArray = Z at *
  have hZs : Z.size = 192 := by rw [← hZ]; kernel_rfl
  refine wpList_plain hg0 fun K hK => ?_
  have hrun : ∀ ev, (execOp ev o0).run Tryz.prog w = .ok (.value (.pointer (some ⟨w.heap.size, 0, none⟩))) (w.alloc (.cells Z 161)) := fun ev => by
    unfold execOp
    simp only [ho0]
    simp [Instr.alloc, Sem.run_bind, Result.andThen, hz, newVar, newRow, Value.cells]
  unfold Oper.wp
  rw [hrun]
  refine hK _ _ (wpList_nil ?_)
  show Code.wp _ _ _ _ _
  rw [hd0]
  have hac : (Act.put { tmps := #[] ++ Array.replicate (Tryz.f133.ntmps - (#[] : Array Value).size) undef, defers := [] } (some 0) (Value.pointer (some ⟨w.heap.size, 0, none⟩))) = ac0 (.pointer (some ⟨w.heap.size, 0, none⟩)) 50 := by
    rw [hn]; rfl
  rw [hac]
  refine wp_seq (wp_region_list ?_)
  rw [← List.take_append_drop 49 LB.toList, hl1]
  refine wpList_bld _ _ _ ha1 ?_
  refine wpList_store_row hg1 161 _ _ ho1 w.heap.size TC.toArray hb.1 hb.2.1 161 Z (heap_alloc_last w _) (by rw [hi]; simp [TC_len]) (by simp [hZs, TC_len]) ones_TC ?_
  rw [World.setRow_alloc_new, hd1]
  refine wpList_nil ?_
  show Code.wp _ _ _ _ _
  refine wp_ret ?_
  refine bodyPost_ret (v := .agg TC.toArray) (results24 _ _ ⟨w.heap.size, 0, none⟩ ?_ _ ?_) hb.2.2 ⟨rfl, rfl⟩
  · exact hb.1
  · exact run_loadVar_new w 161 TC.toArray 48 83 under49 (by rw [hi]; simp [TC_len])

/-- The document's All: the table, in a row. -/
theorem rall_any (w : World) : Calls Tryz.prog 47 #[] w (fun e w' => e = .returned (.slice (some ⟨w.heap.size, 0, none⟩) 48 48) ∧ w' = w.alloc (.cells TC.toArray 63)) := by
  obtain ⟨o0, hl0, hg0, ho0, hd0⟩ := one_of RH_eq
  obtain ⟨o1, o2, hl1, ⟨hg1, ho1, hd1⟩, hg2, ho2, hd2⟩ := two_of RB_eq
  have hb := bld17 (.slice none 0 0)
  obtain ⟨a1, ha1⟩ : ∃ a1, bld Tryz.prog (RB.toList.take 48) (ac0 (.slice none 0 0) 50) = some a1 := by
    cases hx : bld Tryz.prog (RB.toList.take 48) (ac0 (.slice none 0 0) 50) with
    | none => rw [hx] at hb; cases hb
    | some a => exact ⟨a, rfl⟩
  rw [ha1] at hb
  simp only [Option.map_some, Option.some.injEq, Prod.mk.injEq] at hb
  obtain ⟨ie, hie, hz, hs⟩ : ∃ ie, Tryz.prog.info? 63 = some ie ∧ ie.zero = some (.agg #[.string ⟨#[]⟩, .string ⟨#[]⟩, .bool false, .string ⟨#[]⟩]) ∧ ie.size = 4 := by
    have h := info27
    cases hx : Tryz.prog.info? 63 with
    | none => rw [hx] at h; cases h
    | some ie =>
      rw [hx] at h
      simp only [Option.map_some, Option.some.injEq, Prod.mk.injEq] at h
      exact ⟨ie, rfl, h.1, h.2⟩
  refine calls_of_wp Tryz.func47 body17 ?_
  have hn : Tryz.f47.ntmps = 50 := by kernel_rfl
  refine wp_seq (wp_region_list ?_)
  rw [hl0]
  refine wpList_plain hg0 fun K hK => BigFrame.wp_assign _ ho0 (hK _ _ (wpList_nil ?_))
  show Code.wp _ _ _ _ _
  rw [hd0]
  have hac : (Act.put { tmps := #[] ++ Array.replicate (Tryz.f47.ntmps - (#[] : Array Value).size) undef, defers := [] } (some 0) (Value.slice none 0 0)) = ac0 (.slice none 0 0) 50 := by
    rw [hn]; rfl
  show Code.wp _ _ _ (Act.put _ (some 0) (Value.slice none 0 0)) _
  rw [hac]
  refine wp_seq (wp_region_list ?_)
  rw [← List.take_append_drop 48 RB.toList, hl1]
  refine wpList_bld _ _ _ ha1 ?_
  refine wpList_buildSlice hg1 90 63 48 parts17 ho1 TC.toArray ie _ under40 hie hz (by rw [hs]; decide) (by rw [hs]; decide) (by rw [hs]; exact hb.1) ?_
  refine wpList_plain hg2 fun K hK => BigFrame.wp_assign _ ho2 (hK _ _ (wpList_nil ?_))
  show Code.wp _ _ _ _ _
  rw [hd1, hd2]
  refine wp_ret ?_
  refine bodyPost_ret (v := .slice (some ⟨w.heap.size, 0, none⟩) 48 48) ?_ hb.2.1 ⟨rfl, rfl⟩
  rw [results_tmp (t := 0) (by kernel_rfl)]
  have hsz := hb.2.2
  simp [Act.put, Act.eval, hsz]
end Go.Proofs.YtlhdapckenjigaaGreatDoor.P
namespace Go.Proofs.YtlhdapckenjigaaGreatDoor.P
open Go.RowKit Go.Shelf
set_option maxRecDepth 100000
attribute [local go_sem] Oper.semAt_some

def z0 : Pr := ⟨⟨#[]⟩, ⟨#[]⟩, false, ⟨#[]⟩⟩
def TZ : List (Nat × Pr) := T.zipIdx.map fun x => (x.2, x.1)
abbrev encT (x : Nat × Pr) : Array Value := #[.int .i64 x.1, .agg #[.string x.2.n, .string x.2.i, .bool x.2.h, .string x.2.f]]

theorem TZ_len : TZ.length = 48 := by kernel_rfl
theorem TZ_at (k : Nat) (hk : k < 48) : ∃ p, T[k]? = some p ∧ TZ[k]? = some (k, p) := by
  obtain ⟨p, hp⟩ : ∃ p, T[k]? = some p := by
    rw [List.getElem?_eq_getElem (by rw [T_len]; exact hk)]
    exact ⟨_, rfl⟩
  refine ⟨p, hp, ?_⟩
  unfold TZ
  rw [List.getElem?_map, List.getElem?_zipIdx, hp]
  simp
theorem ix_all (w : World) : (List.range 48).map (fun k : Nat => (Instr.index 161 (.agg TC.toArray) (.int .i64 (k : Int))).run Tryz.prog w) = T.map fun p => .ok (.agg #[.string p.n, .string p.i, .bool p.h, .string p.f]) w := by kernel_rfl
theorem ix_at (w : World) (k : Nat) (p : Pr) (h : T[k]? = some p) : (Instr.index 161 (.agg TC.toArray) (.int .i64 (k : Int))).run Tryz.prog w = .ok (.agg #[.string p.n, .string p.i, .bool p.h, .string p.f]) w := by
  have hk : k < 48 := by
    rw [← T_len]
    exact (List.getElem?_eq_some_iff.1 h).1
  have := congrArg (fun l => l[k]?) (ix_all w)
  simp only [List.getElem?_map, h, Option.map_some] at this
  rw [List.getElem?_range hk] at this
  simpa using this

set_option maxHeartbeats 1000000 in
theorem each_in (n : Nat) (hn : 1 ≤ n) (l : Nat) (J Jx : List (Nat × Pr) → World → Prop) (W : World) (hA : AbidesFrom W.heap.size J)
    (hY : ∀ pre x W, J pre W → pre.length < 48 → YieldAt Fence.wide (n - 1) Tryz.prog l (encT x) W fun e W' =>
      (e = .returned (.bool true) ∧ J (pre ++ [x]) W' ∧ KeepsWalks W W') ∨ (e = .returned (.bool false) ∧ Jx (pre ++ [x]) W'))
    (h0 : J [] W) :
    CallsIn Fence.wide n Tryz.prog 106 #[.func (.yield l) #[] #[]] W fun e W' => (∃ v, e = .returned v) ∧
      ((∃ ys, ys = TZ ∧ J ys W') ∨ (∃ pre, pre <+: TZ ∧ Jx pre W')) := by
  have hlong := fun w => callsIn_wide (n := n - 1).2 (long_any w)
  have hix := ix_at
  generalize TC.toArray = C at *
  refine callsIn_of_wp Tryz.func106 rfl trivial ?_ rfl
  simp only [Tryz.ntmps106, List.size_toArray, List.length_cons, List.length_nil, Nat.reduceAdd, Nat.reduceSub, Array.replicate_succ, Array.replicate_zero, List.push_toArray, List.append_toArray, List.nil_append, List.cons_append]
  gi_wp2_with (refine ⟨trivial, ?_⟩; gi_at_call 133; refine (hlong _).mono ?_; rintro e w' ⟨rfl, rfl⟩)
  have hA2 : ∀ pre A o, J pre A → J pre (A.alloc o) := fun pre A o h => hA _ _ _ none h (World.grownBy_alloc _ _ none) (fun r e => by cases e)
  have HA := hid_mk hA2
  have HY := hid_mk hY
  have HIX := hid_mk hix
  have h0' := hA2 _ _ (.cells C 161) h0
  clear hA2 hY hA hlong hix h0
  gi_loopw [5] (fun p wr => ∃ k : Nat, p = .int .i64 (k : Int) ∧ k ≤ 48 ∧ J (TZ.take k) wr) (fun p _ => 48 - (match p with | .int _ i => i.toNat | _ => 0))
  case atStart => exact ⟨0, rfl, by omega, h0'⟩
  case round =>
    obtain ⟨k, rfl, hk, hJs⟩ := hrel
    by_cases hlt : k < 48
    · obtain ⟨p, hp, hz⟩ := TZ_at k hlt
      have hix := fun w => HIX.out w k p hp
      have HZ := hid_mk hz
      have htk : TZ.take k ++ [(k, p)] = TZ.take (k + 1) := by rw [List.take_add_one, hz]; rfl
      have HTK := hid_mk htk
      have hlk : (TZ.take k).length < 48 := by rw [List.length_take, TZ_len]; omega
      obtain ⟨fn, tmps, assign, body, hy, hR⟩ := HY.out (TZ.take k) (k, p) _ (HA.out _ wr (.cells #[.string p.n, .string p.i, .bool p.h, .string p.f] 83) hJs) hlk
      dsimp only [encT] at hy
      obtain ⟨pn, pi, ph, pf⟩ := p
      dsimp only at hix hy
      clear hp hz htk hlk
      gi_wp2
      refine hR.mono ?_
      rintro e W3 (⟨rfl, hJ3, _⟩ | ⟨rfl, hJx3⟩)
      · rw [HTK.out] at hJ3
        have hadd : IntKind.i64.wrap ((k : Int) + 1) = ((k + 1 : Nat) : Int) := by rw [IntKind.wrap_i64] <;> omega
        clear hix hy hR
        gi_wp2
        go_roundw
        case rel => exact ⟨k + 1, by simp, by omega, hJ3⟩
        case measure => simp only []; omega
      · rw [HTK.out] at hJx3
        clear hix hy hR
        gi_wp2
        refine bodyPost_ret (results_none rfl _ _ _) rfl ?_
        exact ⟨⟨_, rfl⟩, .inr ⟨_, List.take_prefix _ _, hJx3⟩⟩
    · obtain rfl : k = 48 := by omega
      gi_wp2
      go_end0
      exact ⟨⟨_, rfl⟩, .inl ⟨_, by rw [List.take_of_length_le (by rw [TZ_len]; omega)], hJs⟩⟩
/-- The iterator's contract. -/
theorem each_stops (n : Nat) (hn : 1 ≤ n) (w : World) : SeqStopsK Fence.wide n Tryz.prog 106 #[] encT KeepsWalks (fun ys => ys = TZ) (fun pre => pre <+: TZ) 48 w := fun l J Jx W _ hA _ hY h0 =>
  each_in n hn l J Jx W hA hY h0
end Go.Proofs.YtlhdapckenjigaaGreatDoor.P
namespace Go.Proofs.YtlhdapckenjigaaGreatDoor.P
open Go.RowKit Go.Shelf
set_option maxRecDepth 100000
attribute [local go_sem] Oper.semAt_some

def isN (name : ByteArray) (x : Nat × Pr) : Bool := x.2.n.toList == name.toList
def fnd (name : ByteArray) : Option (Nat × Pr) := TZ.find? (isN name)
def plc (name : ByteArray) : Int := match fnd name with
  | some x => x.1
  | none => -1
def prc (name : ByteArray) : Pr := match fnd name with
  | some x => x.2
  | none => z0
abbrev c4 (p : Pr) : Array Value := #[.string p.n, .string p.i, .bool p.h, .string p.f]

/-- A block of cells. -/
def Bx (W : World) (B : Nat) (t : TypeId) (cs : Array Value) : Prop := W.heap[B]? = some (.cells cs t (0, 0))
theorem Bx.lt {W : World} {B : Nat} {t : TypeId} {cs : Array Value} (h : Bx W B t cs) : B < W.heap.size := (Array.getElem?_eq_some_iff.1 h).1
theorem Bx.cell {W : World} {B : Nat} {t : TypeId} {cs : Array Value} (h : Bx W B t cs) (k : Nat) (v : Value) (hv : cs[k]? = some v) : W.cell? ⟨B, k, none⟩ = some v := by
  simp [World.cell?, show W.heap[B]? = _ from h, hv]
theorem Bx.frozen {W : World} {B : Nat} {t : TypeId} {cs : Array Value} (h : Bx W B t cs) (k : Nat) : W.frozen? ⟨B, k, none⟩ = false := by simp [World.frozen?, show W.heap[B]? = _ from h]
theorem Bx.new (W : World) (t : TypeId) (cs : Array Value) : Bx (W.alloc (.cells cs t)) W.heap.size t cs := World.alloc_heap_new W _
theorem Bx.kept {W W' : World} {row : Option Nat} {B : Nat} {t : TypeId} {cs : Array Value} (h : Bx W B t cs) (hg : W.grownBy W' row) (hne : some B ≠ row) : Bx W' B t cs := (hg.block B h.lt hne).trans h
theorem Bx.alloc {W : World} {B : Nat} {t : TypeId} {cs : Array Value} (h : Bx W B t cs) (o : Obj) : Bx (W.alloc o) B t cs := h.kept (World.grownBy_alloc W o none) (by simp)
theorem bx_own {β : Type} (B : Nat) (t : TypeId) (cs : β → Array Value) : Own (fun s W => Bx W B t (cs s)) := fun s W W' row h hg hr => h.kept hg fun e => by
  obtain ⟨o, ho, hc⟩ := hr B e.symm
  rw [show W.heap[B]? = _ from h] at ho
  cases ho
  cases hc
theorem Bx.other {W : World} {B : Nat} {t : TypeId} {cs : Array Value} (h : Bx W B t cs) (a : Addr) (u : Value) (hne : B ≠ a.block) : Bx (W.setCell a u) B t cs := (Below.heap_setCell W a u B hne).trans h
theorem Bx.set {W : World} {B : Nat} {t : TypeId} {cs : Array Value} (h : Bx W B t cs) (k : Nat) (u : Value) : Bx (W.setCell ⟨B, k, none⟩ u) B t (cs.setIfInBounds k u) := by
  obtain ⟨hlt, hk⟩ := Array.getElem?_eq_some_iff.1 h
  show (W.heap.modify B _)[B]? = _
  rw [Array.getElem?_eq_getElem (by rw [Array.size_modify]; exact hlt), Array.getElem_modify_self, hk]
  rfl

/-- Between two rounds; where a round has left. -/
def FI (name : ByteArray) (b : Nat) (w : World) (pre : List (Nat × Pr)) (W : World) : Prop :=
  ((pre.find? (isN name) = none ∧ Bx W b 9 #[.string name]) ∧ (Bx W (b + 1) 3 #[.int .i64 0] ∧ Bx W (b + 1 + 1) 83 (c4 z0))) ∧ Below b w W
def FX (name : ByteArray) (b : Nat) (w : World) (c : Code) (pre : List (Nat × Pr)) (W : World) : Prop :=
  c = .ret ∧ ∃ x, pre.find? (isN name) = some x ∧ Bx W (b + 1) 3 #[.int .i64 (x.1 : Int)] ∧ Bx W (b + 1 + 1) 83 (c4 x.2) ∧ Below b w W
theorem FI.own {name : ByteArray} {b B : Nat} {w : World} (h1 : b ≤ w.heap.size) (h2 : b ≤ B) : OwnFrom B (FI name b w) :=
  OwnFrom.and (OwnFrom.and (OwnFrom.and (ownFrom_pure _ _) (Own.from (bx_own _ _ _) _)) (OwnFrom.and (Own.from (bx_own _ _ _) _) (Own.from (bx_own _ _ _) _))) (ownFrom_below h1 h2)
theorem FX.own {name : ByteArray} {b B : Nat} {w : World} (h1 : b ≤ w.heap.size) (h2 : b ≤ B) (c : Code) : OwnFrom B (FX name b w c) := fun s W W' row hs hg hr => by
  obtain ⟨e, x, hx, a1, a2, a3⟩ := hs
  refine ⟨e, x, hx, ?_, ?_, ownFrom_below (β := Unit) h1 h2 () W W' row a3 hg hr⟩
  · exact bx_own (b + 1) 3 (fun _ : Unit => #[.int .i64 (x.1 : Int)]) () W W' row a1 hg fun r e => (hr r e).2
  · exact bx_own (b + 1 + 1) 83 (fun _ : Unit => c4 x.2) () W W' row a2 hg fun r e => (hr r e).2
def FA (name : ByteArray) (b : Nat) (x : Nat × Pr) (a' : Act) (W : World) : Prop :=
  ∃ B, b + 1 + 1 < B ∧ Bx W B 83 (c4 x.2) ∧ a' = { tmps := #[.string name, .pointer (some ⟨b, 0, none⟩), .pointer (some ⟨b + 1, 0, none⟩), .pointer (some ⟨b + 1 + 1, 0, none⟩), .int .i64 (x.1 : Int), .pointer (some ⟨B, 0, none⟩), .int .i64 (x.1 : Int), .agg (c4 x.2), undef, undef, undef, undef, undef, undef, undef], defers := [] }
theorem FA.own {name : ByteArray} {b B : Nat} (x : Nat × Pr) (a' : Act) : OwnFrom B (fun (_ : Unit) W => FA name b x a' W) := fun _ X Y row hs hg hr => by
  obtain ⟨B', e1, e2, e3⟩ := hs
  exact ⟨B', e1, bx_own B' 83 (fun (_ : Unit) => c4 x.2) () X Y row e2 hg (fun r e => (hr r e).2), e3⟩

theorem Bx.dr {W : World} {B : Nat} {t : TypeId} {cs : Array Value} (h : Bx W B t cs) : Bx W.drew B t cs := h
theorem ko_drew (W : World) : KeepsOthers W W.drew := ⟨Nat.le_refl _, fun _ _ h _ => h⟩
theorem st0 {W w : World} {b : Nat} {p : Pr} (v0 v1 v2 v3 v4 : Value) (h3 : Bx W (b + 1) 3 #[.int .i64 0]) (h4 : Bx W (b + 1 + 1) 83 (c4 p)) (h5 : Below b w W) (W' : World)
    (hW : W' = ((((W.setCell ⟨b + 1, 0, none⟩ v0).setCell ⟨b + 1 + 1, 0, none⟩ v1).setCell ⟨b + 1 + 1, 1, none⟩ v2).setCell ⟨b + 1 + 1, 2, none⟩ v3).setCell ⟨b + 1 + 1, 3, none⟩ v4) :
    Bx W' (b + 1) 3 #[v0] ∧ Bx W' (b + 1 + 1) 83 #[v1, v2, v3, v4] ∧ Below b w W' ∧ KeepsOthers W W' := by
  subst hW
  refine ⟨?_, ?_, ?_, ?_⟩
  · exact (((((h3.set 0 v0).other _ _ (by simp)).other _ _ (by simp)).other _ _ (by simp)).other _ _ (by simp))
  · exact (((((h4.other _ _ (by simp)).set 0 v1).set 1 v2).set 2 v3).set 3 v4)
  · exact (((((h5.setCell (p := ⟨b + 1, 0, none⟩) (by simp) v0).setCell (p := ⟨b + 1 + 1, 0, none⟩) (by simp; omega) v1).setCell (p := ⟨b + 1 + 1, 1, none⟩) (by simp; omega) v2).setCell (p := ⟨b + 1 + 1, 2, none⟩) (by simp; omega) v3).setCell (p := ⟨b + 1 + 1, 3, none⟩) (by simp; omega) v4)
  · exact (((((KeepsOthers.setCell _ _ _).trans (KeepsOthers.setCell _ _ _)).trans (KeepsOthers.setCell _ _ _)).trans (KeepsOthers.setCell _ _ _)).trans (KeepsOthers.setCell _ _ _))
theorem st1 {W w : World} {b : Nat} {p : Pr} (v0 v1 v2 v3 v4 : Value) (h3 : Bx W (b + 1) 3 #[.int .i64 0]) (h4 : Bx W (b + 1 + 1) 83 (c4 p)) (h5 : Below b w W) (W' : World)
    (hW : W' = (((((W.setCell ⟨b + 1, 0, none⟩ v0).setCell ⟨b + 1 + 1, 0, none⟩ v1).setCell ⟨b + 1 + 1, 1, none⟩ v2).setCell ⟨b + 1 + 1, 2, none⟩ v3).setCell ⟨b + 1 + 1, 3, none⟩ v4).drew) :
    Bx W' (b + 1) 3 #[v0] ∧ Bx W' (b + 1 + 1) 83 #[v1, v2, v3, v4] ∧ Below b w W' ∧ KeepsOthers W W' := by
  subst hW
  obtain ⟨g1, g2, g3, g4⟩ := st0 v0 v1 v2 v3 v4 h3 h4 h5 _ rfl
  exact ⟨g1.dr, g2.dr, g3.drew, g4.trans (ko_drew _)⟩
theorem st2 {W w : World} {b : Nat} {p : Pr} (v0 v1 v2 v3 v4 : Value) (h3 : Bx W (b + 1) 3 #[.int .i64 0]) (h4 : Bx W (b + 1 + 1) 83 (c4 p)) (h5 : Below b w W) (W' : World)
    (hW : W' = (((((W.setCell ⟨b + 1 + 1, 0, none⟩ v1).setCell ⟨b + 1 + 1, 1, none⟩ v2).setCell ⟨b + 1 + 1, 2, none⟩ v3).setCell ⟨b + 1 + 1, 3, none⟩ v4).setCell ⟨b + 1, 0, none⟩ v0).drew) :
    Bx W' (b + 1) 3 #[v0] ∧ Bx W' (b + 1 + 1) 83 #[v1, v2, v3, v4] ∧ Below b w W' ∧ KeepsOthers W W' := by
  subst hW
  refine ⟨?_, ?_, ?_, ?_⟩
  · exact Bx.dr (((((h3.other _ _ (by simp)).other _ _ (by simp)).other _ _ (by simp)).other _ _ (by simp)).set 0 v0)
  · exact Bx.dr (((((h4.set 0 v1).set 1 v2).set 2 v3).set 3 v4).other _ _ (by simp))
  · exact (((((h5.setCell (p := ⟨b + 1 + 1, 0, none⟩) (by simp; omega) v1).setCell (p := ⟨b + 1 + 1, 1, none⟩) (by simp; omega) v2).setCell (p := ⟨b + 1 + 1, 2, none⟩) (by simp; omega) v3).setCell (p := ⟨b + 1 + 1, 3, none⟩) (by simp; omega) v4).setCell (p := ⟨b + 1, 0, none⟩) (by simp) v0).drew
  · exact (((((KeepsOthers.setCell _ _ _).trans (KeepsOthers.setCell _ _ _)).trans (KeepsOthers.setCell _ _ _)).trans (KeepsOthers.setCell _ _ _)).trans (KeepsOthers.setCell _ _ _)).trans (ko_drew _)
theorem find_pre {name : ByteArray} {pre l : List (Nat × Pr)} {x : Nat × Pr} (h : pre <+: l) (hx : pre.find? (isN name) = some x) : l.find? (isN name) = some x := by
  obtain ⟨r, rfl⟩ := h
  rw [List.find?_append, hx]
  rfl
theorem results20 (tmps : Array Value) (w : World) (b : Nat) (i : Int) (p : Pr) (h2 : tmps[2]? = some (.pointer (some ⟨b + 1, 0, none⟩))) (h3 : tmps[3]? = some (.pointer (some ⟨b + 1 + 1, 0, none⟩)))
    (r0 : w.cell? ⟨b + 1, 0, none⟩ = some (.int .i64 i)) (r1 : w.cell? ⟨b + 1 + 1, 0, none⟩ = some (.string p.n)) (r2 : w.cell? ⟨b + 1 + 1, 1, none⟩ = some (.string p.i)) (r3 : w.cell? ⟨b + 1 + 1, 2, none⟩ = some (.bool p.h)) (r4 : w.cell? ⟨b + 1 + 1, 3, none⟩ = some (.string p.f)) :
    (results Tryz.f70 tmps).run Tryz.prog w = .ok (.tuple #[.int .i64 i, .agg (c4 p)]) w := by
  simp [results, Tryz.f70, go_sem, h2, h3, r0, r1, r2, r3, r4]

set_option maxHeartbeats 4000000 in
theorem found_in (n : Nat) (hn : 6 ≤ n) (name : ByteArray) (w : World) : CallsIn Fence.wide n Tryz.prog 70 #[.string name] w fun e W' => e = .returned (.tuple #[.int .i64 (plc name), .agg (c4 (prc name))]) ∧ Below w.heap.size w W' := by
  have h1 : 1 ≤ n := by omega
  refine callsIn_of_wp_marks Tryz.func70 rfl trivial ?_ rfl
  simp only [Tryz.ntmps70, List.size_toArray, List.length_cons, List.length_nil, Nat.reduceAdd, Nat.reduceSub, Array.replicate_succ, Array.replicate_zero, List.push_toArray, List.append_toArray, List.nil_append, List.cons_append]
  gi_wp2
  have bA := ((Bx.new w 9 #[.string name]).alloc (.cells #[.int .i64 0] 3)).alloc (.cells (c4 z0) 83)
  have bB := (Bx.new (w.alloc (.cells #[.string name] 9)) 3 #[.int .i64 0]).alloc (.cells (c4 z0) 83)
  have bC := Bx.new ((w.alloc (.cells #[.string name] 9)).alloc (.cells #[.int .i64 0] 3)) 83 (c4 z0)
  simp only [World.size_alloc] at bB bC
  have hB0 : Below w.heap.size w (((w.alloc (.cells #[.string name] 9)).alloc (.cells #[.int .i64 0] 3)).alloc (.cells (c4 z0) 83)) := (((Below.refl _ w).alloc (Nat.le_refl _) _).alloc (by simp) _).alloc (by simp; omega) _
  have hsz : (((w.alloc (.cells #[.string name] 9)).alloc (.cells #[.int .i64 0] 3)).alloc (.cells (c4 z0) 83)).heap.size = w.heap.size + 3 := by simp
  show Code.wpIn _ _ _ _ _ _ (((w.alloc (.cells #[.string name] 9)).alloc (.cells #[.int .i64 0] 3)).alloc (.cells (c4 z0) 83))
  obtain ⟨W0, hW0⟩ : ∃ W0, ((w.alloc (.cells #[.string name] 9)).alloc (.cells #[.int .i64 0] 3)).alloc (.cells (c4 z0) 83) = W0 := ⟨_, rfl⟩
  rw [hW0] at bA bB bC hB0 hsz ⊢
  clear hW0
  obtain ⟨b, hb⟩ : ∃ b, b = w.heap.size := ⟨_, rfl⟩
  rw [← hb] at bA bB bC hB0 hsz ⊢
  have hbw : b ≤ w.heap.size := by omega
  have HBW := hid_mk hbw
  have HBE := hid_mk hb
  have HSZ := hid_mk hsz
  clear hb hbw
  refine wpIn_rangeFunc_ownH rfl h1 (gf := 106) (lb := #[]) rfl trivial (enters_of Tryz.func106 (by kernel_rfl) rfl)
    (each_stops (n - 1) (by omega) W0) walksK_t (walksK_b (w := W0)) (Below.refl _ _) (fun _ => rfl)
    (FI name b w) (FX name b w) (FI.own HBW.out (by rw [HSZ.out]; omega)) (FX.own HBW.out (by rw [HSZ.out]; omega)) ⟨⟨⟨rfl, bA⟩, bB, bC⟩, hB0⟩
    (FA name b) FA.own ?assign ?body ?done ?stop
  case assign =>
    rintro l pre x W K ⟨⟨⟨i1, i2⟩, i3, i4⟩, i5⟩ hK
    gi_wp2
    have hlt2 : b + 1 + 1 < W.heap.size := i4.lt
    exact hK _ _ ((KeepsOthers.alloc _ _).from _) (KeepsOthers.alloc _ _).walks ⟨⟨⟨i1, i2.alloc _⟩, i3.alloc _, i4.alloc _⟩, i5.alloc (by omega) _⟩ ⟨W.heap.size, hlt2, Bx.new W 83 _, rfl⟩
  case body =>
    rintro l pre x a' W hl ⟨r, hr⟩ ⟨⟨⟨i1, i2⟩, i3, i4⟩, i5⟩ ⟨B, hB, bX, rfl⟩ hlt
    obtain ⟨xi, xn, xt, xh, xf⟩ := x
    have q1 : W.cell? ⟨B, 0, none⟩ = some (.string xn) := bX.cell 0 _ rfl
    have q2 : W.cell? ⟨B, 1, none⟩ = some (.string xt) := bX.cell 1 _ rfl
    have q3 : W.cell? ⟨B, 2, none⟩ = some (.bool xh) := bX.cell 2 _ rfl
    have q4 : W.cell? ⟨B, 3, none⟩ = some (.string xf) := bX.cell 3 _ rfl
    have q0 : W.cell? ⟨b, 0, none⟩ = some (.string name) := i2.cell 0 _ rfl
    have r0 : W.cell? ⟨b + 1, 0, none⟩ = some (.int .i64 0) := i3.cell 0 _ rfl
    have f0 := i3.frozen 0
    have r1 : W.cell? ⟨b + 1 + 1, 0, none⟩ = some (.string ⟨#[]⟩) := i4.cell 0 _ rfl
    have r2 : W.cell? ⟨b + 1 + 1, 1, none⟩ = some (.string ⟨#[]⟩) := i4.cell 1 _ rfl
    have r3 : W.cell? ⟨b + 1 + 1, 2, none⟩ = some (.bool false) := i4.cell 2 _ rfl
    have r4 : W.cell? ⟨b + 1 + 1, 3, none⟩ = some (.string ⟨#[]⟩) := i4.cell 3 _ rfl
    have f1 := i4.frozen 0
    have f2 := i4.frozen 1
    have f3 := i4.frozen 2
    have f4 := i4.frozen 3
    have hne : B ≠ b + 1 := by omega
    have hne2 : B ≠ b + 1 + 1 := by omega
    cases hnm : (xn.toList == name.toList) with
    | true =>
      have hmix : Tryz.prog.follows .mixedOrders = true := by kernel_rfl
      have hfn : (pre ++ [(xi, (⟨xn, xt, xh, xf⟩ : Pr))]).find? (isN name) = some (xi, ⟨xn, xt, xh, xf⟩) := by
        rw [List.find?_append, i1]
        have : isN name (xi, ⟨xn, xt, xh, xf⟩) = true := hnm
        simp [this]
      have HFN := hid_mk hfn
      clear hfn
      gi_wp2
      have fin : ∀ (W' : World) (a' : Act), (Bx W' (b + 1) 3 #[.int .i64 (xi : Int)] ∧ Bx W' (b + 1 + 1) 83 #[.string xn, .string xt, .bool xh, .string xf] ∧ Below b w W' ∧ KeepsOthers W W') → ownPostG W0.heap.size KeepsWalks (FI name b w) (FX name b w) (pre ++ [(xi, (⟨xn, xt, xh, xf⟩ : Pr))]) W .ret a' W' := fun W' a' h => ⟨h.2.2.2.from _, rfl, _, HFN.out, h.1, h.2.1, h.2.2.1⟩
      gi_region_with_o (fail)
      all_goals gi_wp2
      all_goals first
        | (refine fin _ _ (st1 (.int .i64 (xi : Int)) (.string xn) (.string xt) (.bool xh) (.string xf) i3 i4 i5 _ ?_); with_reducible rfl)
        | (refine fin _ _ (st2 (.int .i64 (xi : Int)) (.string xn) (.string xt) (.bool xh) (.string xf) i3 i4 i5 _ ?_); with_reducible rfl)
    | false =>
      gi_wp2
      refine ⟨(KeepsOthers.refl _).from _, (KeepsOthers.refl _).walks, ⟨⟨?_, i2⟩, i3, i4⟩, i5⟩
      rw [List.find?_append, i1]
      have : isN name (xi, ⟨xn, xt, xh, xf⟩) = false := hnm
      simp [this]
  case done =>
    rintro D ys W hD rfl ⟨⟨⟨i1, i2⟩, i3, i4⟩, i5⟩ hK
    have r0 : W.cell? ⟨b + 1, 0, none⟩ = some (.int .i64 0) := i3.cell 0 _ rfl
    have f0 := i3.frozen 0
    have r1 : W.cell? ⟨b + 1 + 1, 0, none⟩ = some (.string ⟨#[]⟩) := i4.cell 0 _ rfl
    have r2 : W.cell? ⟨b + 1 + 1, 1, none⟩ = some (.string ⟨#[]⟩) := i4.cell 1 _ rfl
    have r3 : W.cell? ⟨b + 1 + 1, 2, none⟩ = some (.bool false) := i4.cell 2 _ rfl
    have r4 : W.cell? ⟨b + 1 + 1, 3, none⟩ = some (.string ⟨#[]⟩) := i4.cell 3 _ rfl
    have f1 := i4.frozen 0
    have f2 := i4.frozen 1
    have f3 := i4.frozen 2
    have f4 := i4.frozen 3
    gi_wp2
    obtain ⟨W', hW'⟩ : ∃ W', W' = ((((W.setCell ⟨b + 1, 0, none⟩ (.int .i64 (-1))).setCell ⟨b + 1 + 1, 0, none⟩ (.string ⟨#[]⟩)).setCell ⟨b + 1 + 1, 1, none⟩ (.string ⟨#[]⟩)).setCell ⟨b + 1 + 1, 2, none⟩ (.bool false)).setCell ⟨b + 1 + 1, 3, none⟩ (.string ⟨#[]⟩) := ⟨_, rfl⟩
    obtain ⟨g1, g2, g3, g4⟩ := st0 (.int .i64 (-1)) (.string ⟨#[]⟩) (.string ⟨#[]⟩) (.bool false) (.string ⟨#[]⟩) i3 i4 i5 _ hW'
    rw [← hW']
    have hK' := g4.same D _ hK rfl
    have hg := grownBy_putObj' W' D (.deferred none)
    have hneD : ∀ k, k < b + 3 → some k ≠ some D := fun k hk e => by
      injection e with e
      have := HSZ.out
      omega
    have k1 := g1.kept hg (hneD _ (by omega))
    have k2 := g2.kept hg (hneD _ (by omega))
    refine ⟨by simp, .inl ⟨_, _, rfl, run_takeDeferred hK', ?_⟩⟩
    refine ⟨_, results20 _ _ b (-1) z0 rfl rfl (k1.cell 0 _ rfl) (k2.cell 0 _ rfl) (k2.cell 1 _ rfl) (k2.cell 2 _ rfl) (k2.cell 3 _ rfl), ?_, ?_⟩
    · unfold plc prc fnd
      rw [i1]
    · exact HBE.out ▸ g3.trans (belowK_b (w := W0) (by rw [HSZ.out]; omega) W' D _ _ hD hK' rfl rfl)
  case stop =>
    rintro D c pre W hD hSp ⟨rfl, x, hx, x1, x2, x3⟩ hK
    gi_wp2
    have hg := grownBy_putObj' W D (.deferred none)
    have hneD : ∀ k, k < b + 3 → some k ≠ some D := fun k hk e => by
      injection e with e
      have := HSZ.out
      omega
    have k1 := x1.kept hg (hneD _ (by omega))
    have k2 := x2.kept hg (hneD _ (by omega))
    refine ⟨by simp, .inl ⟨_, _, rfl, run_takeDeferred hK, ?_⟩⟩
    refine ⟨_, results20 _ _ b x.1 x.2 rfl rfl (k1.cell 0 _ rfl) (k2.cell 0 _ rfl) (k2.cell 1 _ rfl) (k2.cell 2 _ rfl) (k2.cell 3 _ rfl), ?_, ?_⟩
    · have hxx : fnd name = some x := find_pre hSp hx
      unfold plc prc
      rw [hxx]
    · exact HBE.out ▸ x3.trans (belowK_b (w := W0) (by rw [HSZ.out]; omega) W D _ _ hD hK rfl rfl)
theorem found_any (name : ByteArray) (w : World) : Calls Tryz.prog 70 #[.string name] w fun e W' => e = .returned (.tuple #[.int .i64 (plc name), .agg (c4 (prc name))]) ∧ Below w.heap.size w W' := (callsIn_wide (n := 6)).1 (found_in 6 (by omega) name w)
end Go.Proofs.YtlhdapckenjigaaGreatDoor.P
namespace Go.Proofs.YtlhdapckenjigaaGreatDoor.P
open Go.RowKit
set_option maxRecDepth 100000

/-- Texts in a slice. -/
def StrAt (w : World) (v : Value) (l : List ByteArray) : Prop := w.ownsRow 0 9 1 v l.length (l.map Value.string)
theorem own_below {w w' : World} {B e size n : Nat} {v : Value} {xs : List Value} (h : w.ownsRow B e size v n xs) (hb : Below w.heap.size w w') : w'.ownsRow B e size v n xs := by
  refine ⟨h.1, ?_⟩
  rcases h.2 with ⟨hv, hn⟩ | ⟨g, cap, cur, hv, hB, hg, rest⟩
  · exact .inl ⟨hv, hn⟩
  · exact .inr ⟨g, cap, cur, hv, hB, (hb.block g (Array.getElem?_eq_some_iff.1 hg).1).trans hg, rest⟩
theorem StrAt.keep {w w' : World} {v : Value} {l : List ByteArray} (h : StrAt w v l) (hb : Below w.heap.size w w') : StrAt w' v l := own_below h hb
theorem StrAt.of {w : World} {B : Nat} {v : Value} {l : List ByteArray} (h : w.ownsRow B 9 1 v l.length (l.map Value.string)) : StrAt w v l := by
  refine ⟨h.1, ?_⟩
  rcases h.2 with ⟨hv, hn⟩ | ⟨g, cap, cur, hv, hB, rest⟩
  · exact .inl ⟨hv, hn⟩
  · exact .inr ⟨g, cap, cur, hv, Nat.zero_le _, rest⟩
theorem StrAt.nil (w : World) : StrAt w (.slice none 0 0) [] := World.ownsRow_nil _ _ _ _
theorem StrAt.lit (w : World) (l : List ByteArray) (hl : l.length ≤ 1000000) : StrAt (w.alloc (.cells (l.map Value.string).toArray 9)) (.slice (some ⟨w.heap.size, 0, none⟩) l.length l.length) l := by
  have := World.ownsRow_lit (base := 0) (e := 9) (size := 1) w (l.map Value.string).toArray l.length (Nat.zero_le _) (by unfold maxLen; omega) (by simp)
  unfold StrAt
  simpa using this
theorem StrAt.form {w : World} {v : Value} {l : List ByteArray} (h : StrAt w v l) : ∃ a cap, v = .slice a l.length cap ∧ l.length ≤ cap ∧ cap ≤ 9223372036854775807 ∧ (0 < l.length → ∃ g, a = some ⟨g, 0, none⟩ ∧ ∀ k s, l[k]? = some s → w.cell? ⟨g, k, none⟩ = some (.string s)) := by
  rcases h.2 with ⟨hv, hn⟩ | ⟨g, cap, cur, hv, _, hg, hm, hc, hs, _⟩
  · exact ⟨none, 0, by rw [hv, hn], by omega, by omega, fun h => by omega⟩
  · refine ⟨_, _, hv, hm, ?_, fun _ => ⟨g, rfl, fun k s hk => ?_⟩⟩
    · unfold maxLen at hc
      omega
    · have := World.ownsRow.cells h (g := g) (by rw [hv]; rfl) k (.string s) (by rw [List.getElem?_map, hk]; rfl)
      rw [Addr.add_mid, Nat.zero_add] at this
      exact this
theorem lt_of_cell {w : World} {a : Addr} {v : Value} (h : w.cell? a = some v) : a.block < w.heap.size := by
  unfold World.cell? at h
  cases hx : w.heap[a.block]? with
  | none => rw [hx] at h; cases h
  | some o => exact (Array.getElem?_eq_some_iff.1 hx).1

end Go.Proofs.YtlhdapckenjigaaGreatDoor.P
namespace Go.Proofs.YtlhdapckenjigaaGreatDoor.P
open Go.RowKit
set_option maxRecDepth 100000

theorem plc_ge (name : ByteArray) : -1 ≤ plc name ∧ plc name < 48 := by
  unfold plc fnd
  cases h : TZ.find? (isN name) with
  | none => simp
  | some x =>
    have hx := List.mem_of_find?_eq_some h
    obtain ⟨k, hk⟩ := List.getElem?_of_mem hx
    have hlt : k < 48 := by
      rw [← TZ_len]
      exact (List.getElem?_eq_some_iff.1 hk).1
    obtain ⟨p, _, hp⟩ := TZ_at k hlt
    rw [hk] at hp
    injection hp with hp
    subst hp
    simp only []
    omega
theorem results7 (tmps : Array Value) (w : World) (b : Nat) (r : Bool) (p : Pr) (h2 : tmps[2]? = some (.pointer (some ⟨b, 0, none⟩))) (h3 : tmps[3]? = some (.bool r))
    (r1 : w.cell? ⟨b, 0, none⟩ = some (.string p.n)) (r2 : w.cell? ⟨b, 1, none⟩ = some (.string p.i)) (r3 : w.cell? ⟨b, 2, none⟩ = some (.bool p.h)) (r4 : w.cell? ⟨b, 3, none⟩ = some (.string p.f)) :
    (results Tryz.f41 tmps).run Tryz.prog w = .ok (.tuple #[.agg (c4 p), .bool r]) w := by
  simp [results, Tryz.f41, go_sem, h2, h3, r1, r2, r3, r4]
theorem results8 (tmps : Array Value) (w : World) (b : Nat) (r : Bool) (p : Pr) (h2 : tmps[2]? = some (.pointer (some ⟨b, 0, none⟩))) (h3 : tmps[3]? = some (.bool r))
    (r1 : w.cell? ⟨b, 0, none⟩ = some (.string p.n)) (r2 : w.cell? ⟨b, 1, none⟩ = some (.string p.i)) (r3 : w.cell? ⟨b, 2, none⟩ = some (.bool p.h)) (r4 : w.cell? ⟨b, 3, none⟩ = some (.string p.f)) :
    (results Tryz.f28 tmps).run Tryz.prog w = .ok (.tuple #[.agg (c4 p), .bool r]) w := by
  simp [results, Tryz.f28, go_sem, h2, h3, r1, r2, r3, r4]
/-- A block of one's own, four cells stored. -/
theorem st4 {W w : World} {b t : Nat} {p : Pr} (v1 v2 v3 v4 : Value) (h4 : Bx W b t (c4 p)) (hw : w.heap.size ≤ b) (h5 : Below w.heap.size w W) (W' : World)
    (hW : W' = (((W.setCell ⟨b, 0, none⟩ v1).setCell ⟨b, 1, none⟩ v2).setCell ⟨b, 2, none⟩ v3).setCell ⟨b, 3, none⟩ v4) :
    Bx W' b t #[v1, v2, v3, v4] ∧ Below w.heap.size w W' := by
  subst hW
  exact ⟨(((h4.set 0 v1).set 1 v2).set 2 v3).set 3 v4, (((h5.setCell (p := ⟨b, 0, none⟩) (by simpa using hw) v1).setCell (p := ⟨b, 1, none⟩) (by simpa using hw) v2).setCell (p := ⟨b, 2, none⟩) (by simpa using hw) v3).setCell (p := ⟨b, 3, none⟩) (by simpa using hw) v4⟩
theorem Bx.below {W W' : World} {B t : Nat} {cs : Array Value} (h : Bx W B t cs) (hb : Below W.heap.size W W') : Bx W' B t cs := (hb.block B h.lt).trans h
set_option maxHeartbeats 2000000 in
theorem find_any (name : ByteArray) (w : World) : Calls Tryz.prog 41 #[.string name] w fun e w' => e = .returned (.tuple #[.agg (c4 (prc name)), .bool (decide (0 ≤ plc name))]) ∧ Below w.heap.size w w' := by
  have hf := found_any name (w.alloc (.cells #[.string ⟨#[]⟩, .string ⟨#[]⟩, .bool false, .string ⟨#[]⟩] 83))
  obtain ⟨p, hp⟩ : ∃ p, p = prc name := ⟨_, rfl⟩
  rw [← hp] at hf ⊢
  clear hp
  generalize plc name = i at *
  obtain ⟨pn, pi, ph, pf⟩ := p
  have hB0 : Below w.heap.size w (w.alloc (.cells (c4 z0) 83)) := (Below.refl _ w).alloc (Nat.le_refl _) _
  have hX0 : Bx (w.alloc (.cells (c4 z0) 83)) w.heap.size 83 (c4 z0) := Bx.new _ _ _
  go_enter Tryz.func41, Tryz.ntmps41
  go_wp2_with (go_at_call 70; fail)
  refine hf.mono ?_
  rintro e w2 ⟨rfl, hb⟩
  have hX := (hX0.below hb).alloc (.cells #[.string pn, .string pi, .bool ph, .string pf] 83)
  have hB := (hB0.trans (hb.mono hB0.size)).alloc (Nat.le_trans hB0.size hb.size) (.cells #[.string pn, .string pi, .bool ph, .string pf] 83)
  have hY := Bx.new w2 83 #[.string pn, .string pi, .bool ph, .string pf]
  clear hf hB0 hX0 hb
  obtain ⟨W3, hW3⟩ : ∃ W3, W3 = w2.alloc (.cells #[.string pn, .string pi, .bool ph, .string pf] 83) := ⟨_, rfl⟩
  rw [← hW3] at hX hB hY
  have q1 : W3.cell? ⟨w2.heap.size, 0, none⟩ = some (.string pn) := hY.cell 0 _ rfl
  have q2 : W3.cell? ⟨w2.heap.size, 1, none⟩ = some (.string pi) := hY.cell 1 _ rfl
  have q3 : W3.cell? ⟨w2.heap.size, 2, none⟩ = some (.bool ph) := hY.cell 2 _ rfl
  have q4 : W3.cell? ⟨w2.heap.size, 3, none⟩ = some (.string pf) := hY.cell 3 _ rfl
  have r1 : W3.cell? ⟨w.heap.size, 0, none⟩ = some (.string ⟨#[]⟩) := hX.cell 0 _ rfl
  have r2 : W3.cell? ⟨w.heap.size, 1, none⟩ = some (.string ⟨#[]⟩) := hX.cell 1 _ rfl
  have r3 : W3.cell? ⟨w.heap.size, 2, none⟩ = some (.bool false) := hX.cell 2 _ rfl
  have r4 : W3.cell? ⟨w.heap.size, 3, none⟩ = some (.string ⟨#[]⟩) := hX.cell 3 _ rfl
  have f1 := hX.frozen 0
  have f2 := hX.frozen 1
  have f3 := hX.frozen 2
  have f4 := hX.frozen 3
  have HX := hid_mk hX
  have HB := hid_mk hB
  clear hX hY hB
  go_upto_region 2 with fail
  rw [← hW3]
  clear hW3
  go_wp2
  obtain ⟨g1, g2⟩ := st4 (.string pn) (.string pi) (.bool ph) (.string pf) HX.out (Nat.le_refl _) HB.out _ rfl
  exact bodyPost_ret (results7 _ _ w.heap.size (decide (0 ≤ i)) ⟨pn, pi, ph, pf⟩ rfl rfl (g1.cell 0 _ rfl) (g1.cell 1 _ rfl) (g1.cell 2 _ rfl) (g1.cell 3 _ rfl)) rfl ⟨rfl, g2⟩

/-- The table in a row. -/
theorem TC_at (k : Nat) (p : Pr) (h : T[k]? = some p) : TC[k * 4]? = some (.string p.n) ∧ TC[k * 4 + 1]? = some (.string p.i) ∧ TC[k * 4 + 2]? = some (.bool p.h) ∧ TC[k * 4 + 3]? = some (.string p.f) := by
  have key : ∀ (l : List Pr) (k : Nat) (p : Pr), l[k]? = some p → (l.flatMap Pr.cs)[k * 4]? = some (.string p.n) ∧ (l.flatMap Pr.cs)[k * 4 + 1]? = some (.string p.i) ∧ (l.flatMap Pr.cs)[k * 4 + 2]? = some (.bool p.h) ∧ (l.flatMap Pr.cs)[k * 4 + 3]? = some (.string p.f) := by
    intro l
    induction l with
    | nil => intro k p h; cases h
    | cons x l ih =>
      intro k p h
      cases k with
      | zero =>
        injection h with h
        subst h
        exact ⟨rfl, rfl, rfl, rfl⟩
      | succ k =>
        have := ih k p h
        have e : ∀ j, (x.cs ++ l.flatMap Pr.cs)[(k + 1) * 4 + j]? = (l.flatMap Pr.cs)[k * 4 + j]? := fun j => by
          rw [List.getElem?_append_right (by simp [Pr.cs]; omega)]
          congr 1
          simp only [Pr.cs, List.length_cons, List.length_nil]
          omega
        rw [List.flatMap_cons]
        exact ⟨(e 0).trans this.1, (e 1).trans this.2.1, (e 2).trans this.2.2.1, (e 3).trans this.2.2.2⟩
  exact key T k p h
theorem row_at {w : World} {b t : Nat} (h : Bx w b t TC.toArray) (k : Nat) (p : Pr) (hp : T[k]? = some p) : w.cell? ⟨b, k * 4, none⟩ = some (.string p.n) ∧ w.cell? ⟨b, k * 4 + 1, none⟩ = some (.string p.i) ∧ w.cell? ⟨b, k * 4 + 2, none⟩ = some (.bool p.h) ∧ w.cell? ⟨b, k * 4 + 3, none⟩ = some (.string p.f) := by
  obtain ⟨h1, h2, h3, h4⟩ := TC_at k p hp
  exact ⟨h.cell _ _ (by simpa using h1), h.cell _ _ (by simpa using h2), h.cell _ _ (by simpa using h3), h.cell _ _ (by simpa using h4)⟩
theorem find_take {name : ByteArray} {k : Nat} {p : Pr} (hk : TZ[k]? = some (k, p)) (h : (TZ.take k).find? (isN name) = none) : (isN name (k, p) = true → TZ.find? (isN name) = some (k, p)) ∧ (isN name (k, p) = false → (TZ.take (k + 1)).find? (isN name) = none) := by
  have ht : TZ.take (k + 1) = TZ.take k ++ [(k, p)] := by rw [List.take_add_one, hk]; rfl
  refine ⟨fun hi => ?_, fun hi => ?_⟩
  · refine find_pre (List.take_prefix (k + 1) TZ) ?_
    rw [ht, List.find?_append, h]
    simp [hi]
  · rw [ht, List.find?_append, h]
    simp [hi]
set_option maxHeartbeats 2000000 in
/-- The document's Place. -/
theorem rplace_any (name : ByteArray) (w : World) : Calls Tryz.prog 46 #[.string name] w fun e w' => e = .returned (.int .i64 (plc name)) ∧ Below w.heap.size w w' := by
  have hall := rall_any w
  have HN : Hid (TZ.find? (isN name) = none → plc name = -1) := fun h => by
    unfold plc fnd
    rw [h]
  have HS : Hid (∀ x, TZ.find? (isN name) = some x → plc name = (x.1 : Int)) := fun x h => by
    unfold plc fnd
    rw [h]
  generalize plc name = i at *
  go_enter Tryz.func46, Tryz.ntmps46
  go_wp2_with (go_at_call 47; fail)
  refine hall.mono ?_
  rintro e w1 ⟨rfl, hw1⟩
  have hX0 : Bx w1 w.heap.size 63 TC.toArray := by rw [hw1]; exact Bx.new _ _ _
  have hB0 : Below w.heap.size w w1 := by rw [hw1]; exact (Below.refl _ w).alloc (Nat.le_refl _) _
  clear hw1 hall
  obtain ⟨b, hb⟩ : ∃ b, b = w.heap.size := ⟨_, rfl⟩
  rw [← hb] at hX0 ⊢
  have HX0 := hid_mk hX0
  have HB0 := hid_mk hB0
  have HBE := hid_mk hb
  clear hX0 hB0 hb
  go_wp2
  go_loopw [7] (fun a7 wr => ∃ k : Nat, a7 = .int .i64 (k : Int) ∧ k ≤ 48 ∧ Hid ((TZ.take k).find? (isN name) = none) ∧ Hid (Below w1.heap.size w1 wr)) (fun a7 _ => 49 - (intOf a7).toNat)
  case atStart => exact ⟨0, rfl, by omega, rfl, hid_mk (Below.refl _ _)⟩
  case round =>
    obtain ⟨k, rfl, hk, HF, HB⟩ := hrel
    by_cases hlt : k < 48
    · obtain ⟨⟨pn, pi, ph, pf⟩, hp, hz⟩ := TZ_at k hlt
      obtain ⟨q1, q2, q3, q4⟩ := row_at (HX0.out.below HB.out) k _ hp
      obtain ⟨t1, t2⟩ := find_take hz HF.out
      have HT1 := hid_mk t1
      have HT2 := hid_mk t2
      have HBn : Hid (Below w1.heap.size w1 (wr.alloc (.cells #[.string pn, .string pi, .bool ph, .string pf] 63))) := HB.out.alloc HB.out.size _
      dsimp only at q1 q2 q3 q4
      clear hp hz t1 t2
      cases hnm : (pn.toList == name.toList) with
      | true =>
        have hi := HS.out _ (HT1.out hnm)
        have HI := hid_mk hi
        clear hi
        go_wp2
        go_ret
        rw [HI.out, ← HBE.out]
        exact ⟨rfl, by rw [HBE.out]; exact HB0.out.trans (HBn.out.mono HB0.out.size)⟩
      | false =>
        have HF2 : Hid ((TZ.take (k + 1)).find? (isN name) = none) := HT2.out hnm
        go_wp2
        refine ⟨⟨k + 1, by simp, by omega, HF2, HBn⟩, ?_⟩
        simp only [intOf]
        omega
    · obtain rfl : k = 48 := by omega
      have hi := HN.out (by have := HF.out; rwa [List.take_of_length_le (by rw [TZ_len]; omega)] at this)
      have HI := hid_mk hi
      clear hi
      go_wp2
      go_ret
      rw [HI.out]
      exact ⟨rfl, HB0.out.trans (HB.out.mono HB0.out.size)⟩
end Go.Proofs.YtlhdapckenjigaaGreatDoor.P
namespace Go.Proofs.YtlhdapckenjigaaGreatDoor.P
open Go.RowKit
set_option maxRecDepth 100000

shelf_lay LaysM.n146 Nm 146 at Tryz as laysSp
/-- A letter ahead of the first. -/
def hdC (b : UInt8) : List (List UInt8) → List (List UInt8)
  | [] => [[b]]
  | h :: t => (b :: h) :: t
/-- A text's parts. -/
def cut : List UInt8 → List (List UInt8)
  | [] => [[]]
  | b :: r => if b = 124 then [] :: cut r else hdC b (cut r)
def hdA (c : List UInt8) : List (List UInt8) → List (List UInt8)
  | [] => [c]
  | h :: t => (c ++ h) :: t
/-- As the document goes. -/
def rF : List UInt8 → List UInt8 → List (List UInt8)
  | [], c => [c]
  | b :: r, c => if b = 124 then c :: rF r [] else rF r (c ++ [b])
theorem cut_ne (l : List UInt8) : cut l ≠ [] := by
  cases l with
  | nil => simp [cut]
  | cons b r =>
    unfold cut
    split
    · simp
    · cases cut r <;> simp [hdC]
theorem rF_eq : ∀ (l c : List UInt8), rF l c = hdA c (cut l)
  | [], c => by simp [rF, cut, hdA]
  | b :: r, c => by
    unfold rF cut
    split
    · rw [rF_eq r []]
      cases h : cut r with
      | nil => exact absurd h (cut_ne r)
      | cons x t => simp [hdA]
    · rw [rF_eq r]
      cases h : cut r with
      | nil => exact absurd h (cut_ne r)
      | cons x t => simp [hdA, hdC]
theorem rF_cut (l : List UInt8) : rF l [] = cut l := by
  rw [rF_eq]
  cases h : cut l with
  | nil => exact absurd h (cut_ne l)
  | cons x t => rfl
theorem split_cut : ∀ l : List UInt8, Lib.split l [124] = cut l
  | [] => by
    unfold Lib.split
    rw [Lib.count_miss (by simp [Lib.index])]
    rfl
  | b :: r => by
    have ih := split_cut r
    unfold Lib.split at ih ⊢
    unfold cut
    by_cases h : b = 124
    · subst h
      rw [if_pos rfl, Lib.count_cons_eq, Nat.add_comm, ← ih]
      have hix : Lib.index (124 :: r) [124] = 0 := by rw [Lib.index]; simp [List.isPrefixOf]
      show (if (Lib.index (124 :: r) [124] == -1) = true then _ else _) = _
      rw [hix]
      rfl
    · rw [if_neg h, Lib.count_cons_ne b 124 r h, ← ih]
      have hp : ([124] : List UInt8).isPrefixOf (b :: r) = false := by simp [List.isPrefixOf, Ne.symm h]
      have hix : Lib.index (b :: r) [124] = if Lib.index r [124] == -1 then -1 else Lib.index r [124] + 1 := by rw [Lib.index, hp]; simp
      by_cases hm : Lib.index r [124] = -1
      · rw [Lib.count_miss hm]
        rfl
      · have hge := Lib.index_ge r [124]
        obtain ⟨j, hj⟩ : ∃ j : Nat, Lib.index r [124] = j := ⟨(Lib.index r [124]).toNat, by omega⟩
        have hix2 : Lib.index (b :: r) [124] = ((j + 1 : Nat) : Int) := by rw [hix, if_neg (fun e => hm (beq_iff_eq.1 e)), hj]; omega
        rw [Lib.count_hit (by simp) hj, Nat.add_comm 1]
        generalize Lib.count (r.drop (j + ([124] : List UInt8).length)) [124] = k
        show (if (Lib.index (b :: r) [124] == -1) = true then _ else _) = hdC b (if (Lib.index r [124] == -1) = true then _ else _)
        rw [if_neg (fun e => by have := beq_iff_eq.1 e; omega), if_neg (fun e => hm (beq_iff_eq.1 e)), hix2, hj]
        simp [hdC]
def prts (f : ByteArray) : List ByteArray := (cut f.data.toList).map fun l => ⟨l.toArray⟩
theorem of_data {L : List ByteArray} {X : List (List UInt8)} (h : L.map (·.data.toList) = X) : L = X.map fun l => ⟨l.toArray⟩ := by
  subst h
  rw [List.map_map]
  conv => lhs; rw [← List.map_id L]
  apply List.map_congr_left
  intro x _
  rfl
theorem splitB_prts (f : ByteArray) : Lib.splitB ⟨#[124]⟩ 0 (Lib.countB f ⟨#[124]⟩) f = prts f := by
  refine of_data ?_
  rw [Lib.splitB_data]
  exact split_cut f.data.toList
/-- internal/bytealg.MaxLen holds some number. -/
def MC (w : World) : Prop := ∃ m, w.cell? ⟨laysSp_ren.g 1, 0, none⟩ = some (.int .i64 m)
theorem MC.of {w : World} (h : w.ShapedOpen Tryz.prog) : MC w := laysSp.s1_3 w h
theorem MC.keep {w w' : World} (h : MC w) (hb : Below w.heap.size w w') : MC w' := by
  obtain ⟨m, hm⟩ := h
  exact ⟨m, (hb.cell (p := ⟨laysSp_ren.g 1, 0, none⟩) (lt_of_cell hm)).trans hm⟩
theorem cut_len (l : List UInt8) : (cut l).length ≤ l.length + 1 := by
  induction l with
  | nil => simp [cut]
  | cons b r ih =>
    unfold cut
    split
    · simp; omega
    · cases h : cut r with
      | nil => simp [hdC]
      | cons x t => rw [h] at ih; simp [hdC] at ih ⊢; omega
theorem prts_len (f : ByteArray) : (prts f).length ≤ f.size + 1 := by
  have := cut_len f.data.toList
  unfold prts
  rw [List.length_map]
  rw [Lib.size_eq]
  exact this
theorem split_any (f : ByteArray) (w : World) (hm : MC w) (hf : f.size ≤ 1000) : Calls Tryz.prog 110 #[.string f, .string ⟨#[124]⟩] w fun e w' => (∃ a c, e = .returned (.slice a (prts f).length c) ∧ StrAt w' (.slice a (prts f).length c) (prts f)) ∧ Below w.heap.size w w' := by
  obtain ⟨m, hm⟩ := hm
  refine (Any.strings_Split (P := Tryz.prog) { laysSp with } laysSp.i9 f ⟨#[124]⟩ m w (by omega) hm (by decide)).mono ?_
  rintro e w' ⟨rfl, rfl⟩
  have hl := Lib.splitB_all ⟨#[124]⟩ (by decide) 0 _ f rfl
  rw [splitB_prts] at hl ⊢
  rw [← hl]
  exact ⟨⟨_, _, rfl, StrAt.lit w (prts f) (by have := prts_len f; omega)⟩, (Below.refl _ w).alloc (Nat.le_refl _) _⟩
set_option maxHeartbeats 2000000 in
/-- prop.Forms. -/
theorem forms_any (p : Pr) (w : World) (hm : MC w) (hf : p.f.size ≤ 1000) : Calls Tryz.prog 75 #[.agg (c4 p)] w fun e w' => (∃ a c, e = .returned (.slice a (prts p.f).length c) ∧ StrAt w' (.slice a (prts p.f).length c) (prts p.f)) ∧ Below w.heap.size w w' := by
  obtain ⟨pn, pi, ph, pf⟩ := p
  have hB : Below w.heap.size w (w.alloc (.cells #[.string pn, .string pi, .bool ph, .string pf] 83)) := (Below.refl _ w).alloc (Nat.le_refl _) _
  have hs := split_any pf _ (hm.keep hB) hf
  dsimp only at hs ⊢
  generalize (prts pf).length = n at *
  generalize prts pf = L at *
  go_enter Tryz.func75, Tryz.ntmps75
  go_wp2_with (go_at_call 110; fail)
  refine hs.mono ?_
  rintro e w2 ⟨⟨a, c, rfl, hS⟩, hb⟩
  have hB2 := hB.trans (hb.mono hB.size)
  clear hs hb hB hm
  go_wp2
  go_ret
  exact ⟨⟨_, _, rfl, hS⟩, hB2⟩
end Go.Proofs.YtlhdapckenjigaaGreatDoor.P
namespace Go.Proofs.YtlhdapckenjigaaGreatDoor.P
open Go.RowKit
set_option maxRecDepth 100000

theorem info9 : (Tryz.prog.info? 9).map (fun i => (i.zero, i.size, i.bytes)) = some (some (.string ⟨#[]⟩), 1, 16) := by kernel_rfl
/-- Behind an append onto a row of one's own. -/
theorem app_on {wr w2 w : World} {b : Nat} {o : Obj} {v v' : Value} {n : Nat} {xs ys : List Value} {m : Nat} {t : TypeId} {cs : Array Value} (how : wr.ownsRow (b + 1) 9 1 v n xs) (hx : Bx wr b t cs) (hb : Below b w wr) (hw : b ≤ w.heap.size)
    (hown : w2.ownsRow (b + 1) 9 1 v' (m + 1) ys) (hg : (wr.alloc o).grownBy w2 v.ownBlock) : (∃ g cap, v' = .slice (some ⟨g, 0, none⟩) (m + 1) cap) ∧ Bx w2 b t cs ∧ Below b w w2 := by
  have hlow : ∀ k, v.ownBlock = some k → b + 1 ≤ k := fun k e => (World.ownsRow.lt how k e).1
  refine ⟨ownsRow_succ hown, (hx.alloc o).kept hg (fun e => ?_), ?_⟩
  · have := hlow b e.symm
    omega
  · have h1 : Below b w (wr.alloc o) := hb.alloc (Nat.le_trans hw hb.size) o
    exact h1.grown hg (Nat.le_trans hw h1.size) (fun k e => by have := hlow k e; omega)
theorem drop_cons {fs : List UInt8} {i : Nat} {x : UInt8} (h : fs[i]? = some x) : fs.drop i = x :: fs.drop (i + 1) := by
  obtain ⟨hlt, rfl⟩ := List.getElem?_eq_some_iff.1 h
  exact List.drop_eq_getElem_cons hlt
theorem ext_one (s : ByteArray) (i : Nat) (h : i < s.size) : (s.extract i (i + 1)).data.toList = [s[i]] := by
  rw [Lib.extract_data]
  have hl : i < s.data.toList.length := by rw [← Lib.size_eq]; exact h
  have : (s.data.toList.drop i).take (i + 1 - i) = [s.data.toList[i]] := by
    rw [List.drop_eq_getElem_cons hl]
    simp
  first
    | exact this
    | (simp only [List.take_drop] at this ⊢; simpa using this)
theorem sl_str (s : ByteArray) (i : Nat) (h : i < s.size) (w : World) : (Instr.slice 9 (.string s) (some (.int .i64 (i : Int))) (some (.int .i64 ((i : Int) + 1))) none).run Tryz.prog w = .ok (.string (s.extract i (i + 1))) w := by
  have h1 : (0 : Int) ≤ (i : Int) + 1 := by omega
  have h2 : (i : Int) + 1 ≤ (s.size : Int) := by omega
  have h3 : (i : Int) ≤ (i : Int) + 1 := by omega
  have h4 : ((i : Int) + 1).toNat = i + 1 := by omega
  simp [Instr.slice, run_underlying Tryz.underlying9, Instr.sliceBounds, run_sliceBound, h1, h2, h3, h4]

set_option maxHeartbeats 2000000 in
theorem rforms_any (p : Pr) (w : World) (hf : p.f.size ≤ 1000) : Calls Tryz.prog 50 #[.agg (c4 p)] w fun e w' => (∃ a c, e = .returned (.slice a (prts p.f).length c) ∧ StrAt w' (.slice a (prts p.f).length c) (prts p.f)) ∧ Below w.heap.size w w' := by
  obtain ⟨i0, hi, hz0, hz1, hz2⟩ := info_parts info9
  have HI0 := hid_mk hi
  have HZ0 := hid_mk hz0
  have HZ1 := hid_mk hz1
  have HZ2 := hid_mk hz2
  clear hi hz0 hz1 hz2
  obtain ⟨pn, pi, ph, pf⟩ := p
  dsimp only at hf ⊢
  have hX0 := Bx.new w 63 (c4 ⟨pn, pi, ph, pf⟩)
  have hB0 : Below w.heap.size w (w.alloc (.cells (c4 ⟨pn, pi, ph, pf⟩) 63)) := (Below.refl _ w).alloc (Nat.le_refl _) _
  have HX0 := hid_mk hX0
  have HB0 := hid_mk hB0
  have HOW0 : Hid ((w.alloc (.cells (c4 ⟨pn, pi, ph, pf⟩) 63)).ownsRow (w.heap.size + 1) 9 1 (.slice none 0 0) 0 []) := World.ownsRow_nil _ _ _ _
  have HC0 : Hid ([] ++ rF (pf.data.toList.drop 0) [] = cut pf.data.toList) := by
    rw [Hid, List.drop_zero, rF_cut]
    rfl
  have hn : pf.data.toList.length = pf.size := (Lib.size_eq pf).symm
  have HN := hid_mk hn
  have HL : Hid (∀ L : List ByteArray, L.map (·.data.toList) = cut pf.data.toList → L = prts pf) := fun L h => of_data h
  obtain ⟨fs, hfs⟩ : ∃ fs, fs = pf.data.toList := ⟨_, rfl⟩
  rw [← hfs] at HC0 HN HL
  have HFS := hid_mk hfs
  obtain ⟨b, hb⟩ : ∃ b, b = w.heap.size := ⟨_, rfl⟩
  have HBE := hid_mk hb
  clear hX0 hB0 hn hfs hb
  go_enter Tryz.func50, Tryz.ntmps50
  go_wp2
  go_loopw [3, 4, 5] (fun a3 a4 a5 wr => ∃ (done : List ByteArray) (cur : ByteArray) (i : Nat) (oa : Option Addr) (on oc : Nat), a3 = .slice oa on oc ∧ a4 = .string cur ∧ a5 = .int .i64 (i : Int) ∧ i ≤ pf.size ∧ cur.size ≤ i ∧ on ≤ i ∧ Hid (on = done.length) ∧ Hid (wr.ownsRow (w.heap.size + 1) 9 1 (.slice oa on oc) on (done.map Value.string)) ∧ Hid (done.map (·.data.toList) ++ rF (fs.drop i) cur.data.toList = cut fs) ∧ Hid (Bx wr w.heap.size 63 (c4 ⟨pn, pi, ph, pf⟩)) ∧ Hid (Below w.heap.size w wr)) (fun _ _ a5 _ => pf.size + 1 - (intOf a5).toNat)
  case atStart => exact ⟨[], ⟨#[]⟩, 0, _, _, _, rfl, rfl, rfl, Nat.zero_le _, Nat.zero_le _, Nat.zero_le _, rfl, HOW0, HC0, HX0, HB0⟩
  case round =>
    obtain ⟨done, cur, i, oa, on, oc, rfl, rfl, rfl, hi, hcs, hon, HON, HOW, HC, HX, HB⟩ := hrel
    have q4 : wr.cell? ⟨w.heap.size, 3, none⟩ = some (.string pf) := HX.out.cell 3 _ rfl
    have HOA := hid_mk (HOW.out.alloc (.cells #[Value.string cur] 9))
    have HSZ : Hid (w.heap.size + 1 ≤ (wr.alloc (.cells #[Value.string cur] 9)).heap.size) := by
      have := HX.out.lt
      rw [Hid, World.size_alloc]
      omega
    have HNW := hid_mk (cell_one_new wr (Value.string cur) 9)
    have HAP : Hid (∀ v' w2, w2.ownsRow (w.heap.size + 1) 9 1 v' (on + 1) (done.map Value.string ++ [Value.string cur]) → (wr.alloc (.cells #[Value.string cur] 9)).grownBy w2 (Value.slice oa on oc).ownBlock → (∃ g cap, v' = .slice (some ⟨g, 0, none⟩) (on + 1) cap) ∧ Bx w2 w.heap.size 63 (c4 ⟨pn, pi, ph, pf⟩) ∧ Below w.heap.size w w2) := fun v' w2 h1 h2 => app_on HOW.out HX.out HB.out (Nat.le_refl _) h1 h2
    by_cases hlt : i < pf.size
    · obtain ⟨x, hxe⟩ : ∃ x, pf[i] = x := ⟨_, rfl⟩
      have hx : fs[i]? = some x := by
        rw [HFS.out, ← hxe]
        have hl : i < pf.data.toList.length := by rw [← Lib.size_eq]; exact hlt
        rw [List.getElem?_eq_getElem hl]
        rfl
      have HDR := hid_mk (drop_cons hx)
      clear hx
      cases hb : ((pf[i].toNat : Int) == 124) with
      | true =>
        have HC2 : Hid ((done ++ [cur]).map (·.data.toList) ++ rF (fs.drop (i + 1)) [] = cut fs) := by
          have hx2 : x = 124 := by
            rw [beq_iff_eq] at hb
            rw [← hxe]
            have hb2 : pf[i].toNat = 124 := by omega
            exact UInt8.toNat_inj.1 hb2
          have := HC.out
          rw [HDR.out, hx2] at this
          simp only [rF, if_true] at this
          rw [Hid, ← this]
          simp
        clear HC HDR hxe HX HB HOW HC0 HX0 HB0 HOW0 HFS HL HN
        go_wp2_with (at_builtin; with_reducible refine wpList_append_own _ rfl _ _ 36 rfl (w.heap.size + 1) 9 i0 (.string ⟨#[]⟩) 1 16 Tryz.underlying36 HI0.out HZ0.out HZ1.out HZ2.out rfl (by decide) (.slice oa on oc) on (done.map Value.string) rfl HOA.out ⟨wr.heap.size, 0, none⟩ 1 1 [Value.string cur] rfl rfl HNW.out ?c0 ?c1 ?c2 ?c3 ?_)
        case c0 => simp [Value.oneCell']
        case c1 => unfold maxLen; omega
        case c2 => omega
        case c3 => exact HSZ.out
        intro v' w2 hown hg _
        obtain ⟨⟨g, cap, rfl⟩, hx2, hb2⟩ := HAP.out v' w2 hown hg
        have HOW2 : Hid (w2.ownsRow (w.heap.size + 1) 9 1 (.slice (some ⟨g, 0, none⟩) (on + 1) cap) (on + 1) ((done ++ [cur]).map Value.string)) := by
          rw [Hid, List.map_append]
          exact hown
        have HX2 := hid_mk hx2
        have HB2 := hid_mk hb2
        have HON2 : Hid (on + 1 = (done ++ [cur]).length) := by
          rw [Hid, HON.out]
          simp
        clear hown hg hx2 hb2 HAP HNW HOA HSZ HON
        go_wp2
        refine ⟨⟨done ++ [cur], ⟨#[]⟩, i + 1, _, _, _, rfl, rfl, by simp, by omega, Nat.zero_le _, by omega, HON2, HOW2, HC2, HX2, HB2⟩, ?_⟩
        simp only [intOf]
        omega
      | false =>
        have HE : Hid ((cur ++ pf.extract i (i + 1)).data.toList = cur.data.toList ++ [x]) := by
          rw [Hid, ByteArray.data_append, Array.toList_append, ext_one pf i hlt, hxe]
        have HC2 : Hid (done.map (·.data.toList) ++ rF (fs.drop (i + 1)) (cur ++ pf.extract i (i + 1)).data.toList = cut fs) := by
          have hx2 : x ≠ 124 := fun e => by
            rw [beq_eq_false_iff_ne] at hb
            rw [e] at hxe
            apply hb
            rw [hxe]
            rfl
          have := HC.out
          rw [HDR.out] at this
          simp only [rF, if_neg hx2] at this
          rw [Hid, ← this, HE.out]
        have hes : (pf.extract i (i + 1)).size = 1 := by
          rw [ByteArray.size_extract]
          omega
        have hcs2 : (cur ++ pf.extract i (i + 1)).size ≤ i + 1 := by
          rw [ByteArray.size_append, hes]
          omega
        have hes2 : (pf.extract i (i + 1)).size ≤ 1 := by omega
        have HES := hid_mk hcs2
        clear HC HDR hxe HC0 HX0 HB0 HOW0 HFS HL HN HAP HNW HOA HSZ HE hes hcs2
        have hsl := fun w => sl_str pf i hlt w
        go_wp2
        refine ⟨⟨done, _, i + 1, _, _, _, rfl, rfl, by simp, by omega, HES.out, by omega, HON, HOW, HC2, HX, HB⟩, ?_⟩
        simp only [intOf]
        omega
    · obtain rfl : i = pf.size := by omega
      have HLL : Hid (done ++ [cur] = prts pf) := by
        refine HL.out _ ?_
        have := HC.out
        rw [List.drop_of_length_le (by have := HN.out; omega)] at this
        rw [← this]
        simp [rF]
      clear HC HC0 HX0 HB0 HOW0 HFS HL HN HX HB HOW
      go_wp2_with (at_builtin; with_reducible refine wpList_append_own _ rfl _ _ 36 rfl (w.heap.size + 1) 9 i0 (.string ⟨#[]⟩) 1 16 Tryz.underlying36 HI0.out HZ0.out HZ1.out HZ2.out rfl (by decide) (.slice oa on oc) on (done.map Value.string) rfl HOA.out ⟨wr.heap.size, 0, none⟩ 1 1 [Value.string cur] rfl rfl HNW.out ?c0 ?c1 ?c2 ?c3 ?_)
      case c0 => simp [Value.oneCell']
      case c1 => unfold maxLen; omega
      case c2 => omega
      case c3 => exact HSZ.out
      intro v' w2 hown hg _
      obtain ⟨⟨g, cap, rfl⟩, _, hb2⟩ := HAP.out v' w2 hown hg
      have HB2 := hid_mk hb2
      have HST : Hid (StrAt w2 (.slice (some ⟨g, 0, none⟩) (on + 1) cap) (prts pf) ∧ on + 1 = (prts pf).length) := by
        rw [Hid, ← HLL.out]
        refine ⟨StrAt.of (B := w.heap.size + 1) ?_, by rw [HON.out]; simp⟩
        rw [List.length_append, List.length_singleton, ← HON.out, List.map_append]
        exact hown
      clear hown hg hb2 HAP HNW HOA HSZ
      go_wp2
      go_ret
      rw [← HST.out.2]
      exact ⟨⟨_, _, rfl, HST.out.1⟩, HB2.out⟩
end Go.Proofs.YtlhdapckenjigaaGreatDoor.P
namespace Go.Proofs.YtlhdapckenjigaaGreatDoor.P
open Go.RowKit
set_option maxRecDepth 100000

theorem fnd_cases (name : ByteArray) : (plc name = -1 ∧ prc name = z0) ∨ ∃ (k : Nat) (p : Pr), k < 48 ∧ plc name = (k : Int) ∧ prc name = p ∧ T[k]? = some p := by
  unfold plc prc fnd
  cases h : TZ.find? (isN name) with
  | none => exact .inl ⟨rfl, rfl⟩
  | some x =>
    have hx := List.mem_of_find?_eq_some h
    obtain ⟨k, hk⟩ := List.getElem?_of_mem hx
    have hlt : k < 48 := by
      rw [← TZ_len]
      exact (List.getElem?_eq_some_iff.1 hk).1
    obtain ⟨p, hp, hp2⟩ := TZ_at k hlt
    rw [hk] at hp2
    injection hp2 with hp2
    subst hp2
    exact .inr ⟨k, p, hlt, rfl, rfl, hp⟩
set_option maxHeartbeats 2000000 in
/-- The document's Find. -/
theorem rfind_any (name : ByteArray) (w : World) : Calls Tryz.prog 28 #[.string name] w fun e w' => e = .returned (.tuple #[.agg (c4 (prc name)), .bool (decide (0 ≤ plc name))]) ∧ Below w.heap.size w w' := by
  have hf := rplace_any name (w.alloc (.cells #[.string ⟨#[]⟩, .string ⟨#[]⟩, .bool false, .string ⟨#[]⟩] 63))
  have hB0 : Below w.heap.size w (w.alloc (.cells (c4 z0) 63)) := (Below.refl _ w).alloc (Nat.le_refl _) _
  have hX0 : Bx (w.alloc (.cells (c4 z0) 63)) w.heap.size 63 (c4 z0) := Bx.new _ _ _
  rcases fnd_cases name with ⟨h1, h2⟩ | ⟨k, p, hk, h1, h2, hT⟩
  · rw [h1] at hf ⊢
    rw [h2]
    clear h1 h2
    go_enter Tryz.func28, Tryz.ntmps28
    go_wp2_with (go_at_call 46; fail)
    refine hf.mono ?_
    rintro e w2 ⟨rfl, hb⟩
    have hX := hX0.below hb
    have hB := hB0.trans (hb.mono hB0.size)
    clear hf hB0 hX0 hb
    have r1 : w2.cell? ⟨w.heap.size, 0, none⟩ = some (.string ⟨#[]⟩) := hX.cell 0 _ rfl
    have r2 : w2.cell? ⟨w.heap.size, 1, none⟩ = some (.string ⟨#[]⟩) := hX.cell 1 _ rfl
    have r3 : w2.cell? ⟨w.heap.size, 2, none⟩ = some (.bool false) := hX.cell 2 _ rfl
    have r4 : w2.cell? ⟨w.heap.size, 3, none⟩ = some (.string ⟨#[]⟩) := hX.cell 3 _ rfl
    have f1 := hX.frozen 0
    have f2 := hX.frozen 1
    have f3 := hX.frozen 2
    have f4 := hX.frozen 3
    have HX := hid_mk hX
    have HB := hid_mk hB
    clear hX hB
    go_wp2
    obtain ⟨g1, g2⟩ := st4 (.string ⟨#[]⟩) (.string ⟨#[]⟩) (.bool false) (.string ⟨#[]⟩) HX.out (Nat.le_refl _) HB.out _ rfl
    exact bodyPost_ret (results8 _ _ w.heap.size false z0 rfl rfl (g1.cell 0 _ rfl) (g1.cell 1 _ rfl) (g1.cell 2 _ rfl) (g1.cell 3 _ rfl)) rfl ⟨rfl, g2⟩
  · rw [h1] at hf ⊢
    rw [h2]
    clear h1 h2
    go_enter Tryz.func28, Tryz.ntmps28
    go_wp2_with (go_at_call 46; fail)
    refine hf.mono ?_
    rintro e w1 ⟨rfl, hb⟩
    have hX1 := hX0.below hb
    have hB1 := hB0.trans (hb.mono hB0.size)
    have hall := rall_any w1
    clear hf hB0 hX0 hb
    go_wp2_with (go_at_call 47; fail)
    refine hall.mono ?_
    rintro e w2 ⟨rfl, hw2⟩
    have hB12 : Below w1.heap.size w1 w2 := by rw [hw2]; exact (Below.refl _ w1).alloc (Nat.le_refl _) _
    have hR : Bx w2 w1.heap.size 63 TC.toArray := by rw [hw2]; exact Bx.new _ _ _
    have hX := hX1.below hB12
    have hB := hB1.trans (hB12.mono hB1.size)
    obtain ⟨q1, q2, q3, q4⟩ := row_at hR k p hT
    clear hall hw2 hB12 hX1 hB1 hR
    obtain ⟨pn, pi, ph, pf⟩ := p
    dsimp only at q1 q2 q3 q4
    have r1 : w2.cell? ⟨w.heap.size, 0, none⟩ = some (.string ⟨#[]⟩) := hX.cell 0 _ rfl
    have r2 : w2.cell? ⟨w.heap.size, 1, none⟩ = some (.string ⟨#[]⟩) := hX.cell 1 _ rfl
    have r3 : w2.cell? ⟨w.heap.size, 2, none⟩ = some (.bool false) := hX.cell 2 _ rfl
    have r4 : w2.cell? ⟨w.heap.size, 3, none⟩ = some (.string ⟨#[]⟩) := hX.cell 3 _ rfl
    have f1 := hX.frozen 0
    have f2 := hX.frozen 1
    have f3 := hX.frozen 2
    have f4 := hX.frozen 3
    have HX := hid_mk hX
    have HB := hid_mk hB
    have HT := hid_mk hT
    clear hX hB hT
    go_wp2
    obtain ⟨g1, g2⟩ := st4 (.string pn) (.string pi) (.bool ph) (.string pf) HX.out (Nat.le_refl _) HB.out _ rfl
    exact bodyPost_ret (results8 _ _ w.heap.size true ⟨pn, pi, ph, pf⟩ rfl rfl (g1.cell 0 _ rfl) (g1.cell 1 _ rfl) (g1.cell 2 _ rfl) (g1.cell 3 _ rfl)) rfl ⟨by simp, g2⟩
theorem wpList_alloc {P : Program} {ops : Array Oper} {rest : List Oper} {o : Oper} {a : Act} {w : World} {Q : Exit → Act → World → Prop} (hg : o.guard = none) (t : TypeId) (ho : o.op = .alloc t) (d : Option Tmp) (hd : o.dst = d) (z : Array Value) (hz : ∀ w, (zeroValue t).run P w = .ok (.agg z) w)
    (h : wpList P ops Q rest (a.put d (.pointer (some ⟨w.heap.size, 0, none⟩))) (w.alloc (.cells z t))) : wpList P ops Q (o :: rest) a w := by
  subst hd
  refine wpList_plain hg fun K hK => ?_
  have hrun : ∀ ev, (execOp ev o).run P w = .ok (.value (.pointer (some ⟨w.heap.size, 0, none⟩))) (w.alloc (.cells z t)) := fun ev => by
    unfold execOp
    simp only [ho]
    simp [Instr.alloc, Sem.run_bind, Result.andThen, hz, newVar, newRow, Value.cells]
  unfold Oper.wp
  rw [hrun]
  exact hK _ _ h
end Go.Proofs.YtlhdapckenjigaaGreatDoor.P
namespace Go.Proofs.YtlhdapckenjigaaGreatDoor.P
open Go.RowKit
set_option maxRecDepth 100000

shelf_lay Lays.n101 Nm 101 at Tryz as laysTp

theorem trim_any (s p : ByteArray) (w : World) : Calls Tryz.prog 37 #[.string s, .string p] w fun e w' => e = .returned (.string ⟨(Lib.trimPrefix s.data.toList p.data.toList).toArray⟩) ∧ w' = w := Any.strings_TrimPrefix laysTp s p w
end Go.Proofs.YtlhdapckenjigaaGreatDoor.P
namespace Go.Proofs.YtlhdapckenjigaaGreatDoor.P
open Go.RowKit
set_option maxRecDepth 100000

set_option maxHeartbeats 2000000 in
/-- gouacheref14.Texts of the same texts. -/
theorem texts_yes {w : World} {v1 v2 : Value} {l : List ByteArray} (h1 : StrAt w v1 l) (h2 : StrAt w v2 l) : Calls Tryz.prog 19 #[v1, v2] w fun e w' => e = .returned (.bool true) ∧ Below w.heap.size w w' := by
  obtain ⟨a1, c1, rfl, hc1, hm1, ha1⟩ := h1.form
  obtain ⟨a2, c2, rfl, hc2, hm2, ha2⟩ := h2.form
  have hln : l.length ≤ 9223372036854775807 := by omega
  have HA1 := hid_mk ha1
  have HA2 := hid_mk ha2
  have HL1 := hid_mk h1
  clear ha1 ha2 h1 h2
  have HLT : Hid (∀ k, k < l.length → ∃ s, l[k]? = some s) := fun k hk => ⟨_, List.getElem?_eq_getElem hk⟩
  have HL : Hid (∀ g1 g2, a1 = some ⟨g1, 0, none⟩ → a2 = some ⟨g2, 0, none⟩ → ∀ wq k s, Below w.heap.size w wq → l[k]? = some s → wq.cell? ⟨g1, k, none⟩ = some (.string s) ∧ wq.cell? ⟨g2, k, none⟩ = some (.string s)) := fun g1 g2 e1 e2 wq k s hb hk => by
    have hlt : k < l.length := (List.getElem?_eq_some_iff.1 hk).1
    obtain ⟨g1', e1', q1⟩ := HA1.out (by omega)
    obtain ⟨g2', e2', q2⟩ := HA2.out (by omega)
    rw [e1] at e1'
    rw [e2] at e2'
    injection e1' with e1'
    injection e1' with e1'
    injection e2' with e2'
    injection e2' with e2'
    subst e1' e2'
    have w1 := q1 k s hk
    have w2 := q2 k s hk
    exact ⟨(hb.cell (p := ⟨g1, k, none⟩) (lt_of_cell w1)).trans w1, (hb.cell (p := ⟨g2, k, none⟩) (lt_of_cell w2)).trans w2⟩
  generalize l.length = n at *
  go_enter Tryz.func19, Tryz.ntmps19
  go_wp2
  go_loopw [13] (fun p wr => ∃ k : Nat, p = .int .i64 (k : Int) ∧ k ≤ n ∧ Hid (Below w.heap.size w wr)) (fun p _ => n + 1 - (intOf p).toNat)
  case atStart => exact ⟨0, rfl, Nat.zero_le _, hid_mk (Below.refl _ _)⟩
  case round =>
    obtain ⟨k, rfl, hk, HB⟩ := hrel
    by_cases hlt : k < n
    · obtain ⟨g1, rfl, _⟩ := HA1.out (by omega)
      obtain ⟨g2, rfl, _⟩ := HA2.out (by omega)
      obtain ⟨s, hs⟩ := HLT.out k hlt
      obtain ⟨q1, q2⟩ := HL.out g1 g2 rfl rfl wr k s HB.out hs
      clear hs
      go_upto_region 6 with fail
      go_quiet (fail)
      go_wp2
      refine ⟨⟨k + 1, by simp, by omega, hid_mk (HB.out.trans ⟨rfl, rfl, rfl, Nat.le_refl _, fun _ _ => rfl⟩)⟩, ?_⟩
      simp only [intOf]
      omega
    · have HBo := HB.out
      go_wp2
      go_ret
      exact ⟨rfl, HBo⟩
end Go.Proofs.YtlhdapckenjigaaGreatDoor.P
namespace Go.Proofs.YtlhdapckenjigaaGreatDoor.P
open Go.RowKit
set_option maxRecDepth 100000

def sides : List ByteArray := [⟨#[116, 111, 112]⟩, ⟨#[114, 105, 103, 104, 116]⟩, ⟨#[98, 111, 116, 116, 111, 109]⟩, ⟨#[108, 101, 102, 116]⟩]
def sd (a b : ByteArray) : List ByteArray := sides.map fun s => a ++ s ++ b
def nM : List UInt8 := [109, 97, 114, 103, 105, 110]
def LM : List ByteArray := [⟨#[109, 97, 114, 103, 105, 110, 45, 116, 111, 112]⟩, ⟨#[109, 97, 114, 103, 105, 110, 45, 114, 105, 103, 104, 116]⟩, ⟨#[109, 97, 114, 103, 105, 110, 45, 98, 111, 116, 116, 111, 109]⟩, ⟨#[109, 97, 114, 103, 105, 110, 45, 108, 101, 102, 116]⟩]
def nP : List UInt8 := [112, 97, 100, 100, 105, 110, 103]
def LP : List ByteArray := [⟨#[112, 97, 100, 100, 105, 110, 103, 45, 116, 111, 112]⟩, ⟨#[112, 97, 100, 100, 105, 110, 103, 45, 114, 105, 103, 104, 116]⟩, ⟨#[112, 97, 100, 100, 105, 110, 103, 45, 98, 111, 116, 116, 111, 109]⟩, ⟨#[112, 97, 100, 100, 105, 110, 103, 45, 108, 101, 102, 116]⟩]
def nW : List UInt8 := [98, 111, 114, 100, 101, 114, 45, 119, 105, 100, 116, 104]
def LW : List ByteArray := [⟨#[98, 111, 114, 100, 101, 114, 45, 116, 111, 112, 45, 119, 105, 100, 116, 104]⟩, ⟨#[98, 111, 114, 100, 101, 114, 45, 114, 105, 103, 104, 116, 45, 119, 105, 100, 116, 104]⟩, ⟨#[98, 111, 114, 100, 101, 114, 45, 98, 111, 116, 116, 111, 109, 45, 119, 105, 100, 116, 104]⟩, ⟨#[98, 111, 114, 100, 101, 114, 45, 108, 101, 102, 116, 45, 119, 105, 100, 116, 104]⟩]
def nS : List UInt8 := [98, 111, 114, 100, 101, 114, 45, 115, 116, 121, 108, 101]
def LS : List ByteArray := [⟨#[98, 111, 114, 100, 101, 114, 45, 116, 111, 112, 45, 115, 116, 121, 108, 101]⟩, ⟨#[98, 111, 114, 100, 101, 114, 45, 114, 105, 103, 104, 116, 45, 115, 116, 121, 108, 101]⟩, ⟨#[98, 111, 114, 100, 101, 114, 45, 98, 111, 116, 116, 111, 109, 45, 115, 116, 121, 108, 101]⟩, ⟨#[98, 111, 114, 100, 101, 114, 45, 108, 101, 102, 116, 45, 115, 116, 121, 108, 101]⟩]
def nC : List UInt8 := [98, 111, 114, 100, 101, 114, 45, 99, 111, 108, 111, 114]
def LC : List ByteArray := [⟨#[98, 111, 114, 100, 101, 114, 45, 116, 111, 112, 45, 99, 111, 108, 111, 114]⟩, ⟨#[98, 111, 114, 100, 101, 114, 45, 114, 105, 103, 104, 116, 45, 99, 111, 108, 111, 114]⟩, ⟨#[98, 111, 114, 100, 101, 114, 45, 98, 111, 116, 116, 111, 109, 45, 99, 111, 108, 111, 114]⟩, ⟨#[98, 111, 114, 100, 101, 114, 45, 108, 101, 102, 116, 45, 99, 111, 108, 111, 114]⟩]
def nO : List UInt8 := [111, 118, 101, 114, 102, 108, 111, 119]
def LO : List ByteArray := [⟨#[111, 118, 101, 114, 102, 108, 111, 119, 45, 120]⟩, ⟨#[111, 118, 101, 114, 102, 108, 111, 119, 45, 121]⟩]
/-- The longhands, plainly. -/
def lgs (name : ByteArray) : List ByteArray :=
  if name.toList == nM then LM else if name.toList == nP then LP else if name.toList == nW then LW else if name.toList == nS then LS else if name.toList == nC then LC else if name.toList == nO then LO else []
def shs : List ByteArray := [⟨#[98, 111, 114, 100, 101, 114, 45, 99, 111, 108, 111, 114]⟩, ⟨#[98, 111, 114, 100, 101, 114, 45, 115, 116, 121, 108, 101]⟩, ⟨#[98, 111, 114, 100, 101, 114, 45, 119, 105, 100, 116, 104]⟩, ⟨#[109, 97, 114, 103, 105, 110]⟩, ⟨#[111, 118, 101, 114, 102, 108, 111, 119]⟩, ⟨#[112, 97, 100, 100, 105, 110, 103]⟩]

theorem app_on2 {wr w2 w : World} {b : Nat} {o : Obj} {v v' : Value} {n m : Nat} {xs ys : List Value} (how : wr.ownsRow b 9 1 v n xs) (hb : Below b w wr) (hw : b ≤ w.heap.size)
    (hown : w2.ownsRow b 9 1 v' (m + 1) ys) (hg : (wr.alloc o).grownBy w2 v.ownBlock) : (∃ g cap, v' = .slice (some ⟨g, 0, none⟩) (m + 1) cap) ∧ Below b w w2 := by
  have hlow : ∀ k, v.ownBlock = some k → b ≤ k := fun k e => (World.ownsRow.lt how k e).1
  have h1 : Below b w (wr.alloc o) := hb.alloc (Nat.le_trans hw hb.size) o
  exact ⟨ownsRow_succ hown, h1.grown hg (Nat.le_trans hw h1.size) (fun k e => hlow k e)⟩
theorem ix52_all (w : World) : (List.range 4).map (fun k : Nat => (Instr.index 70 (.agg #[.string ⟨#[116, 111, 112]⟩, .string ⟨#[114, 105, 103, 104, 116]⟩, .string ⟨#[98, 111, 116, 116, 111, 109]⟩, .string ⟨#[108, 101, 102, 116]⟩]) (.int .i64 (k : Int))).run Tryz.prog w) = sides.map fun s => .ok (.string s) w := by kernel_rfl
theorem ix52_at (w : World) (k : Nat) (s : ByteArray) (h : sides[k]? = some s) : (Instr.index 70 (.agg #[.string ⟨#[116, 111, 112]⟩, .string ⟨#[114, 105, 103, 104, 116]⟩, .string ⟨#[98, 111, 116, 116, 111, 109]⟩, .string ⟨#[108, 101, 102, 116]⟩]) (.int .i64 (k : Int))).run Tryz.prog w = .ok (.string s) w := by
  have hk : k < 4 := (List.getElem?_eq_some_iff.1 h).1
  have := congrArg (fun l => l[k]?) (ix52_all w)
  simp only [List.getElem?_map, h, Option.map_some] at this
  rw [List.getElem?_range hk] at this
  simpa using this
theorem sides_small : ∀ s ∈ sides, s.size ≤ 6 := by decide
theorem sides_at (k : Nat) (hk : k < 4) : ∃ s, sides[k]? = some s ∧ s.size ≤ 6 := by
  obtain ⟨s, hs⟩ : ∃ s, sides[k]? = some s := ⟨_, List.getElem?_eq_getElem (show k < sides.length from hk)⟩
  exact ⟨s, hs, sides_small s (List.mem_of_getElem? hs)⟩
theorem sd_take {a b s : ByteArray} {k : Nat} (h : sides[k]? = some s) : (sd a b).take (k + 1) = (sd a b).take k ++ [a ++ s ++ b] := by
  have : (sd a b)[k]? = some (a ++ s ++ b) := by
    unfold sd
    rw [List.getElem?_map, h]
    rfl
  rw [List.take_add_one, this]
  rfl
set_option maxHeartbeats 2000000 in
/-- prop.sided. -/
theorem sided_any (a b : ByteArray) (w : World) (ha : a.size ≤ 1000) (hb : b.size ≤ 1000) : Calls Tryz.prog 36 #[.string a, .string b] w fun e w' => (∃ ad c, e = .returned (.slice ad 4 c) ∧ StrAt w' (.slice ad 4 c) (sd a b)) ∧ Below w.heap.size w w' := by
  obtain ⟨i0, hi, hz0, hz1, hz2⟩ := info_parts info9
  have HI0 := hid_mk hi
  have HZ0 := hid_mk hz0
  have HZ1 := hid_mk hz1
  have HZ2 := hid_mk hz2
  clear hi hz0 hz1 hz2
  have HIX := hid_mk ix52_at
  have HSD : Hid (∀ k s, sides[k]? = some s → (sd a b).take (k + 1) = (sd a b).take k ++ [a ++ s ++ b]) := fun k s h => sd_take h
  have HSL : Hid ((sd a b).length = 4) := rfl
  generalize sd a b = D at *
  go_enter Tryz.func36, Tryz.ntmps36
  go_wp2
  go_loopw [5, 9] (fun a5 a9 wr => ∃ (k : Nat) (oa : Option Addr) (oc : Nat), a5 = .slice oa k oc ∧ a9 = .int .i64 (k : Int) ∧ k ≤ 4 ∧ Hid (wr.ownsRow w.heap.size 9 1 (.slice oa k oc) k ((D.take k).map Value.string)) ∧ Hid (Below w.heap.size w wr)) (fun _ a9 _ => 5 - (intOf a9).toNat)
  case atStart => exact ⟨0, _, _, rfl, rfl, by omega, World.ownsRow_nil _ _ _ _, hid_mk (Below.refl _ _)⟩
  case round =>
    obtain ⟨k, oa, oc, rfl, rfl, hk, HOW, HB⟩ := hrel
    by_cases hlt : k < 4
    · obtain ⟨s, hs, hss⟩ := sides_at k hlt
      have hix := fun w => HIX.out w k s hs
      have HTK := hid_mk (HSD.out k s hs)
      have has : (a ++ s).size ≤ 1006 := by rw [ByteArray.size_append]; omega
      obtain ⟨x, hx⟩ : ∃ x, x = a ++ s ++ b := ⟨_, rfl⟩
      rw [← hx] at HTK
      have HOA := hid_mk (HOW.out.alloc (.cells #[Value.string x] 9))
      have HSZ : Hid (w.heap.size ≤ (wr.alloc (.cells #[Value.string x] 9)).heap.size) := by
        have := HB.out.size
        rw [Hid, World.size_alloc]
        omega
      have HNW := hid_mk (cell_one_new wr (Value.string x) 9)
      have HAP : Hid (∀ v' w2, w2.ownsRow w.heap.size 9 1 v' (k + 1) ((D.take k).map Value.string ++ [Value.string x]) → (wr.alloc (.cells #[Value.string x] 9)).grownBy w2 (Value.slice oa k oc).ownBlock → (∃ g cap, v' = .slice (some ⟨g, 0, none⟩) (k + 1) cap) ∧ Below w.heap.size w w2) := fun v' w2 h1 h2 => app_on2 HOW.out HB.out (Nat.le_refl _) h1 h2
      rw [hx] at HOA HSZ HNW HAP
      clear hs
      go_wp2_with (at_builtin; with_reducible refine wpList_append_own _ rfl _ _ 36 rfl w.heap.size 9 i0 (.string ⟨#[]⟩) 1 16 Tryz.underlying36 HI0.out HZ0.out HZ1.out HZ2.out rfl (by decide) (.slice oa k oc) k ((D.take k).map Value.string) rfl HOA.out ⟨wr.heap.size, 0, none⟩ 1 1 [Value.string (a ++ s ++ b)] rfl rfl HNW.out ?c0 ?c1 ?c2 ?c3 ?_)
      case c0 => simp [Value.oneCell']
      case c1 => unfold maxLen; omega
      case c2 => omega
      case c3 => exact HSZ.out
      intro v' w2 hown hg _
      rw [← List.map_take] at hown
      obtain ⟨⟨g, cap, rfl⟩, hb2⟩ := HAP.out v' w2 hown hg
      have HB2 := hid_mk hb2
      have HOW2 : Hid (w2.ownsRow w.heap.size 9 1 (.slice (some ⟨g, 0, none⟩) (k + 1) cap) (k + 1) ((D.take (k + 1)).map Value.string)) := by
        rw [Hid, HTK.out, List.map_append, hx]
        exact hown
      clear hown hg hb2 HAP HNW HOA HSZ HTK hix hx
      go_wp2
      refine ⟨⟨k + 1, _, _, rfl, by simp, by omega, HOW2, HB2⟩, ?_⟩
      simp only [intOf]
      omega
    · obtain rfl : k = 4 := by omega
      have HST : Hid (StrAt wr (.slice oa 4 oc) D) := by
        refine StrAt.of (B := w.heap.size) ?_
        have := HOW.out
        rw [List.take_of_length_le (by rw [HSL.out]; omega)] at this
        rw [HSL.out]
        exact this
      clear HOW
      go_wp2
      go_ret
      exact ⟨⟨_, _, rfl, HST.out⟩, HB.out⟩
theorem shorts_any (w : World) : Calls Tryz.prog 22 #[] w fun e w' => (∃ a c, e = .returned (.slice a 6 c) ∧ StrAt w' (.slice a 6 c) shs) ∧ Below w.heap.size w w' := by
  have hS := StrAt.lit w shs (by decide)
  have hB : Below w.heap.size w (w.alloc (.cells (shs.map Value.string).toArray 9)) := (Below.refl _ w).alloc (Nat.le_refl _) _
  go_enter Tryz.func22, Tryz.ntmps22
  go_wp2
  go_ret
  exact ⟨⟨_, _, rfl, hS⟩, hB⟩
end Go.Proofs.YtlhdapckenjigaaGreatDoor.P
namespace Go.Proofs.YtlhdapckenjigaaGreatDoor.P
open Go.RowKit
set_option maxRecDepth 100000

theorem str_of {s : ByteArray} {l : List UInt8} (h : (s.toList == l) = true) : s = ⟨l.toArray⟩ := by
  rw [beq_iff_eq, ByteArray.toList_eq] at h
  subst h
  rfl
theorem lgs_M {name : ByteArray} (h : (name.toList == [109, 97, 114, 103, 105, 110]) = true) : lgs name = LM := by
  rw [str_of h]
  kernel_rfl
theorem lgs_P {name : ByteArray} (h : (name.toList == [112, 97, 100, 100, 105, 110, 103]) = true) : lgs name = LP := by
  rw [str_of h]
  kernel_rfl
theorem lgs_W {name : ByteArray} (h : (name.toList == [98, 111, 114, 100, 101, 114, 45, 119, 105, 100, 116, 104]) = true) : lgs name = LW := by
  rw [str_of h]
  kernel_rfl
theorem lgs_S {name : ByteArray} (h : (name.toList == [98, 111, 114, 100, 101, 114, 45, 115, 116, 121, 108, 101]) = true) : lgs name = LS := by
  rw [str_of h]
  kernel_rfl
theorem lgs_C {name : ByteArray} (h : (name.toList == [98, 111, 114, 100, 101, 114, 45, 99, 111, 108, 111, 114]) = true) : lgs name = LC := by
  rw [str_of h]
  kernel_rfl
theorem lgs_O {name : ByteArray} (h : (name.toList == [111, 118, 101, 114, 102, 108, 111, 119]) = true) : lgs name = LO := by
  rw [str_of h]
  kernel_rfl
theorem lgs_none {name : ByteArray} (hM : (name.toList == [109, 97, 114, 103, 105, 110]) = false) (hP : (name.toList == [112, 97, 100, 100, 105, 110, 103]) = false) (hW : (name.toList == [98, 111, 114, 100, 101, 114, 45, 119, 105, 100, 116, 104]) = false) (hS : (name.toList == [98, 111, 114, 100, 101, 114, 45, 115, 116, 121, 108, 101]) = false) (hC : (name.toList == [98, 111, 114, 100, 101, 114, 45, 99, 111, 108, 111, 114]) = false) (hO : (name.toList == [111, 118, 101, 114, 102, 108, 111, 119]) = false) : lgs name = [] := by
  unfold lgs nM nP nW nS nC nO
  rw [hM, hP, hW, hS, hC, hO]
  rfl
theorem ne_MP {name : ByteArray} (h : (name.toList == [109, 97, 114, 103, 105, 110]) = true) : (name.toList == [112, 97, 100, 100, 105, 110, 103]) = false := by
  rw [beq_iff_eq] at h
  rw [h]
  rfl
theorem ne_MW {name : ByteArray} (h : (name.toList == [109, 97, 114, 103, 105, 110]) = true) : (name.toList == [98, 111, 114, 100, 101, 114, 45, 119, 105, 100, 116, 104]) = false := by
  rw [beq_iff_eq] at h
  rw [h]
  rfl
theorem ne_MS {name : ByteArray} (h : (name.toList == [109, 97, 114, 103, 105, 110]) = true) : (name.toList == [98, 111, 114, 100, 101, 114, 45, 115, 116, 121, 108, 101]) = false := by
  rw [beq_iff_eq] at h
  rw [h]
  rfl
theorem ne_MC {name : ByteArray} (h : (name.toList == [109, 97, 114, 103, 105, 110]) = true) : (name.toList == [98, 111, 114, 100, 101, 114, 45, 99, 111, 108, 111, 114]) = false := by
  rw [beq_iff_eq] at h
  rw [h]
  rfl
theorem ne_MO {name : ByteArray} (h : (name.toList == [109, 97, 114, 103, 105, 110]) = true) : (name.toList == [111, 118, 101, 114, 102, 108, 111, 119]) = false := by
  rw [beq_iff_eq] at h
  rw [h]
  rfl
theorem ne_PM {name : ByteArray} (h : (name.toList == [112, 97, 100, 100, 105, 110, 103]) = true) : (name.toList == [109, 97, 114, 103, 105, 110]) = false := by
  rw [beq_iff_eq] at h
  rw [h]
  rfl
theorem ne_PW {name : ByteArray} (h : (name.toList == [112, 97, 100, 100, 105, 110, 103]) = true) : (name.toList == [98, 111, 114, 100, 101, 114, 45, 119, 105, 100, 116, 104]) = false := by
  rw [beq_iff_eq] at h
  rw [h]
  rfl
theorem ne_PS {name : ByteArray} (h : (name.toList == [112, 97, 100, 100, 105, 110, 103]) = true) : (name.toList == [98, 111, 114, 100, 101, 114, 45, 115, 116, 121, 108, 101]) = false := by
  rw [beq_iff_eq] at h
  rw [h]
  rfl
theorem ne_PC {name : ByteArray} (h : (name.toList == [112, 97, 100, 100, 105, 110, 103]) = true) : (name.toList == [98, 111, 114, 100, 101, 114, 45, 99, 111, 108, 111, 114]) = false := by
  rw [beq_iff_eq] at h
  rw [h]
  rfl
theorem ne_PO {name : ByteArray} (h : (name.toList == [112, 97, 100, 100, 105, 110, 103]) = true) : (name.toList == [111, 118, 101, 114, 102, 108, 111, 119]) = false := by
  rw [beq_iff_eq] at h
  rw [h]
  rfl
theorem ne_WM {name : ByteArray} (h : (name.toList == [98, 111, 114, 100, 101, 114, 45, 119, 105, 100, 116, 104]) = true) : (name.toList == [109, 97, 114, 103, 105, 110]) = false := by
  rw [beq_iff_eq] at h
  rw [h]
  rfl
theorem ne_WP {name : ByteArray} (h : (name.toList == [98, 111, 114, 100, 101, 114, 45, 119, 105, 100, 116, 104]) = true) : (name.toList == [112, 97, 100, 100, 105, 110, 103]) = false := by
  rw [beq_iff_eq] at h
  rw [h]
  rfl
theorem ne_WS {name : ByteArray} (h : (name.toList == [98, 111, 114, 100, 101, 114, 45, 119, 105, 100, 116, 104]) = true) : (name.toList == [98, 111, 114, 100, 101, 114, 45, 115, 116, 121, 108, 101]) = false := by
  rw [beq_iff_eq] at h
  rw [h]
  rfl
theorem ne_WC {name : ByteArray} (h : (name.toList == [98, 111, 114, 100, 101, 114, 45, 119, 105, 100, 116, 104]) = true) : (name.toList == [98, 111, 114, 100, 101, 114, 45, 99, 111, 108, 111, 114]) = false := by
  rw [beq_iff_eq] at h
  rw [h]
  rfl
theorem ne_WO {name : ByteArray} (h : (name.toList == [98, 111, 114, 100, 101, 114, 45, 119, 105, 100, 116, 104]) = true) : (name.toList == [111, 118, 101, 114, 102, 108, 111, 119]) = false := by
  rw [beq_iff_eq] at h
  rw [h]
  rfl
theorem ne_SM {name : ByteArray} (h : (name.toList == [98, 111, 114, 100, 101, 114, 45, 115, 116, 121, 108, 101]) = true) : (name.toList == [109, 97, 114, 103, 105, 110]) = false := by
  rw [beq_iff_eq] at h
  rw [h]
  rfl
theorem ne_SP {name : ByteArray} (h : (name.toList == [98, 111, 114, 100, 101, 114, 45, 115, 116, 121, 108, 101]) = true) : (name.toList == [112, 97, 100, 100, 105, 110, 103]) = false := by
  rw [beq_iff_eq] at h
  rw [h]
  rfl
theorem ne_SW {name : ByteArray} (h : (name.toList == [98, 111, 114, 100, 101, 114, 45, 115, 116, 121, 108, 101]) = true) : (name.toList == [98, 111, 114, 100, 101, 114, 45, 119, 105, 100, 116, 104]) = false := by
  rw [beq_iff_eq] at h
  rw [h]
  rfl
theorem ne_SC {name : ByteArray} (h : (name.toList == [98, 111, 114, 100, 101, 114, 45, 115, 116, 121, 108, 101]) = true) : (name.toList == [98, 111, 114, 100, 101, 114, 45, 99, 111, 108, 111, 114]) = false := by
  rw [beq_iff_eq] at h
  rw [h]
  rfl
theorem ne_SO {name : ByteArray} (h : (name.toList == [98, 111, 114, 100, 101, 114, 45, 115, 116, 121, 108, 101]) = true) : (name.toList == [111, 118, 101, 114, 102, 108, 111, 119]) = false := by
  rw [beq_iff_eq] at h
  rw [h]
  rfl
theorem ne_CM {name : ByteArray} (h : (name.toList == [98, 111, 114, 100, 101, 114, 45, 99, 111, 108, 111, 114]) = true) : (name.toList == [109, 97, 114, 103, 105, 110]) = false := by
  rw [beq_iff_eq] at h
  rw [h]
  rfl
theorem ne_CP {name : ByteArray} (h : (name.toList == [98, 111, 114, 100, 101, 114, 45, 99, 111, 108, 111, 114]) = true) : (name.toList == [112, 97, 100, 100, 105, 110, 103]) = false := by
  rw [beq_iff_eq] at h
  rw [h]
  rfl
theorem ne_CW {name : ByteArray} (h : (name.toList == [98, 111, 114, 100, 101, 114, 45, 99, 111, 108, 111, 114]) = true) : (name.toList == [98, 111, 114, 100, 101, 114, 45, 119, 105, 100, 116, 104]) = false := by
  rw [beq_iff_eq] at h
  rw [h]
  rfl
theorem ne_CS {name : ByteArray} (h : (name.toList == [98, 111, 114, 100, 101, 114, 45, 99, 111, 108, 111, 114]) = true) : (name.toList == [98, 111, 114, 100, 101, 114, 45, 115, 116, 121, 108, 101]) = false := by
  rw [beq_iff_eq] at h
  rw [h]
  rfl
theorem ne_CO {name : ByteArray} (h : (name.toList == [98, 111, 114, 100, 101, 114, 45, 99, 111, 108, 111, 114]) = true) : (name.toList == [111, 118, 101, 114, 102, 108, 111, 119]) = false := by
  rw [beq_iff_eq] at h
  rw [h]
  rfl
theorem ne_OM {name : ByteArray} (h : (name.toList == [111, 118, 101, 114, 102, 108, 111, 119]) = true) : (name.toList == [109, 97, 114, 103, 105, 110]) = false := by
  rw [beq_iff_eq] at h
  rw [h]
  rfl
theorem ne_OP {name : ByteArray} (h : (name.toList == [111, 118, 101, 114, 102, 108, 111, 119]) = true) : (name.toList == [112, 97, 100, 100, 105, 110, 103]) = false := by
  rw [beq_iff_eq] at h
  rw [h]
  rfl
theorem ne_OW {name : ByteArray} (h : (name.toList == [111, 118, 101, 114, 102, 108, 111, 119]) = true) : (name.toList == [98, 111, 114, 100, 101, 114, 45, 119, 105, 100, 116, 104]) = false := by
  rw [beq_iff_eq] at h
  rw [h]
  rfl
theorem ne_OS {name : ByteArray} (h : (name.toList == [111, 118, 101, 114, 102, 108, 111, 119]) = true) : (name.toList == [98, 111, 114, 100, 101, 114, 45, 115, 116, 121, 108, 101]) = false := by
  rw [beq_iff_eq] at h
  rw [h]
  rfl
theorem ne_OC {name : ByteArray} (h : (name.toList == [111, 118, 101, 114, 102, 108, 111, 119]) = true) : (name.toList == [98, 111, 114, 100, 101, 114, 45, 99, 111, 108, 111, 114]) = false := by
  rw [beq_iff_eq] at h
  rw [h]
  rfl
set_option maxHeartbeats 2000000 in
theorem longs_M {name : ByteArray} (h : (name.toList == [109, 97, 114, 103, 105, 110]) = true) (w : World) : Calls Tryz.prog 20 #[.string name] w fun e w' => (∃ a n c, e = .returned (.slice a n c) ∧ n = (lgs name).length ∧ StrAt w' (.slice a n c) (lgs name)) ∧ Below w.heap.size w w' := by
  rw [lgs_M h]
  have hs : name.size ≤ 20 := by rw [str_of h]; decide
  have hs2 : (name ++ ⟨#[45]⟩).size ≤ 30 := by rw [ByteArray.size_append]; show name.size + 1 ≤ 30; omega
  have hsd := sided_any (name ++ ⟨#[45]⟩) ⟨#[]⟩ w (by omega) (by decide)
  have he : sd (name ++ ⟨#[45]⟩) ⟨#[]⟩ = LM := by rw [str_of h]; kernel_rfl
  rw [he] at hsd
  clear he
  have hl : LM.length = 4 := rfl
  have HL := hid_mk hl
  clear hl
  generalize LM = D at *
  go_enter Tryz.func20, Tryz.ntmps20
  go_wp2_with (go_at_call 36; fail)
  refine hsd.mono ?_
  rintro e w2 ⟨⟨a, c, rfl, hS⟩, hb⟩
  clear hsd
  go_wp2
  go_ret
  exact ⟨⟨_, _, _, rfl, HL.out.symm, hS⟩, hb⟩
set_option maxHeartbeats 2000000 in
theorem longs_P {name : ByteArray} (h : (name.toList == [112, 97, 100, 100, 105, 110, 103]) = true) (w : World) : Calls Tryz.prog 20 #[.string name] w fun e w' => (∃ a n c, e = .returned (.slice a n c) ∧ n = (lgs name).length ∧ StrAt w' (.slice a n c) (lgs name)) ∧ Below w.heap.size w w' := by
  rw [lgs_P h]
  have fM := ne_PM h
  have hs : name.size ≤ 20 := by rw [str_of h]; decide
  have hs2 : (name ++ ⟨#[45]⟩).size ≤ 30 := by rw [ByteArray.size_append]; show name.size + 1 ≤ 30; omega
  have hsd := sided_any (name ++ ⟨#[45]⟩) ⟨#[]⟩ w (by omega) (by decide)
  have he : sd (name ++ ⟨#[45]⟩) ⟨#[]⟩ = LP := by rw [str_of h]; kernel_rfl
  rw [he] at hsd
  clear he
  have hl : LP.length = 4 := rfl
  have HL := hid_mk hl
  clear hl
  generalize LP = D at *
  go_enter Tryz.func20, Tryz.ntmps20
  go_wp2_with (go_at_call 36; fail)
  refine hsd.mono ?_
  rintro e w2 ⟨⟨a, c, rfl, hS⟩, hb⟩
  clear hsd
  go_wp2
  go_ret
  exact ⟨⟨_, _, _, rfl, HL.out.symm, hS⟩, hb⟩
set_option maxHeartbeats 2000000 in
theorem longs_W {name : ByteArray} (h : (name.toList == [98, 111, 114, 100, 101, 114, 45, 119, 105, 100, 116, 104]) = true) (w : World) : Calls Tryz.prog 20 #[.string name] w fun e w' => (∃ a n c, e = .returned (.slice a n c) ∧ n = (lgs name).length ∧ StrAt w' (.slice a n c) (lgs name)) ∧ Below w.heap.size w w' := by
  rw [lgs_W h]
  have fM := ne_WM h
  have fP := ne_WP h
  have htr := trim_any name ⟨#[98, 111, 114, 100, 101, 114]⟩ w
  have hts : (⟨(Lib.trimPrefix name.data.toList (ByteArray.mk #[98, 111, 114, 100, 101, 114]).data.toList).toArray⟩ : ByteArray) = ⟨#[45, 119, 105, 100, 116, 104]⟩ := by rw [str_of h]; kernel_rfl
  rw [hts] at htr
  have hsd := sided_any ⟨#[98, 111, 114, 100, 101, 114, 45]⟩ ⟨#[45, 119, 105, 100, 116, 104]⟩ w (by decide) (by decide)
  have he : sd ⟨#[98, 111, 114, 100, 101, 114, 45]⟩ ⟨#[45, 119, 105, 100, 116, 104]⟩ = LW := by kernel_rfl
  rw [he] at hsd
  clear he hts
  have hl : LW.length = 4 := rfl
  have HL := hid_mk hl
  clear hl
  generalize LW = D at *
  go_enter Tryz.func20, Tryz.ntmps20
  go_wp2_with (go_at_call 37; fail)
  refine htr.mono ?_
  rintro e w1 ⟨rfl, rfl⟩
  go_wp2_with (go_at_call 36; fail)
  refine hsd.mono ?_
  rintro e w2 ⟨⟨a, c, rfl, hS⟩, hb⟩
  clear hsd
  go_wp2
  go_ret
  exact ⟨⟨_, _, _, rfl, HL.out.symm, hS⟩, hb⟩
set_option maxHeartbeats 2000000 in
theorem longs_S {name : ByteArray} (h : (name.toList == [98, 111, 114, 100, 101, 114, 45, 115, 116, 121, 108, 101]) = true) (w : World) : Calls Tryz.prog 20 #[.string name] w fun e w' => (∃ a n c, e = .returned (.slice a n c) ∧ n = (lgs name).length ∧ StrAt w' (.slice a n c) (lgs name)) ∧ Below w.heap.size w w' := by
  rw [lgs_S h]
  have fM := ne_SM h
  have fP := ne_SP h
  have fW := ne_SW h
  have htr := trim_any name ⟨#[98, 111, 114, 100, 101, 114]⟩ w
  have hts : (⟨(Lib.trimPrefix name.data.toList (ByteArray.mk #[98, 111, 114, 100, 101, 114]).data.toList).toArray⟩ : ByteArray) = ⟨#[45, 115, 116, 121, 108, 101]⟩ := by rw [str_of h]; kernel_rfl
  rw [hts] at htr
  have hsd := sided_any ⟨#[98, 111, 114, 100, 101, 114, 45]⟩ ⟨#[45, 115, 116, 121, 108, 101]⟩ w (by decide) (by decide)
  have he : sd ⟨#[98, 111, 114, 100, 101, 114, 45]⟩ ⟨#[45, 115, 116, 121, 108, 101]⟩ = LS := by kernel_rfl
  rw [he] at hsd
  clear he hts
  have hl : LS.length = 4 := rfl
  have HL := hid_mk hl
  clear hl
  generalize LS = D at *
  go_enter Tryz.func20, Tryz.ntmps20
  go_wp2_with (go_at_call 37; fail)
  refine htr.mono ?_
  rintro e w1 ⟨rfl, rfl⟩
  go_wp2_with (go_at_call 36; fail)
  refine hsd.mono ?_
  rintro e w2 ⟨⟨a, c, rfl, hS⟩, hb⟩
  clear hsd
  go_wp2
  go_ret
  exact ⟨⟨_, _, _, rfl, HL.out.symm, hS⟩, hb⟩
set_option maxHeartbeats 2000000 in
theorem longs_C {name : ByteArray} (h : (name.toList == [98, 111, 114, 100, 101, 114, 45, 99, 111, 108, 111, 114]) = true) (w : World) : Calls Tryz.prog 20 #[.string name] w fun e w' => (∃ a n c, e = .returned (.slice a n c) ∧ n = (lgs name).length ∧ StrAt w' (.slice a n c) (lgs name)) ∧ Below w.heap.size w w' := by
  rw [lgs_C h]
  have fM := ne_CM h
  have fP := ne_CP h
  have fW := ne_CW h
  have fS := ne_CS h
  have htr := trim_any name ⟨#[98, 111, 114, 100, 101, 114]⟩ w
  have hts : (⟨(Lib.trimPrefix name.data.toList (ByteArray.mk #[98, 111, 114, 100, 101, 114]).data.toList).toArray⟩ : ByteArray) = ⟨#[45, 99, 111, 108, 111, 114]⟩ := by rw [str_of h]; kernel_rfl
  rw [hts] at htr
  have hsd := sided_any ⟨#[98, 111, 114, 100, 101, 114, 45]⟩ ⟨#[45, 99, 111, 108, 111, 114]⟩ w (by decide) (by decide)
  have he : sd ⟨#[98, 111, 114, 100, 101, 114, 45]⟩ ⟨#[45, 99, 111, 108, 111, 114]⟩ = LC := by kernel_rfl
  rw [he] at hsd
  clear he hts
  have hl : LC.length = 4 := rfl
  have HL := hid_mk hl
  clear hl
  generalize LC = D at *
  go_enter Tryz.func20, Tryz.ntmps20
  go_wp2_with (go_at_call 37; fail)
  refine htr.mono ?_
  rintro e w1 ⟨rfl, rfl⟩
  go_wp2_with (go_at_call 36; fail)
  refine hsd.mono ?_
  rintro e w2 ⟨⟨a, c, rfl, hS⟩, hb⟩
  clear hsd
  go_wp2
  go_ret
  exact ⟨⟨_, _, _, rfl, HL.out.symm, hS⟩, hb⟩
set_option maxHeartbeats 2000000 in
theorem longs_O {name : ByteArray} (h : (name.toList == [111, 118, 101, 114, 102, 108, 111, 119]) = true) (w : World) : Calls Tryz.prog 20 #[.string name] w fun e w' => (∃ a n c, e = .returned (.slice a n c) ∧ n = (lgs name).length ∧ StrAt w' (.slice a n c) (lgs name)) ∧ Below w.heap.size w w' := by
  rw [lgs_O h]
  have fM := ne_OM h
  have fP := ne_OP h
  have fW := ne_OW h
  have fS := ne_OS h
  have fC := ne_OC h
  have hS := StrAt.lit w LO (by decide)
  have hB : Below w.heap.size w (w.alloc (.cells (LO.map Value.string).toArray 9)) := (Below.refl _ w).alloc (Nat.le_refl _) _
  go_enter Tryz.func20, Tryz.ntmps20
  go_wp2
  go_ret
  exact ⟨⟨_, _, _, rfl, rfl, hS⟩, hB⟩
set_option maxHeartbeats 2000000 in
theorem longs_none {name : ByteArray} (hM : (name.toList == [109, 97, 114, 103, 105, 110]) = false) (hP : (name.toList == [112, 97, 100, 100, 105, 110, 103]) = false) (hW : (name.toList == [98, 111, 114, 100, 101, 114, 45, 119, 105, 100, 116, 104]) = false) (hS : (name.toList == [98, 111, 114, 100, 101, 114, 45, 115, 116, 121, 108, 101]) = false) (hC : (name.toList == [98, 111, 114, 100, 101, 114, 45, 99, 111, 108, 111, 114]) = false) (hO : (name.toList == [111, 118, 101, 114, 102, 108, 111, 119]) = false) (w : World) : Calls Tryz.prog 20 #[.string name] w fun e w' => (∃ a n c, e = .returned (.slice a n c) ∧ n = (lgs name).length ∧ StrAt w' (.slice a n c) (lgs name)) ∧ Below w.heap.size w w' := by
  rw [lgs_none hM hP hW hS hC hO]
  go_enter Tryz.func20, Tryz.ntmps20
  go_wp2
  go_ret
  exact ⟨⟨_, _, _, rfl, rfl, StrAt.nil _⟩, Below.refl _ _⟩
theorem longs_any (name : ByteArray) (w : World) : Calls Tryz.prog 20 #[.string name] w fun e w' => (∃ a n c, e = .returned (.slice a n c) ∧ n = (lgs name).length ∧ StrAt w' (.slice a n c) (lgs name)) ∧ Below w.heap.size w w' := by
  cases hM : (name.toList == [109, 97, 114, 103, 105, 110]) with
  | true => exact longs_M hM w
  | false =>
    cases hP : (name.toList == [112, 97, 100, 100, 105, 110, 103]) with
    | true => exact longs_P hP w
    | false =>
      cases hW : (name.toList == [98, 111, 114, 100, 101, 114, 45, 119, 105, 100, 116, 104]) with
      | true => exact longs_W hW w
      | false =>
        cases hS : (name.toList == [98, 111, 114, 100, 101, 114, 45, 115, 116, 121, 108, 101]) with
        | true => exact longs_S hS w
        | false =>
          cases hC : (name.toList == [98, 111, 114, 100, 101, 114, 45, 99, 111, 108, 111, 114]) with
          | true => exact longs_C hC w
          | false =>
            cases hO : (name.toList == [111, 118, 101, 114, 102, 108, 111, 119]) with
            | true => exact longs_O hO w
            | false =>
              exact longs_none hM hP hW hS hC hO w
end Go.Proofs.YtlhdapckenjigaaGreatDoor.P
namespace Go.Proofs.YtlhdapckenjigaaGreatDoor.P
open Go.RowKit
set_option maxRecDepth 100000

theorem sl_six (s : ByteArray) (h : 6 ≤ s.size) (w : World) : (Instr.slice 9 (.string s) (some (.int .i64 6)) none none).run Tryz.prog w = .ok (.string (s.extract 6 s.size)) w := by
  have h2 : (6 : Int) ≤ (s.size : Int) := by omega
  simp [Instr.slice, run_underlying Tryz.underlying9, Instr.sliceBounds, run_sliceBound, h2]
set_option maxHeartbeats 4000000 in
theorem rlongs_M {name : ByteArray} (h : (name.toList == [109, 97, 114, 103, 105, 110]) = true) (w : World) : Calls Tryz.prog 32 #[.string name] w fun e w' => (∃ a n c, e = .returned (.slice a n c) ∧ n = (lgs name).length ∧ StrAt w' (.slice a n c) (lgs name)) ∧ Below w.heap.size w w' := by
  rw [lgs_M h]
  obtain ⟨i0, hi, hz0, hz1, hz2⟩ := info_parts info9
  have HI0 := hid_mk hi
  have HZ0 := hid_mk hz0
  have HZ1 := hid_mk hz1
  have HZ2 := hid_mk hz2
  clear hi hz0 hz1 hz2
  have HX0 : Hid (Bx (w.alloc (.cells (sides.map Value.string).toArray 9)) w.heap.size 9 (sides.map Value.string).toArray) := Bx.new w _ _
  have HB0 : Hid (Below w.heap.size w (w.alloc (.cells (sides.map Value.string).toArray 9))) := (Below.refl _ w).alloc (Nat.le_refl _) _
  have he : sd (name ++ ⟨#[45]⟩) ⟨#[]⟩ = LM := by rw [str_of h]; kernel_rfl
  have HSD : Hid (∀ k s, sides[k]? = some s → (sd (name ++ ⟨#[45]⟩) ⟨#[]⟩).take (k + 1) = (sd (name ++ ⟨#[45]⟩) ⟨#[]⟩).take k ++ [name ++ ⟨#[45]⟩ ++ s ++ ⟨#[]⟩]) := fun k s h => sd_take h
  rw [he] at HSD
  clear he
  have HL : Hid (LM.length = 4) := rfl
  generalize LM = D at *
  have hs : name.size ≤ 20 := by rw [str_of h]; decide
  go_enter Tryz.func32, Tryz.ntmps32
  go_wp2
  go_loopw [3, 24] (fun a3 a24 wr => ∃ (k : Nat) (oa : Option Addr) (oc : Nat), a3 = .slice oa k oc ∧ a24 = .int .i64 (k : Int) ∧ k ≤ 4 ∧ Hid (wr.ownsRow (w.heap.size + 1) 9 1 (.slice oa k oc) k ((D.take k).map Value.string)) ∧ Hid (Bx wr w.heap.size 9 (sides.map Value.string).toArray) ∧ Hid (Below w.heap.size w wr)) (fun _ a24 _ => 5 - (intOf a24).toNat)
  case atStart => exact ⟨0, _, _, rfl, rfl, by omega, World.ownsRow_nil _ _ _ _, HX0, HB0⟩
  case round =>
    obtain ⟨k, oa, oc, rfl, rfl, hk, HOW, HX, HB⟩ := hrel
    by_cases hlt : k < 4
    · obtain ⟨s, hs, hss⟩ := sides_at k hlt
      have q1 : wr.cell? ⟨w.heap.size, k, none⟩ = some (.string s) := HX.out.cell k _ (by simp [hs])
      have HTK := hid_mk (HSD.out k s hs)
      have has : (name ++ ⟨#[45]⟩ ++ s).size ≤ 1006 := by
        rw [ByteArray.size_append, ByteArray.size_append]
        have : (⟨#[45]⟩ : ByteArray).size = 1 := rfl
        omega
      have has2 : (name ++ ⟨#[45]⟩).size ≤ 1000 := by
        rw [ByteArray.size_append]
        have : (⟨#[45]⟩ : ByteArray).size = 1 := rfl
        omega
      obtain ⟨x, hx⟩ : ∃ x, x = name ++ ⟨#[45]⟩ ++ s ++ ⟨#[]⟩ := ⟨_, rfl⟩
      rw [← hx] at HTK
      have HOA := hid_mk (HOW.out.alloc (.cells #[Value.string x] 9))
      have HSZ : Hid (w.heap.size + 1 ≤ (wr.alloc (.cells #[Value.string x] 9)).heap.size) := by
        have := HX.out.lt
        rw [Hid, World.size_alloc]
        omega
      have HNW := hid_mk (cell_one_new wr (Value.string x) 9)
      have HAP : Hid (∀ v' w2, w2.ownsRow (w.heap.size + 1) 9 1 v' (k + 1) ((D.take k).map Value.string ++ [Value.string x]) → (wr.alloc (.cells #[Value.string x] 9)).grownBy w2 (Value.slice oa k oc).ownBlock → (∃ g cap, v' = .slice (some ⟨g, 0, none⟩) (k + 1) cap) ∧ Bx w2 w.heap.size 9 (sides.map Value.string).toArray ∧ Below w.heap.size w w2) := fun v' w2 h1 h2 => app_on HOW.out HX.out HB.out (Nat.le_refl _) h1 h2
      rw [hx] at HOA HSZ HNW HAP
      clear hs
      go_wp2_with (at_builtin; with_reducible refine wpList_append_own _ rfl _ _ 36 rfl (w.heap.size + 1) 9 i0 (.string ⟨#[]⟩) 1 16 Tryz.underlying36 HI0.out HZ0.out HZ1.out HZ2.out rfl (by decide) (.slice oa k oc) k ((D.take k).map Value.string) rfl HOA.out ⟨wr.heap.size, 0, none⟩ 1 1 [Value.string (name ++ ⟨#[45]⟩ ++ s ++ ⟨#[]⟩)] rfl rfl HNW.out ?c0 ?c1 ?c2 ?c3 ?_)
      case c0 => simp [Value.oneCell']
      case c1 => unfold maxLen; omega
      case c2 => omega
      case c3 => exact HSZ.out
      intro v' w2 hown hg _
      rw [← List.map_take] at hown
      obtain ⟨⟨g, cap, rfl⟩, hx2, hb2⟩ := HAP.out v' w2 hown hg
      have HX2 := hid_mk hx2
      have HB2 := hid_mk hb2
      have HOW2 : Hid (w2.ownsRow (w.heap.size + 1) 9 1 (.slice (some ⟨g, 0, none⟩) (k + 1) cap) (k + 1) ((D.take (k + 1)).map Value.string)) := by
        rw [Hid, HTK.out, List.map_append, hx]
        exact hown
      clear hown hg hb2 hx2 HAP HNW HOA HSZ HTK hx q1
      go_wp2
      refine ⟨⟨k + 1, _, _, rfl, by simp, by omega, HOW2, HX2, HB2⟩, ?_⟩
      simp only [intOf]
      omega
    · obtain rfl : k = 4 := by omega
      have HST : Hid (StrAt wr (.slice oa 4 oc) D) := by
        refine StrAt.of (B := w.heap.size + 1) ?_
        have := HOW.out
        rw [List.take_of_length_le (by rw [HL.out]; omega)] at this
        rw [HL.out]
        exact this
      clear HOW
      go_wp2
      go_ret
      exact ⟨⟨_, _, _, rfl, HL.out.symm, HST.out⟩, HB.out⟩
set_option maxHeartbeats 4000000 in
theorem rlongs_P {name : ByteArray} (h : (name.toList == [112, 97, 100, 100, 105, 110, 103]) = true) (w : World) : Calls Tryz.prog 32 #[.string name] w fun e w' => (∃ a n c, e = .returned (.slice a n c) ∧ n = (lgs name).length ∧ StrAt w' (.slice a n c) (lgs name)) ∧ Below w.heap.size w w' := by
  rw [lgs_P h]
  have fM := ne_PM h
  obtain ⟨i0, hi, hz0, hz1, hz2⟩ := info_parts info9
  have HI0 := hid_mk hi
  have HZ0 := hid_mk hz0
  have HZ1 := hid_mk hz1
  have HZ2 := hid_mk hz2
  clear hi hz0 hz1 hz2
  have HX0 : Hid (Bx (w.alloc (.cells (sides.map Value.string).toArray 9)) w.heap.size 9 (sides.map Value.string).toArray) := Bx.new w _ _
  have HB0 : Hid (Below w.heap.size w (w.alloc (.cells (sides.map Value.string).toArray 9))) := (Below.refl _ w).alloc (Nat.le_refl _) _
  have he : sd (name ++ ⟨#[45]⟩) ⟨#[]⟩ = LP := by rw [str_of h]; kernel_rfl
  have HSD : Hid (∀ k s, sides[k]? = some s → (sd (name ++ ⟨#[45]⟩) ⟨#[]⟩).take (k + 1) = (sd (name ++ ⟨#[45]⟩) ⟨#[]⟩).take k ++ [name ++ ⟨#[45]⟩ ++ s ++ ⟨#[]⟩]) := fun k s h => sd_take h
  rw [he] at HSD
  clear he
  have HL : Hid (LP.length = 4) := rfl
  generalize LP = D at *
  have hs : name.size ≤ 20 := by rw [str_of h]; decide
  go_enter Tryz.func32, Tryz.ntmps32
  go_wp2
  go_loopw [3, 24] (fun a3 a24 wr => ∃ (k : Nat) (oa : Option Addr) (oc : Nat), a3 = .slice oa k oc ∧ a24 = .int .i64 (k : Int) ∧ k ≤ 4 ∧ Hid (wr.ownsRow (w.heap.size + 1) 9 1 (.slice oa k oc) k ((D.take k).map Value.string)) ∧ Hid (Bx wr w.heap.size 9 (sides.map Value.string).toArray) ∧ Hid (Below w.heap.size w wr)) (fun _ a24 _ => 5 - (intOf a24).toNat)
  case atStart => exact ⟨0, _, _, rfl, rfl, by omega, World.ownsRow_nil _ _ _ _, HX0, HB0⟩
  case round =>
    obtain ⟨k, oa, oc, rfl, rfl, hk, HOW, HX, HB⟩ := hrel
    by_cases hlt : k < 4
    · obtain ⟨s, hs, hss⟩ := sides_at k hlt
      have q1 : wr.cell? ⟨w.heap.size, k, none⟩ = some (.string s) := HX.out.cell k _ (by simp [hs])
      have HTK := hid_mk (HSD.out k s hs)
      have has : (name ++ ⟨#[45]⟩ ++ s).size ≤ 1006 := by
        rw [ByteArray.size_append, ByteArray.size_append]
        have : (⟨#[45]⟩ : ByteArray).size = 1 := rfl
        omega
      have has2 : (name ++ ⟨#[45]⟩).size ≤ 1000 := by
        rw [ByteArray.size_append]
        have : (⟨#[45]⟩ : ByteArray).size = 1 := rfl
        omega
      obtain ⟨x, hx⟩ : ∃ x, x = name ++ ⟨#[45]⟩ ++ s ++ ⟨#[]⟩ := ⟨_, rfl⟩
      rw [← hx] at HTK
      have HOA := hid_mk (HOW.out.alloc (.cells #[Value.string x] 9))
      have HSZ : Hid (w.heap.size + 1 ≤ (wr.alloc (.cells #[Value.string x] 9)).heap.size) := by
        have := HX.out.lt
        rw [Hid, World.size_alloc]
        omega
      have HNW := hid_mk (cell_one_new wr (Value.string x) 9)
      have HAP : Hid (∀ v' w2, w2.ownsRow (w.heap.size + 1) 9 1 v' (k + 1) ((D.take k).map Value.string ++ [Value.string x]) → (wr.alloc (.cells #[Value.string x] 9)).grownBy w2 (Value.slice oa k oc).ownBlock → (∃ g cap, v' = .slice (some ⟨g, 0, none⟩) (k + 1) cap) ∧ Bx w2 w.heap.size 9 (sides.map Value.string).toArray ∧ Below w.heap.size w w2) := fun v' w2 h1 h2 => app_on HOW.out HX.out HB.out (Nat.le_refl _) h1 h2
      rw [hx] at HOA HSZ HNW HAP
      clear hs
      go_wp2_with (at_builtin; with_reducible refine wpList_append_own _ rfl _ _ 36 rfl (w.heap.size + 1) 9 i0 (.string ⟨#[]⟩) 1 16 Tryz.underlying36 HI0.out HZ0.out HZ1.out HZ2.out rfl (by decide) (.slice oa k oc) k ((D.take k).map Value.string) rfl HOA.out ⟨wr.heap.size, 0, none⟩ 1 1 [Value.string (name ++ ⟨#[45]⟩ ++ s ++ ⟨#[]⟩)] rfl rfl HNW.out ?c0 ?c1 ?c2 ?c3 ?_)
      case c0 => simp [Value.oneCell']
      case c1 => unfold maxLen; omega
      case c2 => omega
      case c3 => exact HSZ.out
      intro v' w2 hown hg _
      rw [← List.map_take] at hown
      obtain ⟨⟨g, cap, rfl⟩, hx2, hb2⟩ := HAP.out v' w2 hown hg
      have HX2 := hid_mk hx2
      have HB2 := hid_mk hb2
      have HOW2 : Hid (w2.ownsRow (w.heap.size + 1) 9 1 (.slice (some ⟨g, 0, none⟩) (k + 1) cap) (k + 1) ((D.take (k + 1)).map Value.string)) := by
        rw [Hid, HTK.out, List.map_append, hx]
        exact hown
      clear hown hg hb2 hx2 HAP HNW HOA HSZ HTK hx q1
      go_wp2
      refine ⟨⟨k + 1, _, _, rfl, by simp, by omega, HOW2, HX2, HB2⟩, ?_⟩
      simp only [intOf]
      omega
    · obtain rfl : k = 4 := by omega
      have HST : Hid (StrAt wr (.slice oa 4 oc) D) := by
        refine StrAt.of (B := w.heap.size + 1) ?_
        have := HOW.out
        rw [List.take_of_length_le (by rw [HL.out]; omega)] at this
        rw [HL.out]
        exact this
      clear HOW
      go_wp2
      go_ret
      exact ⟨⟨_, _, _, rfl, HL.out.symm, HST.out⟩, HB.out⟩
set_option maxHeartbeats 4000000 in
theorem rlongs_W {name : ByteArray} (h : (name.toList == [98, 111, 114, 100, 101, 114, 45, 119, 105, 100, 116, 104]) = true) (w : World) : Calls Tryz.prog 32 #[.string name] w fun e w' => (∃ a n c, e = .returned (.slice a n c) ∧ n = (lgs name).length ∧ StrAt w' (.slice a n c) (lgs name)) ∧ Below w.heap.size w w' := by
  rw [lgs_W h]
  have fM := ne_WM h
  have fP := ne_WP h
  obtain ⟨i0, hi, hz0, hz1, hz2⟩ := info_parts info9
  have HI0 := hid_mk hi
  have HZ0 := hid_mk hz0
  have HZ1 := hid_mk hz1
  have HZ2 := hid_mk hz2
  clear hi hz0 hz1 hz2
  have HX0 : ∀ m, Hid (Bx ((w.drewN m).alloc (.cells (sides.map Value.string).toArray 9)) w.heap.size 9 (sides.map Value.string).toArray) := fun m => Bx.new (w.drewN m) _ _
  have HB0 : ∀ m, Hid (Below w.heap.size w ((w.drewN m).alloc (.cells (sides.map Value.string).toArray 9))) := fun m => (Below.trans (Below.refl _ w) ⟨rfl, rfl, rfl, Nat.le_refl _, fun _ _ => rfl⟩ : Below w.heap.size w (w.drewN m)).alloc (Nat.le_refl _) _
  have he : sd (⟨#[98, 111, 114, 100, 101, 114]⟩ ++ ⟨#[45]⟩) ⟨#[45, 119, 105, 100, 116, 104]⟩ = LW := by kernel_rfl
  have HSD : Hid (∀ k s, sides[k]? = some s → (sd (⟨#[98, 111, 114, 100, 101, 114]⟩ ++ ⟨#[45]⟩) ⟨#[45, 119, 105, 100, 116, 104]⟩).take (k + 1) = (sd (⟨#[98, 111, 114, 100, 101, 114]⟩ ++ ⟨#[45]⟩) ⟨#[45, 119, 105, 100, 116, 104]⟩).take k ++ [⟨#[98, 111, 114, 100, 101, 114]⟩ ++ ⟨#[45]⟩ ++ s ++ ⟨#[45, 119, 105, 100, 116, 104]⟩]) := fun k s h => sd_take h
  rw [he] at HSD
  clear he
  have HL : Hid (LW.length = 4) := rfl
  generalize LW = D at *
  have hs : name.size = 12 := by rw [str_of h]; rfl
  have hsl := fun w => sl_six name (by omega) w
  have hex : name.extract 6 name.size = ⟨#[45, 119, 105, 100, 116, 104]⟩ := by rw [str_of h]; kernel_rfl
  rw [hex] at hsl
  clear hex
  obtain ⟨HD, hHD⟩ : ∃ HD : ByteArray, HD = ⟨#[98, 111, 114, 100, 101, 114]⟩ := ⟨_, rfl⟩
  obtain ⟨TL, hTL⟩ : ∃ TL : ByteArray, TL = ⟨#[45, 119, 105, 100, 116, 104]⟩ := ⟨_, rfl⟩
  have hhs : HD.size ≤ 20 := by rw [hHD]; decide
  have hts : TL.size ≤ 20 := by rw [hTL]; decide
  rw [← hTL] at hsl
  rw [← hHD, ← hTL] at HSD
  have HHD := hid_mk hHD
  clear hHD hTL
  go_enter Tryz.func32, Tryz.ntmps32
  go_upto_region 10 with fail
  go_quiet (fail)
  rw [← HHD.out]
  clear HHD hsl
  go_wp2
  go_loopw [3, 24] (fun a3 a24 wr => ∃ (k : Nat) (oa : Option Addr) (oc : Nat), a3 = .slice oa k oc ∧ a24 = .int .i64 (k : Int) ∧ k ≤ 4 ∧ Hid (wr.ownsRow (w.heap.size + 1) 9 1 (.slice oa k oc) k ((D.take k).map Value.string)) ∧ Hid (Bx wr w.heap.size 9 (sides.map Value.string).toArray) ∧ Hid (Below w.heap.size w wr)) (fun _ a24 _ => 5 - (intOf a24).toNat)
  case atStart => exact ⟨0, _, _, rfl, rfl, by omega, World.ownsRow_nil _ _ _ _, HX0 _, HB0 _⟩
  case round =>
    obtain ⟨k, oa, oc, rfl, rfl, hk, HOW, HX, HB⟩ := hrel
    by_cases hlt : k < 4
    · obtain ⟨s, hs, hss⟩ := sides_at k hlt
      have q1 : wr.cell? ⟨w.heap.size, k, none⟩ = some (.string s) := HX.out.cell k _ (by simp [hs])
      have HTK := hid_mk (HSD.out k s hs)
      have has : (HD ++ ⟨#[45]⟩ ++ s).size ≤ 1006 := by
        rw [ByteArray.size_append, ByteArray.size_append]
        have : (⟨#[45]⟩ : ByteArray).size = 1 := rfl
        omega
      have has2 : (HD ++ ⟨#[45]⟩).size ≤ 1000 := by
        rw [ByteArray.size_append]
        have : (⟨#[45]⟩ : ByteArray).size = 1 := rfl
        omega
      obtain ⟨x, hx⟩ : ∃ x, x = HD ++ ⟨#[45]⟩ ++ s ++ TL := ⟨_, rfl⟩
      rw [← hx] at HTK
      have HOA := hid_mk (HOW.out.alloc (.cells #[Value.string x] 9))
      have HSZ : Hid (w.heap.size + 1 ≤ (wr.alloc (.cells #[Value.string x] 9)).heap.size) := by
        have := HX.out.lt
        rw [Hid, World.size_alloc]
        omega
      have HNW := hid_mk (cell_one_new wr (Value.string x) 9)
      have HAP : Hid (∀ v' w2, w2.ownsRow (w.heap.size + 1) 9 1 v' (k + 1) ((D.take k).map Value.string ++ [Value.string x]) → (wr.alloc (.cells #[Value.string x] 9)).grownBy w2 (Value.slice oa k oc).ownBlock → (∃ g cap, v' = .slice (some ⟨g, 0, none⟩) (k + 1) cap) ∧ Bx w2 w.heap.size 9 (sides.map Value.string).toArray ∧ Below w.heap.size w w2) := fun v' w2 h1 h2 => app_on HOW.out HX.out HB.out (Nat.le_refl _) h1 h2
      rw [hx] at HOA HSZ HNW HAP
      clear hs
      go_wp2_with (at_builtin; with_reducible refine wpList_append_own _ rfl _ _ 36 rfl (w.heap.size + 1) 9 i0 (.string ⟨#[]⟩) 1 16 Tryz.underlying36 HI0.out HZ0.out HZ1.out HZ2.out rfl (by decide) (.slice oa k oc) k ((D.take k).map Value.string) rfl HOA.out ⟨wr.heap.size, 0, none⟩ 1 1 [Value.string (HD ++ ⟨#[45]⟩ ++ s ++ TL)] rfl rfl HNW.out ?c0 ?c1 ?c2 ?c3 ?_)
      case c0 => simp [Value.oneCell']
      case c1 => unfold maxLen; omega
      case c2 => omega
      case c3 => exact HSZ.out
      intro v' w2 hown hg _
      rw [← List.map_take] at hown
      obtain ⟨⟨g, cap, rfl⟩, hx2, hb2⟩ := HAP.out v' w2 hown hg
      have HX2 := hid_mk hx2
      have HB2 := hid_mk hb2
      have HOW2 : Hid (w2.ownsRow (w.heap.size + 1) 9 1 (.slice (some ⟨g, 0, none⟩) (k + 1) cap) (k + 1) ((D.take (k + 1)).map Value.string)) := by
        rw [Hid, HTK.out, List.map_append, hx]
        exact hown
      clear hown hg hb2 hx2 HAP HNW HOA HSZ HTK hx q1
      go_wp2
      refine ⟨⟨k + 1, _, _, rfl, by simp, by omega, HOW2, HX2, HB2⟩, ?_⟩
      simp only [intOf]
      omega
    · obtain rfl : k = 4 := by omega
      have HST : Hid (StrAt wr (.slice oa 4 oc) D) := by
        refine StrAt.of (B := w.heap.size + 1) ?_
        have := HOW.out
        rw [List.take_of_length_le (by rw [HL.out]; omega)] at this
        rw [HL.out]
        exact this
      clear HOW
      go_wp2
      go_ret
      exact ⟨⟨_, _, _, rfl, HL.out.symm, HST.out⟩, HB.out⟩
set_option maxHeartbeats 4000000 in
theorem rlongs_S {name : ByteArray} (h : (name.toList == [98, 111, 114, 100, 101, 114, 45, 115, 116, 121, 108, 101]) = true) (w : World) : Calls Tryz.prog 32 #[.string name] w fun e w' => (∃ a n c, e = .returned (.slice a n c) ∧ n = (lgs name).length ∧ StrAt w' (.slice a n c) (lgs name)) ∧ Below w.heap.size w w' := by
  rw [lgs_S h]
  have fM := ne_SM h
  have fP := ne_SP h
  have fW := ne_SW h
  obtain ⟨i0, hi, hz0, hz1, hz2⟩ := info_parts info9
  have HI0 := hid_mk hi
  have HZ0 := hid_mk hz0
  have HZ1 := hid_mk hz1
  have HZ2 := hid_mk hz2
  clear hi hz0 hz1 hz2
  have HX0 : ∀ m, Hid (Bx ((w.drewN m).alloc (.cells (sides.map Value.string).toArray 9)) w.heap.size 9 (sides.map Value.string).toArray) := fun m => Bx.new (w.drewN m) _ _
  have HB0 : ∀ m, Hid (Below w.heap.size w ((w.drewN m).alloc (.cells (sides.map Value.string).toArray 9))) := fun m => (Below.trans (Below.refl _ w) ⟨rfl, rfl, rfl, Nat.le_refl _, fun _ _ => rfl⟩ : Below w.heap.size w (w.drewN m)).alloc (Nat.le_refl _) _
  have he : sd (⟨#[98, 111, 114, 100, 101, 114]⟩ ++ ⟨#[45]⟩) ⟨#[45, 115, 116, 121, 108, 101]⟩ = LS := by kernel_rfl
  have HSD : Hid (∀ k s, sides[k]? = some s → (sd (⟨#[98, 111, 114, 100, 101, 114]⟩ ++ ⟨#[45]⟩) ⟨#[45, 115, 116, 121, 108, 101]⟩).take (k + 1) = (sd (⟨#[98, 111, 114, 100, 101, 114]⟩ ++ ⟨#[45]⟩) ⟨#[45, 115, 116, 121, 108, 101]⟩).take k ++ [⟨#[98, 111, 114, 100, 101, 114]⟩ ++ ⟨#[45]⟩ ++ s ++ ⟨#[45, 115, 116, 121, 108, 101]⟩]) := fun k s h => sd_take h
  rw [he] at HSD
  clear he
  have HL : Hid (LS.length = 4) := rfl
  generalize LS = D at *
  have hs : name.size = 12 := by rw [str_of h]; rfl
  have hsl := fun w => sl_six name (by omega) w
  have hex : name.extract 6 name.size = ⟨#[45, 115, 116, 121, 108, 101]⟩ := by rw [str_of h]; kernel_rfl
  rw [hex] at hsl
  clear hex
  obtain ⟨HD, hHD⟩ : ∃ HD : ByteArray, HD = ⟨#[98, 111, 114, 100, 101, 114]⟩ := ⟨_, rfl⟩
  obtain ⟨TL, hTL⟩ : ∃ TL : ByteArray, TL = ⟨#[45, 115, 116, 121, 108, 101]⟩ := ⟨_, rfl⟩
  have hhs : HD.size ≤ 20 := by rw [hHD]; decide
  have hts : TL.size ≤ 20 := by rw [hTL]; decide
  rw [← hTL] at hsl
  rw [← hHD, ← hTL] at HSD
  have HHD := hid_mk hHD
  clear hHD hTL
  go_enter Tryz.func32, Tryz.ntmps32
  go_upto_region 10 with fail
  go_quiet (fail)
  rw [← HHD.out]
  clear HHD hsl
  go_wp2
  go_loopw [3, 24] (fun a3 a24 wr => ∃ (k : Nat) (oa : Option Addr) (oc : Nat), a3 = .slice oa k oc ∧ a24 = .int .i64 (k : Int) ∧ k ≤ 4 ∧ Hid (wr.ownsRow (w.heap.size + 1) 9 1 (.slice oa k oc) k ((D.take k).map Value.string)) ∧ Hid (Bx wr w.heap.size 9 (sides.map Value.string).toArray) ∧ Hid (Below w.heap.size w wr)) (fun _ a24 _ => 5 - (intOf a24).toNat)
  case atStart => exact ⟨0, _, _, rfl, rfl, by omega, World.ownsRow_nil _ _ _ _, HX0 _, HB0 _⟩
  case round =>
    obtain ⟨k, oa, oc, rfl, rfl, hk, HOW, HX, HB⟩ := hrel
    by_cases hlt : k < 4
    · obtain ⟨s, hs, hss⟩ := sides_at k hlt
      have q1 : wr.cell? ⟨w.heap.size, k, none⟩ = some (.string s) := HX.out.cell k _ (by simp [hs])
      have HTK := hid_mk (HSD.out k s hs)
      have has : (HD ++ ⟨#[45]⟩ ++ s).size ≤ 1006 := by
        rw [ByteArray.size_append, ByteArray.size_append]
        have : (⟨#[45]⟩ : ByteArray).size = 1 := rfl
        omega
      have has2 : (HD ++ ⟨#[45]⟩).size ≤ 1000 := by
        rw [ByteArray.size_append]
        have : (⟨#[45]⟩ : ByteArray).size = 1 := rfl
        omega
      obtain ⟨x, hx⟩ : ∃ x, x = HD ++ ⟨#[45]⟩ ++ s ++ TL := ⟨_, rfl⟩
      rw [← hx] at HTK
      have HOA := hid_mk (HOW.out.alloc (.cells #[Value.string x] 9))
      have HSZ : Hid (w.heap.size + 1 ≤ (wr.alloc (.cells #[Value.string x] 9)).heap.size) := by
        have := HX.out.lt
        rw [Hid, World.size_alloc]
        omega
      have HNW := hid_mk (cell_one_new wr (Value.string x) 9)
      have HAP : Hid (∀ v' w2, w2.ownsRow (w.heap.size + 1) 9 1 v' (k + 1) ((D.take k).map Value.string ++ [Value.string x]) → (wr.alloc (.cells #[Value.string x] 9)).grownBy w2 (Value.slice oa k oc).ownBlock → (∃ g cap, v' = .slice (some ⟨g, 0, none⟩) (k + 1) cap) ∧ Bx w2 w.heap.size 9 (sides.map Value.string).toArray ∧ Below w.heap.size w w2) := fun v' w2 h1 h2 => app_on HOW.out HX.out HB.out (Nat.le_refl _) h1 h2
      rw [hx] at HOA HSZ HNW HAP
      clear hs
      go_wp2_with (at_builtin; with_reducible refine wpList_append_own _ rfl _ _ 36 rfl (w.heap.size + 1) 9 i0 (.string ⟨#[]⟩) 1 16 Tryz.underlying36 HI0.out HZ0.out HZ1.out HZ2.out rfl (by decide) (.slice oa k oc) k ((D.take k).map Value.string) rfl HOA.out ⟨wr.heap.size, 0, none⟩ 1 1 [Value.string (HD ++ ⟨#[45]⟩ ++ s ++ TL)] rfl rfl HNW.out ?c0 ?c1 ?c2 ?c3 ?_)
      case c0 => simp [Value.oneCell']
      case c1 => unfold maxLen; omega
      case c2 => omega
      case c3 => exact HSZ.out
      intro v' w2 hown hg _
      rw [← List.map_take] at hown
      obtain ⟨⟨g, cap, rfl⟩, hx2, hb2⟩ := HAP.out v' w2 hown hg
      have HX2 := hid_mk hx2
      have HB2 := hid_mk hb2
      have HOW2 : Hid (w2.ownsRow (w.heap.size + 1) 9 1 (.slice (some ⟨g, 0, none⟩) (k + 1) cap) (k + 1) ((D.take (k + 1)).map Value.string)) := by
        rw [Hid, HTK.out, List.map_append, hx]
        exact hown
      clear hown hg hb2 hx2 HAP HNW HOA HSZ HTK hx q1
      go_wp2
      refine ⟨⟨k + 1, _, _, rfl, by simp, by omega, HOW2, HX2, HB2⟩, ?_⟩
      simp only [intOf]
      omega
    · obtain rfl : k = 4 := by omega
      have HST : Hid (StrAt wr (.slice oa 4 oc) D) := by
        refine StrAt.of (B := w.heap.size + 1) ?_
        have := HOW.out
        rw [List.take_of_length_le (by rw [HL.out]; omega)] at this
        rw [HL.out]
        exact this
      clear HOW
      go_wp2
      go_ret
      exact ⟨⟨_, _, _, rfl, HL.out.symm, HST.out⟩, HB.out⟩
set_option maxHeartbeats 4000000 in
theorem rlongs_C {name : ByteArray} (h : (name.toList == [98, 111, 114, 100, 101, 114, 45, 99, 111, 108, 111, 114]) = true) (w : World) : Calls Tryz.prog 32 #[.string name] w fun e w' => (∃ a n c, e = .returned (.slice a n c) ∧ n = (lgs name).length ∧ StrAt w' (.slice a n c) (lgs name)) ∧ Below w.heap.size w w' := by
  rw [lgs_C h]
  have fM := ne_CM h
  have fP := ne_CP h
  have fW := ne_CW h
  have fS := ne_CS h
  obtain ⟨i0, hi, hz0, hz1, hz2⟩ := info_parts info9
  have HI0 := hid_mk hi
  have HZ0 := hid_mk hz0
  have HZ1 := hid_mk hz1
  have HZ2 := hid_mk hz2
  clear hi hz0 hz1 hz2
  have HX0 : ∀ m, Hid (Bx ((w.drewN m).alloc (.cells (sides.map Value.string).toArray 9)) w.heap.size 9 (sides.map Value.string).toArray) := fun m => Bx.new (w.drewN m) _ _
  have HB0 : ∀ m, Hid (Below w.heap.size w ((w.drewN m).alloc (.cells (sides.map Value.string).toArray 9))) := fun m => (Below.trans (Below.refl _ w) ⟨rfl, rfl, rfl, Nat.le_refl _, fun _ _ => rfl⟩ : Below w.heap.size w (w.drewN m)).alloc (Nat.le_refl _) _
  have he : sd (⟨#[98, 111, 114, 100, 101, 114]⟩ ++ ⟨#[45]⟩) ⟨#[45, 99, 111, 108, 111, 114]⟩ = LC := by kernel_rfl
  have HSD : Hid (∀ k s, sides[k]? = some s → (sd (⟨#[98, 111, 114, 100, 101, 114]⟩ ++ ⟨#[45]⟩) ⟨#[45, 99, 111, 108, 111, 114]⟩).take (k + 1) = (sd (⟨#[98, 111, 114, 100, 101, 114]⟩ ++ ⟨#[45]⟩) ⟨#[45, 99, 111, 108, 111, 114]⟩).take k ++ [⟨#[98, 111, 114, 100, 101, 114]⟩ ++ ⟨#[45]⟩ ++ s ++ ⟨#[45, 99, 111, 108, 111, 114]⟩]) := fun k s h => sd_take h
  rw [he] at HSD
  clear he
  have HL : Hid (LC.length = 4) := rfl
  generalize LC = D at *
  have hs : name.size = 12 := by rw [str_of h]; rfl
  have hsl := fun w => sl_six name (by omega) w
  have hex : name.extract 6 name.size = ⟨#[45, 99, 111, 108, 111, 114]⟩ := by rw [str_of h]; kernel_rfl
  rw [hex] at hsl
  clear hex
  obtain ⟨HD, hHD⟩ : ∃ HD : ByteArray, HD = ⟨#[98, 111, 114, 100, 101, 114]⟩ := ⟨_, rfl⟩
  obtain ⟨TL, hTL⟩ : ∃ TL : ByteArray, TL = ⟨#[45, 99, 111, 108, 111, 114]⟩ := ⟨_, rfl⟩
  have hhs : HD.size ≤ 20 := by rw [hHD]; decide
  have hts : TL.size ≤ 20 := by rw [hTL]; decide
  rw [← hTL] at hsl
  rw [← hHD, ← hTL] at HSD
  have HHD := hid_mk hHD
  clear hHD hTL
  go_enter Tryz.func32, Tryz.ntmps32
  go_upto_region 10 with fail
  go_quiet (fail)
  rw [← HHD.out]
  clear HHD hsl
  go_wp2
  go_loopw [3, 24] (fun a3 a24 wr => ∃ (k : Nat) (oa : Option Addr) (oc : Nat), a3 = .slice oa k oc ∧ a24 = .int .i64 (k : Int) ∧ k ≤ 4 ∧ Hid (wr.ownsRow (w.heap.size + 1) 9 1 (.slice oa k oc) k ((D.take k).map Value.string)) ∧ Hid (Bx wr w.heap.size 9 (sides.map Value.string).toArray) ∧ Hid (Below w.heap.size w wr)) (fun _ a24 _ => 5 - (intOf a24).toNat)
  case atStart => exact ⟨0, _, _, rfl, rfl, by omega, World.ownsRow_nil _ _ _ _, HX0 _, HB0 _⟩
  case round =>
    obtain ⟨k, oa, oc, rfl, rfl, hk, HOW, HX, HB⟩ := hrel
    by_cases hlt : k < 4
    · obtain ⟨s, hs, hss⟩ := sides_at k hlt
      have q1 : wr.cell? ⟨w.heap.size, k, none⟩ = some (.string s) := HX.out.cell k _ (by simp [hs])
      have HTK := hid_mk (HSD.out k s hs)
      have has : (HD ++ ⟨#[45]⟩ ++ s).size ≤ 1006 := by
        rw [ByteArray.size_append, ByteArray.size_append]
        have : (⟨#[45]⟩ : ByteArray).size = 1 := rfl
        omega
      have has2 : (HD ++ ⟨#[45]⟩).size ≤ 1000 := by
        rw [ByteArray.size_append]
        have : (⟨#[45]⟩ : ByteArray).size = 1 := rfl
        omega
      obtain ⟨x, hx⟩ : ∃ x, x = HD ++ ⟨#[45]⟩ ++ s ++ TL := ⟨_, rfl⟩
      rw [← hx] at HTK
      have HOA := hid_mk (HOW.out.alloc (.cells #[Value.string x] 9))
      have HSZ : Hid (w.heap.size + 1 ≤ (wr.alloc (.cells #[Value.string x] 9)).heap.size) := by
        have := HX.out.lt
        rw [Hid, World.size_alloc]
        omega
      have HNW := hid_mk (cell_one_new wr (Value.string x) 9)
      have HAP : Hid (∀ v' w2, w2.ownsRow (w.heap.size + 1) 9 1 v' (k + 1) ((D.take k).map Value.string ++ [Value.string x]) → (wr.alloc (.cells #[Value.string x] 9)).grownBy w2 (Value.slice oa k oc).ownBlock → (∃ g cap, v' = .slice (some ⟨g, 0, none⟩) (k + 1) cap) ∧ Bx w2 w.heap.size 9 (sides.map Value.string).toArray ∧ Below w.heap.size w w2) := fun v' w2 h1 h2 => app_on HOW.out HX.out HB.out (Nat.le_refl _) h1 h2
      rw [hx] at HOA HSZ HNW HAP
      clear hs
      go_wp2_with (at_builtin; with_reducible refine wpList_append_own _ rfl _ _ 36 rfl (w.heap.size + 1) 9 i0 (.string ⟨#[]⟩) 1 16 Tryz.underlying36 HI0.out HZ0.out HZ1.out HZ2.out rfl (by decide) (.slice oa k oc) k ((D.take k).map Value.string) rfl HOA.out ⟨wr.heap.size, 0, none⟩ 1 1 [Value.string (HD ++ ⟨#[45]⟩ ++ s ++ TL)] rfl rfl HNW.out ?c0 ?c1 ?c2 ?c3 ?_)
      case c0 => simp [Value.oneCell']
      case c1 => unfold maxLen; omega
      case c2 => omega
      case c3 => exact HSZ.out
      intro v' w2 hown hg _
      rw [← List.map_take] at hown
      obtain ⟨⟨g, cap, rfl⟩, hx2, hb2⟩ := HAP.out v' w2 hown hg
      have HX2 := hid_mk hx2
      have HB2 := hid_mk hb2
      have HOW2 : Hid (w2.ownsRow (w.heap.size + 1) 9 1 (.slice (some ⟨g, 0, none⟩) (k + 1) cap) (k + 1) ((D.take (k + 1)).map Value.string)) := by
        rw [Hid, HTK.out, List.map_append, hx]
        exact hown
      clear hown hg hb2 hx2 HAP HNW HOA HSZ HTK hx q1
      go_wp2
      refine ⟨⟨k + 1, _, _, rfl, by simp, by omega, HOW2, HX2, HB2⟩, ?_⟩
      simp only [intOf]
      omega
    · obtain rfl : k = 4 := by omega
      have HST : Hid (StrAt wr (.slice oa 4 oc) D) := by
        refine StrAt.of (B := w.heap.size + 1) ?_
        have := HOW.out
        rw [List.take_of_length_le (by rw [HL.out]; omega)] at this
        rw [HL.out]
        exact this
      clear HOW
      go_wp2
      go_ret
      exact ⟨⟨_, _, _, rfl, HL.out.symm, HST.out⟩, HB.out⟩
set_option maxHeartbeats 4000000 in
theorem rlongs_O {name : ByteArray} (h : (name.toList == [111, 118, 101, 114, 102, 108, 111, 119]) = true) (w : World) : Calls Tryz.prog 32 #[.string name] w fun e w' => (∃ a n c, e = .returned (.slice a n c) ∧ n = (lgs name).length ∧ StrAt w' (.slice a n c) (lgs name)) ∧ Below w.heap.size w w' := by
  rw [lgs_O h]
  have fM := ne_OM h
  have fP := ne_OP h
  have fW := ne_OW h
  have fS := ne_OS h
  have fC := ne_OC h
  have hS := StrAt.lit w LO (by decide)
  have hB : Below w.heap.size w (w.alloc (.cells (LO.map Value.string).toArray 9)) := (Below.refl _ w).alloc (Nat.le_refl _) _
  go_enter Tryz.func32, Tryz.ntmps32
  go_wp2
  go_ret
  exact ⟨⟨_, _, _, rfl, rfl, hS⟩, hB⟩
set_option maxHeartbeats 2000000 in
theorem rlongs_none {name : ByteArray} (hM : (name.toList == [109, 97, 114, 103, 105, 110]) = false) (hP : (name.toList == [112, 97, 100, 100, 105, 110, 103]) = false) (hW : (name.toList == [98, 111, 114, 100, 101, 114, 45, 119, 105, 100, 116, 104]) = false) (hS : (name.toList == [98, 111, 114, 100, 101, 114, 45, 115, 116, 121, 108, 101]) = false) (hC : (name.toList == [98, 111, 114, 100, 101, 114, 45, 99, 111, 108, 111, 114]) = false) (hO : (name.toList == [111, 118, 101, 114, 102, 108, 111, 119]) = false) (w : World) : Calls Tryz.prog 32 #[.string name] w fun e w' => (∃ a n c, e = .returned (.slice a n c) ∧ n = (lgs name).length ∧ StrAt w' (.slice a n c) (lgs name)) ∧ Below w.heap.size w w' := by
  rw [lgs_none hM hP hW hS hC hO]
  go_enter Tryz.func32, Tryz.ntmps32
  go_wp2
  go_ret
  exact ⟨⟨_, _, _, rfl, rfl, StrAt.nil _⟩, Below.refl _ _⟩
theorem rlongs_any (name : ByteArray) (w : World) : Calls Tryz.prog 32 #[.string name] w fun e w' => (∃ a n c, e = .returned (.slice a n c) ∧ n = (lgs name).length ∧ StrAt w' (.slice a n c) (lgs name)) ∧ Below w.heap.size w w' := by
  cases hM : (name.toList == [109, 97, 114, 103, 105, 110]) with
  | true => exact rlongs_M hM w
  | false =>
    cases hP : (name.toList == [112, 97, 100, 100, 105, 110, 103]) with
    | true => exact rlongs_P hP w
    | false =>
      cases hW : (name.toList == [98, 111, 114, 100, 101, 114, 45, 119, 105, 100, 116, 104]) with
      | true => exact rlongs_W hW w
      | false =>
        cases hS : (name.toList == [98, 111, 114, 100, 101, 114, 45, 115, 116, 121, 108, 101]) with
        | true => exact rlongs_S hS w
        | false =>
          cases hC : (name.toList == [98, 111, 114, 100, 101, 114, 45, 99, 111, 108, 111, 114]) with
          | true => exact rlongs_C hC w
          | false =>
            cases hO : (name.toList == [111, 118, 101, 114, 102, 108, 111, 119]) with
            | true => exact rlongs_O hO w
            | false =>
              exact rlongs_none hM hP hW hS hC hO w
end Go.Proofs.YtlhdapckenjigaaGreatDoor.P
