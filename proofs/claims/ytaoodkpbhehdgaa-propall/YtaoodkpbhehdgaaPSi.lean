/- The longhands of a shorthand. -/
import Derived.Test.YtaoodkpbhehdgaaPLn
namespace Go.Proofs.Ytaoodkpbhehdgaa
open Go.RowKit
set_option maxRecDepth 100000

def sides : List ByteArray := [⟨#[116, 111, 112]⟩, ⟨#[114, 105, 103, 104, 116]⟩, ⟨#[98, 111, 116, 116, 111, 109]⟩, ⟨#[108, 101, 102, 116]⟩]
def sd (a b : ByteArray) : List ByteArray := sides.map fun s => a ++ s ++ b
def nM : List UInt8 := [109, 97, 114, 103, 105, 110]
def LM : List ByteArray := [⟨#[109, 97, 114, 103, 105, 110, 45, 116, 111, 112]⟩, ⟨#[109, 97, 114, 103, 105, 110, 45, 114, 105, 103, 104, 116]⟩, ⟨#[109, 97, 114, 103, 105, 110, 45, 98, 111, 116, 116, 111, 109]⟩, ⟨#[109, 97, 114, 103, 105, 110, 45, 108, 101, 102, 116]⟩]
def nP : List UInt8 := [112, 97, 100, 100, 105, 110, 103]
def LP : List ByteArray := [⟨#[112, 97, 100, 100, 105, 110, 103, 45, 116, 111, 112]⟩, ⟨#[112, 97, 100, 100, 105, 110, 103, 45, 114, 105, 103, 104, 116]⟩, ⟨#[112, 97, 100, 100, 105, 110, 103, 45, 98, 111, 116, 116, 111, 109]⟩, ⟨#[112, 97, 100, 100, 105, 110, 103, 45, 108, 101, 102, 116]⟩]
def nW : List UInt8 := [98, 111, 114, 100, 101, 114, 45, 119, 105, 100, 116, 104]
def LW : List ByteArray := [⟨#[98, 111, 114, 100, 101, 114, 45, 116, 111, 112, 45, 119, 105, 100, 116, 104]⟩, ⟨#[98, 111, 114, 100, 101, 114, 45, 114, 105, 103, 104, 116, 45, 119, 105, 100, 116, 104]⟩, ⟨#[98, 111, 114, 100, 101, 114, 45, 98, 111, 116, 116, 111, 109, 45, 119, 105, 100, 116, 104]⟩, ⟨#[98, 111, 114, 100, 101, 114, 45, 108, 101, 102, 116, 45, 119, 105, 100, 116, 104]⟩]
def nS : List UInt8 := [98, 111, 114, 100, 101, 114, 45, 115, 116, 121, 108, 101]
def LS : List ByteArray := [⟨#[98, 111, 114, 100, 101, 114, 45, 116, 111, 112, 45, 115, 116, 121, 108, 101]⟩, ⟨#[98, 111, 114, 100, 101, 114, 45, 114, 105, 103, 104, 116, 45, 115, 116, 121, 108, 101]⟩, ⟨#[98, 111, 114, 100, 101, 114, 45, 98, 111, 116, 116, 111, 109, 45, 115, 116, 121, 108, 101]⟩, ⟨#[98, 111, 114, 100, 101, 114, 45, 108, 101, 102, 116, 45, 115, 116, 121, 108, 101]⟩]
def nC : List UInt8 := [98, 111, 114, 100, 101, 114, 45, 99, 111, 108, 111, 114]
def LC : List ByteArray := [⟨#[98, 111, 114, 100, 101, 114, 45, 116, 111, 112, 45, 99, 111, 108, 111, 114]⟩, ⟨#[98, 111, 114, 100, 101, 114, 45, 114, 105, 103, 104, 116, 45, 99, 111, 108, 111, 114]⟩, ⟨#[98, 111, 114, 100, 101, 114, 45, 98, 111, 116, 116, 111, 109, 45, 99, 111, 108, 111, 114]⟩, ⟨#[98, 111, 114, 100, 101, 114, 45, 108, 101, 102, 116, 45, 99, 111, 108, 111, 114]⟩]
def nO : List UInt8 := [111, 118, 101, 114, 102, 108, 111, 119]
def LO : List ByteArray := [⟨#[111, 118, 101, 114, 102, 108, 111, 119, 45, 120]⟩, ⟨#[111, 118, 101, 114, 102, 108, 111, 119, 45, 121]⟩]
/-- The longhands, plainly. -/
def lgs (name : ByteArray) : List ByteArray :=
  if name.toList == nM then LM else if name.toList == nP then LP else if name.toList == nW then LW else if name.toList == nS then LS else if name.toList == nC then LC else if name.toList == nO then LO else []
def shs : List ByteArray := [⟨#[98, 111, 114, 100, 101, 114, 45, 99, 111, 108, 111, 114]⟩, ⟨#[98, 111, 114, 100, 101, 114, 45, 115, 116, 121, 108, 101]⟩, ⟨#[98, 111, 114, 100, 101, 114, 45, 119, 105, 100, 116, 104]⟩, ⟨#[109, 97, 114, 103, 105, 110]⟩, ⟨#[111, 118, 101, 114, 102, 108, 111, 119]⟩, ⟨#[112, 97, 100, 100, 105, 110, 103]⟩]

theorem app_on2 {wr w2 w : World} {b : Nat} {o : Obj} {v v' : Value} {n m : Nat} {xs ys : List Value} (how : wr.ownsRow b 9 1 v n xs) (hb : Below b w wr) (hw : b ≤ w.heap.size)
    (hown : w2.ownsRow b 9 1 v' (m + 1) ys) (hg : (wr.alloc o).grownBy w2 v.ownBlock) : (∃ g cap, v' = .slice (some ⟨g, 0, none⟩) (m + 1) cap) ∧ Below b w w2 := by
  have hlow : ∀ k, v.ownBlock = some k → b ≤ k := fun k e => (World.ownsRow.lt how k e).1
  have h1 : Below b w (wr.alloc o) := hb.alloc (Nat.le_trans hw hb.size) o
  exact ⟨ownsRow_succ hown, h1.grown hg (Nat.le_trans hw h1.size) (fun k e => hlow k e)⟩
theorem ix52_all (w : World) : (List.range 4).map (fun k : Nat => (Instr.index 43 (.agg #[.string ⟨#[116, 111, 112]⟩, .string ⟨#[114, 105, 103, 104, 116]⟩, .string ⟨#[98, 111, 116, 116, 111, 109]⟩, .string ⟨#[108, 101, 102, 116]⟩]) (.int .i64 (k : Int))).run Try.prog w) = sides.map fun s => .ok (.string s) w := by kernel_rfl
theorem ix52_at (w : World) (k : Nat) (s : ByteArray) (h : sides[k]? = some s) : (Instr.index 43 (.agg #[.string ⟨#[116, 111, 112]⟩, .string ⟨#[114, 105, 103, 104, 116]⟩, .string ⟨#[98, 111, 116, 116, 111, 109]⟩, .string ⟨#[108, 101, 102, 116]⟩]) (.int .i64 (k : Int))).run Try.prog w = .ok (.string s) w := by
  have hk : k < 4 := (List.getElem?_eq_some_iff.1 h).1
  have := congrArg (fun l => l[k]?) (ix52_all w)
  simp only [List.getElem?_map, h, Option.map_some] at this
  rw [List.getElem?_range hk] at this
  simpa using this
theorem sides_small : ∀ s ∈ sides, s.size ≤ 6 := by decide
theorem sides_at (k : Nat) (hk : k < 4) : ∃ s, sides[k]? = some s ∧ s.size ≤ 6 := by
  obtain ⟨s, hs⟩ : ∃ s, sides[k]? = some s := ⟨_, List.getElem?_eq_getElem (show k < sides.length from hk)⟩
  exact ⟨s, hs, sides_small s (List.mem_of_getElem? hs)⟩
theorem sd_take {a b s : ByteArray} {k : Nat} (h : sides[k]? = some s) : (sd a b).take (k + 1) = (sd a b).take k ++ [a ++ s ++ b] := by
  have : (sd a b)[k]? = some (a ++ s ++ b) := by
    unfold sd
    rw [List.getElem?_map, h]
    rfl
  rw [List.take_add_one, this]
  rfl
set_option maxHeartbeats 2000000 in
/-- prop.sided. -/
theorem sided_any (a b : ByteArray) (w : World) (ha : a.size ≤ 1000) (hb : b.size ≤ 1000) : Calls Try.prog 12 #[.string a, .string b] w fun e w' => (∃ ad c, e = .returned (.slice ad 4 c) ∧ StrAt w' (.slice ad 4 c) (sd a b)) ∧ Below w.heap.size w w' := by
  obtain ⟨i0, hi, hz0, hz1, hz2⟩ := info_parts info9
  have HI0 := hid_mk hi
  have HZ0 := hid_mk hz0
  have HZ1 := hid_mk hz1
  have HZ2 := hid_mk hz2
  clear hi hz0 hz1 hz2
  have HIX := hid_mk ix52_at
  have HSD : Hid (∀ k s, sides[k]? = some s → (sd a b).take (k + 1) = (sd a b).take k ++ [a ++ s ++ b]) := fun k s h => sd_take h
  have HSL : Hid ((sd a b).length = 4) := rfl
  generalize sd a b = D at *
  go_enter Try.func12, Try.ntmps12
  go_wp2
  go_loopw [5, 9] (fun a5 a9 wr => ∃ (k : Nat) (oa : Option Addr) (oc : Nat), a5 = .slice oa k oc ∧ a9 = .int .i64 (k : Int) ∧ k ≤ 4 ∧ Hid (wr.ownsRow w.heap.size 9 1 (.slice oa k oc) k ((D.take k).map Value.string)) ∧ Hid (Below w.heap.size w wr)) (fun _ a9 _ => 5 - (intOf a9).toNat)
  case atStart => exact ⟨0, _, _, rfl, rfl, by omega, World.ownsRow_nil _ _ _ _, hid_mk (Below.refl _ _)⟩
  case round =>
    obtain ⟨k, oa, oc, rfl, rfl, hk, HOW, HB⟩ := hrel
    by_cases hlt : k < 4
    · obtain ⟨s, hs, hss⟩ := sides_at k hlt
      have hix := fun w => HIX.out w k s hs
      have HTK := hid_mk (HSD.out k s hs)
      have has : (a ++ s).size ≤ 1006 := by rw [ByteArray.size_append]; omega
      obtain ⟨x, hx⟩ : ∃ x, x = a ++ s ++ b := ⟨_, rfl⟩
      rw [← hx] at HTK
      have HOA := hid_mk (HOW.out.alloc (.cells #[Value.string x] 9))
      have HSZ : Hid (w.heap.size ≤ (wr.alloc (.cells #[Value.string x] 9)).heap.size) := by
        have := HB.out.size
        rw [Hid, World.size_alloc]
        omega
      have HNW := hid_mk (cell_one_new wr (Value.string x) 9)
      have HAP : Hid (∀ v' w2, w2.ownsRow w.heap.size 9 1 v' (k + 1) ((D.take k).map Value.string ++ [Value.string x]) → (wr.alloc (.cells #[Value.string x] 9)).grownBy w2 (Value.slice oa k oc).ownBlock → (∃ g cap, v' = .slice (some ⟨g, 0, none⟩) (k + 1) cap) ∧ Below w.heap.size w w2) := fun v' w2 h1 h2 => app_on2 HOW.out HB.out (Nat.le_refl _) h1 h2
      rw [hx] at HOA HSZ HNW HAP
      clear hs
      go_wp2_with (at_builtin; with_reducible refine wpList_append_own _ rfl _ _ 25 rfl w.heap.size 9 i0 (.string ⟨#[]⟩) 1 16 Try.underlying25 HI0.out HZ0.out HZ1.out HZ2.out rfl (by decide) (.slice oa k oc) k ((D.take k).map Value.string) rfl HOA.out ⟨wr.heap.size, 0, none⟩ 1 1 [Value.string (a ++ s ++ b)] rfl rfl HNW.out ?c0 ?c1 ?c2 ?c3 ?_)
      case c0 => simp [Value.oneCell']
      case c1 => unfold maxLen; omega
      case c2 => omega
      case c3 => exact HSZ.out
      intro v' w2 hown hg _
      rw [← List.map_take] at hown
      obtain ⟨⟨g, cap, rfl⟩, hb2⟩ := HAP.out v' w2 hown hg
      have HB2 := hid_mk hb2
      have HOW2 : Hid (w2.ownsRow w.heap.size 9 1 (.slice (some ⟨g, 0, none⟩) (k + 1) cap) (k + 1) ((D.take (k + 1)).map Value.string)) := by
        rw [Hid, HTK.out, List.map_append, hx]
        exact hown
      clear hown hg hb2 HAP HNW HOA HSZ HTK hix hx
      go_wp2
      refine ⟨⟨k + 1, _, _, rfl, by simp, by omega, HOW2, HB2⟩, ?_⟩
      simp only [intOf]
      omega
    · obtain rfl : k = 4 := by omega
      have HST : Hid (StrAt wr (.slice oa 4 oc) D) := by
        refine StrAt.of (B := w.heap.size) ?_
        have := HOW.out
        rw [List.take_of_length_le (by rw [HSL.out]; omega)] at this
        rw [HSL.out]
        exact this
      clear HOW
      go_wp2
      go_ret
      exact ⟨⟨_, _, rfl, HST.out⟩, HB.out⟩
theorem shorts_any (w : World) : Calls Try.prog 5 #[] w fun e w' => (∃ a c, e = .returned (.slice a 6 c) ∧ StrAt w' (.slice a 6 c) shs) ∧ Below w.heap.size w w' := by
  have hS := StrAt.lit w shs (by decide)
  have hB : Below w.heap.size w (w.alloc (.cells (shs.map Value.string).toArray 9)) := (Below.refl _ w).alloc (Nat.le_refl _) _
  go_enter Try.func5, Try.ntmps5
  go_wp2
  go_ret
  exact ⟨⟨_, _, rfl, hS⟩, hB⟩
end Go.Proofs.Ytaoodkpbhehdgaa
