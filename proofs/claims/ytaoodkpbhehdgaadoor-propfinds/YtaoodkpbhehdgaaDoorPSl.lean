/- strings.Split and strings.TrimPrefix, by the shelf; prop.Forms. -/
import Derived.Test.YtaoodkpbhehdgaaDoorPFi
import Derived.Shelf.Lay
import Derived.Shelf.Strings.SplitShaped
import Derived.Shelf.Strings.Prefix
import Derived.WideShapes
namespace Go.Proofs.YtaoodkpbhehdgaaDoor
open Go.RowKit
set_option maxRecDepth 100000

shelf_lay LaysM.n146 Nm 146 at Tryd as laysSp
shelf_lay Lays.n101 Nm 101 at Tryd as laysTp

/-- A letter ahead of the first. -/
def hdC (b : UInt8) : List (List UInt8) → List (List UInt8)
  | [] => [[b]]
  | h :: t => (b :: h) :: t
/-- A text's parts. -/
def cut : List UInt8 → List (List UInt8)
  | [] => [[]]
  | b :: r => if b = 124 then [] :: cut r else hdC b (cut r)
def hdA (c : List UInt8) : List (List UInt8) → List (List UInt8)
  | [] => [c]
  | h :: t => (c ++ h) :: t
/-- As the document goes. -/
def rF : List UInt8 → List UInt8 → List (List UInt8)
  | [], c => [c]
  | b :: r, c => if b = 124 then c :: rF r [] else rF r (c ++ [b])
theorem cut_ne (l : List UInt8) : cut l ≠ [] := by
  cases l with
  | nil => simp [cut]
  | cons b r =>
    unfold cut
    split
    · simp
    · cases cut r <;> simp [hdC]
theorem rF_eq : ∀ (l c : List UInt8), rF l c = hdA c (cut l)
  | [], c => by simp [rF, cut, hdA]
  | b :: r, c => by
    unfold rF cut
    split
    · rw [rF_eq r []]
      cases h : cut r with
      | nil => exact absurd h (cut_ne r)
      | cons x t => simp [hdA]
    · rw [rF_eq r]
      cases h : cut r with
      | nil => exact absurd h (cut_ne r)
      | cons x t => simp [hdA, hdC]
theorem rF_cut (l : List UInt8) : rF l [] = cut l := by
  rw [rF_eq]
  cases h : cut l with
  | nil => exact absurd h (cut_ne l)
  | cons x t => rfl
theorem split_cut : ∀ l : List UInt8, Lib.split l [124] = cut l
  | [] => by
    unfold Lib.split
    rw [Lib.count_miss (by simp [Lib.index])]
    rfl
  | b :: r => by
    have ih := split_cut r
    unfold Lib.split at ih ⊢
    unfold cut
    by_cases h : b = 124
    · subst h
      rw [if_pos rfl, Lib.count_cons_eq, Nat.add_comm, ← ih]
      have hix : Lib.index (124 :: r) [124] = 0 := by rw [Lib.index]; simp [List.isPrefixOf]
      show (if (Lib.index (124 :: r) [124] == -1) = true then _ else _) = _
      rw [hix]
      rfl
    · rw [if_neg h, Lib.count_cons_ne b 124 r h, ← ih]
      have hp : ([124] : List UInt8).isPrefixOf (b :: r) = false := by simp [List.isPrefixOf, Ne.symm h]
      have hix : Lib.index (b :: r) [124] = if Lib.index r [124] == -1 then -1 else Lib.index r [124] + 1 := by rw [Lib.index, hp]; simp
      by_cases hm : Lib.index r [124] = -1
      · rw [Lib.count_miss hm]
        rfl
      · have hge := Lib.index_ge r [124]
        obtain ⟨j, hj⟩ : ∃ j : Nat, Lib.index r [124] = j := ⟨(Lib.index r [124]).toNat, by omega⟩
        have hix2 : Lib.index (b :: r) [124] = ((j + 1 : Nat) : Int) := by rw [hix, if_neg (fun e => hm (beq_iff_eq.1 e)), hj]; omega
        rw [Lib.count_hit (by simp) hj, Nat.add_comm 1]
        generalize Lib.count (r.drop (j + ([124] : List UInt8).length)) [124] = k
        show (if (Lib.index (b :: r) [124] == -1) = true then _ else _) = hdC b (if (Lib.index r [124] == -1) = true then _ else _)
        rw [if_neg (fun e => by have := beq_iff_eq.1 e; omega), if_neg (fun e => hm (beq_iff_eq.1 e)), hix2, hj]
        simp [hdC]
def prts (f : ByteArray) : List ByteArray := (cut f.data.toList).map fun l => ⟨l.toArray⟩
theorem of_data {L : List ByteArray} {X : List (List UInt8)} (h : L.map (·.data.toList) = X) : L = X.map fun l => ⟨l.toArray⟩ := by
  subst h
  rw [List.map_map]
  conv => lhs; rw [← List.map_id L]
  apply List.map_congr_left
  intro x _
  rfl
theorem splitB_prts (f : ByteArray) : Lib.splitB ⟨#[124]⟩ 0 (Lib.countB f ⟨#[124]⟩) f = prts f := by
  refine of_data ?_
  rw [Lib.splitB_data]
  exact split_cut f.data.toList
/-- internal/bytealg.MaxLen holds some number. -/
def MC (w : World) : Prop := ∃ m, w.cell? ⟨laysSp_ren.g 1, 0, none⟩ = some (.int .i64 m)
theorem MC.of {w : World} (h : w.ShapedOpen Tryd.prog) : MC w := laysSp.s1_3 w h
theorem MC.keep {w w' : World} (h : MC w) (hb : Below w.heap.size w w') : MC w' := by
  obtain ⟨m, hm⟩ := h
  exact ⟨m, (hb.cell (p := ⟨laysSp_ren.g 1, 0, none⟩) (lt_of_cell hm)).trans hm⟩
theorem cut_len (l : List UInt8) : (cut l).length ≤ l.length + 1 := by
  induction l with
  | nil => simp [cut]
  | cons b r ih =>
    unfold cut
    split
    · simp; omega
    · cases h : cut r with
      | nil => simp [hdC]
      | cons x t => rw [h] at ih; simp [hdC] at ih ⊢; omega
theorem prts_len (f : ByteArray) : (prts f).length ≤ f.size + 1 := by
  have := cut_len f.data.toList
  unfold prts
  rw [List.length_map]
  rw [Lib.size_eq]
  exact this
theorem split_any (f : ByteArray) (w : World) (hm : MC w) (hf : f.size ≤ 1000) : Calls Tryd.prog 23 #[.string f, .string ⟨#[124]⟩] w fun e w' => (∃ a c, e = .returned (.slice a (prts f).length c) ∧ StrAt w' (.slice a (prts f).length c) (prts f)) ∧ Below w.heap.size w w' := by
  obtain ⟨m, hm⟩ := hm
  refine (Any.strings_Split (P := Tryd.prog) { laysSp with } laysSp.i9 f ⟨#[124]⟩ m w (by omega) hm (by decide)).mono ?_
  rintro e w' ⟨rfl, rfl⟩
  have hl := Lib.splitB_all ⟨#[124]⟩ (by decide) 0 _ f rfl
  rw [splitB_prts] at hl ⊢
  rw [← hl]
  exact ⟨⟨_, _, rfl, StrAt.lit w (prts f) (by have := prts_len f; omega)⟩, (Below.refl _ w).alloc (Nat.le_refl _) _⟩
theorem trim_any (s p : ByteArray) (w : World) : Calls Tryd.prog 22 #[.string s, .string p] w fun e w' => e = .returned (.string ⟨(Lib.trimPrefix s.data.toList p.data.toList).toArray⟩) ∧ w' = w := Any.strings_TrimPrefix laysTp s p w
set_option maxHeartbeats 2000000 in
/-- prop.Forms. -/
theorem forms_any (p : Pr) (w : World) (hm : MC w) (hf : p.f.size ≤ 1000) : Calls Tryd.prog 14 #[.agg (c4 p)] w fun e w' => (∃ a c, e = .returned (.slice a (prts p.f).length c) ∧ StrAt w' (.slice a (prts p.f).length c) (prts p.f)) ∧ Below w.heap.size w w' := by
  obtain ⟨pn, pi, ph, pf⟩ := p
  have hB : Below w.heap.size w (w.alloc (.cells #[.string pn, .string pi, .bool ph, .string pf] 24)) := (Below.refl _ w).alloc (Nat.le_refl _) _
  have hs := split_any pf _ (hm.keep hB) hf
  dsimp only at hs ⊢
  generalize (prts pf).length = n at *
  generalize prts pf = L at *
  go_enter Tryd.func14, Tryd.ntmps14
  go_wp2_with (go_at_call 23; fail)
  refine hs.mono ?_
  rintro e w2 ⟨⟨a, c, rfl, hS⟩, hb⟩
  have hB2 := hB.trans (hb.mono hB.size)
  clear hs hb hB hm
  go_wp2
  go_ret
  exact ⟨⟨_, _, rfl, hS⟩, hB2⟩
end Go.Proofs.YtaoodkpbhehdgaaDoor
