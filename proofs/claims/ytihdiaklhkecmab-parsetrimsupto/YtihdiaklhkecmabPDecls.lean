/- gouacheref03.Trim of any values; gouacheref03.Same of any two. gouacheref03.decl of any values. gouacheref03.Decls of any values. gouachelaw03.ParseDecls: the walk. -/
import Derived.Test.YtihdiaklhkecmabRRules
import Derived.Deep.CutBlock
import Derived.Deep.DeepCutAuto
namespace Go.Proofs.Ytihdiaklhkecmab
open Go.RowKit
set_option maxRecDepth 100000

theorem space_eq (x : V) : spaceV x = (x.tok.k == 13) := by
  unfold spaceV hasZ
  simp
  rfl
end Go.Proofs.Ytihdiaklhkecmab
namespace Go.Proofs.Ytihdiaklhkecmab
open Go.RowKit
set_option maxRecDepth 100000

theorem ahead_cons {y : V} (hy : spaceV y = false) (r : List V) : aheadZ (y :: r) = y :: aheadZ r := by
  unfold aheadZ
  rw [List.reverse_cons, List.dropWhile_append]
  cases h : r.reverse.dropWhile spaceV with
  | nil => simp [hy]
  | cons a t => simp
theorem ahead_space {y : V} (hy : spaceV y = true) (r : List V) : aheadZ (y :: r) = if (aheadZ r).isEmpty then [] else y :: aheadZ r := by
  unfold aheadZ
  rw [List.reverse_cons, List.dropWhile_append]
  cases h : r.reverse.dropWhile spaceV with
  | nil => simp [hy]
  | cons a t => simp
theorem ahead_twice (r : List V) : aheadZ (aheadZ r) = aheadZ r := ahead_id (ahead_last r)
theorem trim_ahead (r : List V) : trimZ (aheadZ r) = trimZ r := by
  induction r with
  | nil => rfl
  | cons y t ih =>
    cases hy : spaceV y with
    | false =>
      have e : (y :: t).dropWhile spaceV = y :: t := by rw [List.dropWhile_cons, hy]; rfl
      unfold trimZ
      rw [e, ahead_cons hy, List.dropWhile_cons, hy]
      show aheadZ (y :: aheadZ t) = y :: aheadZ t
      rw [ahead_cons hy, ahead_twice]
    | true =>
      have e : trimZ (y :: t) = trimZ t := by unfold trimZ; rw [List.dropWhile_cons, hy]; rfl
      rw [e, ahead_space hy]
      cases ha : aheadZ t with
      | nil =>
        rw [← ih, ha]
        rfl
      | cons a s =>
        show trimZ (y :: a :: s) = trimZ t
        have e2 : trimZ (y :: a :: s) = trimZ (a :: s) := by unfold trimZ; rw [List.dropWhile_cons, hy]; rfl
        rw [e2, ← ha, ih]
theorem trim_pre (vs r t : List V) (h : trimZ vs = r ++ t) : trimZ r = aheadZ r := by
  have e : r.dropWhile spaceV = r := drop_id (fun x s hx => by
    subst hx
    exact trim_head vs x (s ++ t) h)
  unfold trimZ
  rw [e]
/-- What a declaration is said to be, in memory. -/
def RDeclSaid (Q : Nat → Prop) (e : Ending) (w : World) : Option (ByteArray × List V × Bool) → Prop
  | none => e = .returned (.tuple #[.agg #[.string ⟨#[]⟩, .slice none 0 0, .bool false], .bool false])
  | some d => ∃ out, e = .returned (.tuple #[.agg #[.string d.1, out, .bool d.2.2], .bool true]) ∧ VsAt Q w out d.2.1
/-- The answer's block, still empty, and the declaration's. -/
def DSt (W wx : World) (D : Nat) (fs : ByteArray) (val : Value) (im : Bool) : Prop :=
  Below W.heap.size W wx ∧ W.heap.size < D ∧ wx.heap[W.heap.size]? = some (.cells #[.string ⟨#[]⟩, .slice none 0 0, .bool false] 41 (0, 0)) ∧ wx.heap[D]? = some (.cells #[.string fs, val, .bool im] 41 (0, 0))
theorem DSt.keep {W wx w' : World} {D : Nat} {fs : ByteArray} {val : Value} {im : Bool} (h : DSt W wx D fs val im) (hb : Below wx.heap.size wx w') : DSt W w' D fs val im := by
  obtain ⟨h1, h2, h3, h4⟩ := h
  exact ⟨h1.trans (hb.mono h1.size), h2, (hb.block _ (Array.getElem?_eq_some_iff.1 h3).1).trans h3, (hb.block _ (Array.getElem?_eq_some_iff.1 h4).1).trans h4⟩
theorem DSt.cells {W wx : World} {D : Nat} {fs : ByteArray} {val : Value} {im : Bool} (h : DSt W wx D fs val im) : wx.cell? ⟨D, 0, none⟩ = some (.string fs) ∧ wx.cell? ⟨D, 1, none⟩ = some val ∧ wx.cell? ⟨D, 2, none⟩ = some (.bool im) ∧ wx.frozen? ⟨D, 1, none⟩ = false ∧ wx.frozen? ⟨D, 2, none⟩ = false := by
  have h4 := h.2.2.2
  exact ⟨by simp [World.cell?, h4], by simp [World.cell?, h4], by simp [World.cell?, h4], by simp [World.frozen?, h4], by simp [World.frozen?, h4]⟩
theorem DSt.rcells {W wx : World} {D : Nat} {fs : ByteArray} {val : Value} {im : Bool} (h : DSt W wx D fs val im) : wx.cell? ⟨W.heap.size, 0, none⟩ = some (.string ⟨#[]⟩) ∧ wx.cell? ⟨W.heap.size, 1, none⟩ = some (.slice none 0 0) ∧ wx.cell? ⟨W.heap.size, 2, none⟩ = some (.bool false) ∧ wx.frozen? ⟨W.heap.size, 0, none⟩ = false ∧ wx.frozen? ⟨W.heap.size, 1, none⟩ = false ∧ wx.frozen? ⟨W.heap.size, 2, none⟩ = false := by
  have h4 := h.2.2.1
  exact ⟨by simp [World.cell?, h4], by simp [World.cell?, h4], by simp [World.cell?, h4], by simp [World.frozen?, h4], by simp [World.frozen?, h4], by simp [World.frozen?, h4]⟩
theorem DSt.setV {W wx : World} {D : Nat} {fs : ByteArray} {val : Value} {im : Bool} (h : DSt W wx D fs val im) (v' : Value) : DSt W (wx.setCell ⟨D, 1, none⟩ v') D fs v' im := by
  obtain ⟨h1, h2, h3, h4⟩ := h
  refine ⟨h1.setCell (p := ⟨D, 1, none⟩) (by show W.heap.size ≤ D; omega) v', h2, ?_, ?_⟩
  · rw [Below.heap_setCell wx ⟨D, 1, none⟩ v' _ (by show W.heap.size ≠ D; omega)]
    exact h3
  · rw [heap_setCell_same wx D 1 #[.string fs, val, .bool im] 41 v' h4]
    rfl
theorem DSt.setI {W wx : World} {D : Nat} {fs : ByteArray} {val : Value} {im : Bool} (h : DSt W wx D fs val im) (b : Bool) : DSt W (wx.setCell ⟨D, 2, none⟩ (.bool b)) D fs val b := by
  obtain ⟨h1, h2, h3, h4⟩ := h
  refine ⟨h1.setCell (p := ⟨D, 2, none⟩) (by show W.heap.size ≤ D; omega) _, h2, ?_, ?_⟩
  · rw [Below.heap_setCell wx ⟨D, 2, none⟩ _ _ (by show W.heap.size ≠ D; omega)]
    exact h3
  · rw [heap_setCell_same wx D 2 #[.string fs, val, .bool im] 41 _ h4]
    rfl
/-- Behind the three stores into the answer's block. -/
theorem VsAt.three {Q : Nat → Prop} {R : Nat} {w : World} {v : Value} {vs : List V} (h : VsAt (fun b => Q b ∧ b ≠ R) w v vs) (a0 a1 a2 : Value) : VsAt Q (((w.setCell ⟨R, 0, none⟩ a0).setCell ⟨R, 1, none⟩ a1).setCell ⟨R, 2, none⟩ a2) v vs :=
  (h.stay (by simp) (fun b hb _ => by
    rw [Below.heap_setCell _ _ _ _ (by show b ≠ R; exact hb.2), Below.heap_setCell _ _ _ _ (by show b ≠ R; exact hb.2), Below.heap_setCell _ _ _ _ (by show b ≠ R; exact hb.2)])).wider (fun _ hb _ => hb.1)
theorem below_three {W w : World} (h : Below W.heap.size W w) (a0 a1 a2 : Value) : Below W.heap.size W (((w.setCell ⟨W.heap.size, 0, none⟩ a0).setCell ⟨W.heap.size, 1, none⟩ a1).setCell ⟨W.heap.size, 2, none⟩ a2) :=
  ((h.setCell (p := ⟨W.heap.size, 0, none⟩) (Nat.le_refl _) a0).setCell (p := ⟨W.heap.size, 1, none⟩) (Nat.le_refl _) a1).setCell (p := ⟨W.heap.size, 2, none⟩) (Nat.le_refl _) a2
/-- Where the values may lie: with the argument or in new memory, not in the two blocks. -/
def PD (P : Nat → Prop) (W : World) (D : Nat) (b : Nat) : Prop := (P b ∨ W.heap.size ≤ b) ∧ b ≠ W.heap.size ∧ b ≠ D
end Go.Proofs.Ytihdiaklhkecmab
namespace Go.Proofs.Ytihdiaklhkecmab
open Go.RowKit
set_option maxRecDepth 100000

end Go.Proofs.Ytihdiaklhkecmab
namespace Go.Proofs.Ytihdiaklhkecmab
open Go.RowKit
set_option maxRecDepth 100000

set_option maxHeartbeats 400000 in
theorem ptrim_any {P : Nat → Prop} {W : World} {v : Value} {vs : List V} (hv : VsAt P W v vs) (hm : V.most vs) :
    Calls Try.prog 6 #[v] W fun e w' => ∃ out, e = .returned out ∧ VsAt (fun b => W.heap.size ≤ b) w' out (trimZ vs) ∧ Below W.heap.size W w' := by
  have h42 := trimmed_any hv hm.len
  have hm2 := trim_most hm
  unfold trimZ at hm2 ⊢
  obtain ⟨a, cap, rfl, _, _⟩ := hv.slice
  generalize aheadZ (vs.dropWhile spaceV) = tv at *
  go_enter Try.func6, Try.ntmps6
  go_wp2_with (go_at_call 14; fail)
  refine h42.mono ?_
  rintro e w1 ⟨o1, rfl, ho1, hb1⟩
  have h35 := own_any ho1 w1 (Below.refl _ _) hm2
  have HB1 := hid_mk hb1
  obtain ⟨a1, c1, rfl, _, _⟩ := ho1.slice
  clear h42 ho1 hb1
  go_wp2_with (go_at_call 13; fail)
  refine h35.mono ?_
  rintro e w2 ⟨o2, rfl, ho2, hb2⟩
  have HB2 : Hid (Below W.heap.size W w2) := HB1.out.trans (hb2.mono HB1.out.size)
  have HO2 : Hid (VsAt (fun b => W.heap.size ≤ b) w2 o2 tv) := ho2.wider (fun b hb _ => Nat.le_trans HB1.out.size hb)
  obtain ⟨a2, c2, rfl, _, _⟩ := ho2.slice
  clear h35 ho2 hb2
  go_wp2
  go_ret
  exact ⟨_, rfl, HO2.out, HB2.out⟩
theorem great_no {vs : List V} (h : greatZ vs = false) : countL vs ≤ 3000 := by
  unfold greatZ at h
  have h2 : decide (3000 < countL vs) = false := by
    cases hd : deepL vs 100 <;> simp_all
  have := of_decide_eq_false h2
  omega
end Go.Proofs.Ytihdiaklhkecmab
