/- What the cutter's short calls answer: done, ahead, next: by the characters that are left. -/
import Derived.Test.YtdibldcnklgcjaaGreatDoorJoins
import Derived.Test.YtdibldcnklgcjaaGreatDoorKinds
import Derived.Deep.RegionWith
import Derived.WalkSmall
namespace Go.Proofs.YtdibldcnklgcjaaGreatDoor
open Go.RowKit
set_option maxRecDepth 100000

/-- All blocks but one stand as they stood. -/
structure Kept (b : Nat) (w w' : World) : Prop where
  os : w'.os = w.os
  tape : w'.tape = w.tape
  output : w'.output = w.output
  size : w.heap.size ≤ w'.heap.size
  block : ∀ k, k < w.heap.size → k ≠ b → w'.heap[k]? = w.heap[k]?

theorem Kept.refl (b : Nat) (w : World) : Kept b w w := ⟨rfl, rfl, rfl, Nat.le_refl _, fun _ _ _ => rfl⟩
theorem Kept.trans {b : Nat} {u v w : World} (h : Kept b u v) (k : Kept b v w) : Kept b u w :=
  ⟨k.os.trans h.os, k.tape.trans h.tape, k.output.trans h.output, Nat.le_trans h.size k.size, fun i hi hb => (k.block i (Nat.lt_of_lt_of_le hi h.size) hb).trans (h.block i hi hb)⟩
theorem Kept.of_below {b : Nat} {w w' : World} (h : Below w.heap.size w w') : Kept b w w' := ⟨h.os, h.tape, h.output, h.size, fun k hk _ => h.block k hk⟩
theorem Kept.drewN (b : Nat) (w : World) (n : Nat) : Kept b w (w.drewN n) := ⟨rfl, rfl, rfl, Nat.le_refl _, fun _ _ _ => rfl⟩
theorem Kept.setCell {b : Nat} {a w : World} (h : Kept b a w) (o : Nat) (u : Value) : Kept b a (w.setCell ⟨b, o, none⟩ u) :=
  h.trans ⟨rfl, rfl, rfl, by simp, fun k _ hk => Below.heap_setCell w ⟨b, o, none⟩ u k hk⟩
theorem Kept.below {b : Nat} {w w' : World} (h : Kept b w w') (hb : b ≤ w.heap.size) : Below b w w' := ⟨h.os, h.tape, h.output, h.size, fun k hk => h.block k (by omega) (by omega)⟩

def Fine (xs : List Int) : Prop := xs.length ≤ 1000000000 ∧ ∀ c ∈ xs, IsChar c
/-- The cutter in block b: its text xs, of which l is left, and what is told so far. -/
def At (w : World) (b : Nat) (v out : Value) (xs l : List Int) : Prop :=
  ∃ p : Nat, w.heap[b]? = some (.cells #[v, .int .i64 p, out] 72 (0, 0)) ∧ RowAt .i32 w v xs ∧ (∀ k x, out ≠ .int k x) ∧ p ≤ xs.length ∧ xs.drop p = l

theorem at_lt {w : World} {b : Nat} {v out : Value} {xs l : List Int} (h : At w b v out xs l) : b < w.heap.size := by
  obtain ⟨p, hb, _⟩ := h
  exact (Array.getElem?_eq_some_iff.1 hb).1
theorem row_kept {w w' : World} {b : Nat} {v out v2 : Value} {xs : List Int} {p : Int} (hb : w.heap[b]? = some (.cells #[v2, .int .i64 p, out] 72 (0, 0))) (hv : ∀ k x, v2 ≠ .int k x) (ho : ∀ k x, out ≠ .int k x) (h : RowAt .i32 w v xs) (hk : Kept b w w') : RowAt .i32 w' v xs := by
  obtain ⟨a, cap, rfl, h1, hc⟩ := h
  refine ⟨a, cap, rfl, h1, fun h0 => ?_⟩
  obtain ⟨rb, off, rfl, hc'⟩ := hc h0
  refine ⟨rb, off, rfl, fun j hj => ?_⟩
  have hcell := hc' j hj
  have hlt := World.block_lt_of_cell? w _ hcell
  have hne : rb ≠ b := by
    intro e
    subst e
    simp only [World.cell?, hb] at hcell
    match h : off + j with
    | 0 => rw [h] at hcell; simp at hcell; exact hv _ _ hcell
    | 1 => rw [h] at hcell; simp at hcell
    | 2 => rw [h] at hcell; simp at hcell; exact ho _ _ hcell
    | n + 3 => rw [h] at hcell; simp at hcell
  exact (World.cell?_of_block (w := w) (hk.block rb hlt hne)).trans hcell


theorem slice_no {a : Option Addr} {n c : Nat} : ∀ k x, Value.slice a n c ≠ .int k x := fun _ _ h => by cases h
theorem at_kept {w w' : World} {b : Nat} {v out : Value} {xs l : List Int} (h : At w b v out xs l) (hk : Kept b w w') (hb : w'.heap[b]? = w.heap[b]?) : At w' b v out xs l := by
  obtain ⟨p, h1, h2, h3, h4, h5⟩ := h
  have hv : ∀ k x, v ≠ .int k x := by obtain ⟨a, c, rfl, _⟩ := h2; exact slice_no
  exact ⟨p, hb.trans h1, row_kept h1 hv h3 h2 hk, h3, h4, h5⟩
theorem at_below {w w' : World} {b : Nat} {v out : Value} {xs l : List Int} (h : At w b v out xs l) (hk : Below w.heap.size w w') : At w' b v out xs l := at_kept h (Kept.of_below hk) (hk.block b (at_lt h))
theorem at_drew {w : World} {b : Nat} {v out : Value} {xs l : List Int} (h : At w b v out xs l) (n : Nat) : At (w.drewN n) b v out xs l := at_kept h (Kept.drewN b w n) rfl

theorem cells3 {w : World} {b : Nat} {x y z : Value} (h : w.heap[b]? = some (.cells #[x, y, z] 72 (0, 0))) : w.cell? ⟨b, 0, none⟩ = some x ∧ w.cell? ⟨b, 1, none⟩ = some y ∧ w.cell? ⟨b, 2, none⟩ = some z := by
  refine ⟨?_, ?_, ?_⟩ <;> simp [World.cell?, h]
theorem free3 {w : World} {b : Nat} {x y z : Value} (h : w.heap[b]? = some (.cells #[x, y, z] 72 (0, 0))) (o : Nat) : w.frozen? ⟨b, o, none⟩ = false := by
  simp [World.frozen?, h]

theorem done_any (b : Nat) (v out : Value) (xs l : List Int) (w : World) (fx : Fine xs) (h : At w b v out xs l) :
    Calls Tryz.prog 28 #[.pointer (some ⟨b, 0, none⟩)] w fun e w' => e = .returned (.bool (decide (l = []))) ∧ ∃ n, w' = w.drewN n := by
  obtain ⟨p, hb, hr, _, hp, rfl⟩ := h
  obtain ⟨hc0, hc1, _⟩ := cells3 hb
  obtain ⟨a, cap, rfl, hcap, _⟩ := hr
  have hl := fx.1
  have HD : Hid (decide (xs.drop p = []) = decide (xs.length ≤ p)) := by show decide (xs.drop p = []) = decide (xs.length ≤ p); simp
  clear hb
  go_enter Tryz.func28, Tryz.ntmps28
  go_wp2
  go_quiet (fail)
  go_wp2
  go_ret
  exact ⟨ret_bool (by rw [HD.out]), _, rfl⟩

theorem drewN_twice (w : World) (n m : Nat) : (w.drewN n).drewN m = w.drewN (n + m) := by simp [World.drewN, Nat.add_assoc]
theorem hd_get {xs : List Int} {p i : Nat} (h : p + i < xs.length) : hd (xs.drop p) i = xs.getD (p + i) 0 := by
  simp [hd, List.getD, h]
theorem hd_out {xs : List Int} {p i : Nat} (h : ¬ p + i < xs.length) : hd (xs.drop p) i = -1 := by
  have : xs.length ≤ p + i := by omega
  simp [hd, List.getD, this]

set_option maxHeartbeats 400000 in
theorem ahead_any (b : Nat) (v out : Value) (xs l : List Int) (i : Nat) (w : World) (fx : Fine xs) (h : At w b v out xs l) (hi : i ≤ 1000000000) :
    Calls Tryz.prog 46 #[.pointer (some ⟨b, 0, none⟩), .int .i64 i] w fun e w' => e = .returned (.int .i32 (hd l i)) ∧ ∃ n, w' = w.drewN n := by
  obtain ⟨p, hb, hr, _, hp, rfl⟩ := h
  obtain ⟨hc0, hc1, _⟩ := cells3 hb
  obtain ⟨a, cap, rfl, hcap, hrow⟩ := hr
  have hl := fx.1
  clear hb
  by_cases hin : p + i < xs.length
  · obtain ⟨rb, off, rfl, hcl⟩ := hrow (by omega)
    have HD : Hid (hd (xs.drop p) i = xs.getD (p + i) 0) := hd_get hin
    have hcell := hcl (p + i) hin
    have hq : decide ((xs.length : Int) - p ≤ i) = false := by simp; omega
    generalize xs.getD (p + i) 0 = c at HD hcell
    clear hrow hcl
    go_enter Tryz.func46, Tryz.ntmps46
    go_wp2
    go_quiet (fail)
    go_wp2
    go_quiet (fail)
    go_wp2
    go_ret
    exact ⟨by rw [HD.out]; rfl, _, drewN_twice _ _ _⟩
  · have HD : Hid (hd (xs.drop p) i = -1) := hd_out hin
    have hq : (xs.length : Int) - p ≤ i := by omega
    go_enter Tryz.func46, Tryz.ntmps46
    go_wp2
    go_quiet (fail)
    go_wp2
    go_ret
    exact ⟨by rw [HD.out]; rfl, _, rfl⟩

theorem set3 {w : World} {b : Nat} {x y z u : Value} (h : w.heap[b]? = some (.cells #[x, y, z] 72 (0, 0))) : (w.setCell ⟨b, 1, none⟩ u).heap[b]? = some (.cells #[x, u, z] 72 (0, 0)) := by
  have hlt := (Array.getElem?_eq_some_iff.1 h).1
  have he := (Array.getElem?_eq_some_iff.1 h).2
  simp [World.setCell, Array.getElem?_modify, h]
theorem at_set {w : World} {b : Nat} {v out : Value} {xs l : List Int} (h : At w b v out xs l) {q : Nat} (hq : q ≤ xs.length) : At (w.setCell ⟨b, 1, none⟩ (.int .i64 q)) b v out xs (xs.drop q) := by
  obtain ⟨p, h1, h2, h3, h4, h5⟩ := h
  have hv : ∀ k x, v ≠ .int k x := by obtain ⟨a, c, rfl, _⟩ := h2; exact slice_no
  exact ⟨q, set3 h1, row_kept h1 hv h3 h2 ((Kept.refl b w).setCell 1 _), h3, hq, rfl⟩

set_option maxHeartbeats 400000 in
theorem next_any (b : Nat) (v out : Value) (xs : List Int) (c : Int) (t : List Int) (w : World) (fx : Fine xs) (h : At w b v out xs (c :: t)) :
    Calls Tryz.prog 49 #[.pointer (some ⟨b, 0, none⟩)] w fun e w' => e = .returned (.int .i32 c) ∧ At w' b v out xs t ∧ Kept b w w' := by
  have ha := ahead_any b v out xs (c :: t) 0 w fx h (by omega)
  have h' := h
  obtain ⟨p, hb, hr, ho, hp, he⟩ := h
  have hl := fx.1
  have hlt : p < xs.length := by
    have := congrArg List.length he
    simp at this
    omega
  have ht : xs.drop (p + 1) = t := by
    have := congrArg (List.drop 1) he
    simpa [List.drop_drop] using this
  have HS := fun n => at_set (at_drew h' n) (q := p + 1) (by omega)
  obtain ⟨hc0, hc1, hc2⟩ := cells3 hb
  have hf := free3 hb
  subst ht
  clear hb hr
  go_enter Tryz.func49, Tryz.ntmps49
  go_wp2_with (go_at_call 46; refine ha.mono ?_; rintro e w' ⟨rfl, n, rfl⟩)
  go_ret
  exact ⟨rfl, HS n, (Kept.drewN b w n).setCell 1 _⟩
end Go.Proofs.YtdibldcnklgcjaaGreatDoor
