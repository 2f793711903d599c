/- prop.Find, prop.Place, and the document's. -/
import Derived.Test.YtaoodkpbhehdgaaPSt
namespace Go.Proofs.Ytaoodkpbhehdgaa
open Go.RowKit
set_option maxRecDepth 100000

theorem plc_ge (name : ByteArray) : -1 ≤ plc name ∧ plc name < 48 := by
  unfold plc fnd
  cases h : TZ.find? (isN name) with
  | none => simp
  | some x =>
    have hx := List.mem_of_find?_eq_some h
    obtain ⟨k, hk⟩ := List.getElem?_of_mem hx
    have hlt : k < 48 := by
      rw [← TZ_len]
      exact (List.getElem?_eq_some_iff.1 hk).1
    obtain ⟨p, _, hp⟩ := TZ_at k hlt
    rw [hk] at hp
    injection hp with hp
    subst hp
    simp only []
    omega
set_option maxHeartbeats 2000000 in
theorem place_any (name : ByteArray) (w : World) : Calls Try.prog 7 #[.string name] w fun e w' => e = .returned (.int .i64 (plc name)) ∧ Below w.heap.size w w' := by
  have hf := found_any name w
  obtain ⟨p, hp⟩ : ∃ p, p = prc name := ⟨_, rfl⟩
  rw [← hp] at hf
  clear hp
  obtain ⟨pn, pi, ph, pf⟩ := p
  generalize plc name = i at *
  go_enter Try.func7, Try.ntmps7
  go_wp2_with (go_at_call 11; fail)
  refine hf.mono ?_
  rintro e w2 ⟨rfl, hb⟩
  have hb2 := hb.alloc hb.size (.cells #[.string pn, .string pi, .bool ph, .string pf] 28)
  clear hf
  go_wp2
  go_ret
  exact ⟨rfl, hb2⟩
theorem results7 (tmps : Array Value) (w : World) (b : Nat) (r : Bool) (p : Pr) (h2 : tmps[2]? = some (.pointer (some ⟨b, 0, none⟩))) (h3 : tmps[3]? = some (.bool r))
    (r1 : w.cell? ⟨b, 0, none⟩ = some (.string p.n)) (r2 : w.cell? ⟨b, 1, none⟩ = some (.string p.i)) (r3 : w.cell? ⟨b, 2, none⟩ = some (.bool p.h)) (r4 : w.cell? ⟨b, 3, none⟩ = some (.string p.f)) :
    (results Try.f6 tmps).run Try.prog w = .ok (.tuple #[.agg (c4 p), .bool r]) w := by
  simp [results, Try.f6, go_sem, h2, h3, r1, r2, r3, r4]
/-- A block of one's own, four cells stored. -/
theorem st4 {W w : World} {b t : Nat} {p : Pr} (v1 v2 v3 v4 : Value) (h4 : Bx W b t (c4 p)) (hw : w.heap.size ≤ b) (h5 : Below w.heap.size w W) (W' : World)
    (hW : W' = (((W.setCell ⟨b, 0, none⟩ v1).setCell ⟨b, 1, none⟩ v2).setCell ⟨b, 2, none⟩ v3).setCell ⟨b, 3, none⟩ v4) :
    Bx W' b t #[v1, v2, v3, v4] ∧ Below w.heap.size w W' := by
  subst hW
  exact ⟨(((h4.set 0 v1).set 1 v2).set 2 v3).set 3 v4, (((h5.setCell (p := ⟨b, 0, none⟩) (by simpa using hw) v1).setCell (p := ⟨b, 1, none⟩) (by simpa using hw) v2).setCell (p := ⟨b, 2, none⟩) (by simpa using hw) v3).setCell (p := ⟨b, 3, none⟩) (by simpa using hw) v4⟩
theorem Bx.below {W W' : World} {B t : Nat} {cs : Array Value} (h : Bx W B t cs) (hb : Below W.heap.size W W') : Bx W' B t cs := (hb.block B h.lt).trans h
set_option maxHeartbeats 2000000 in
theorem find_any (name : ByteArray) (w : World) : Calls Try.prog 6 #[.string name] w fun e w' => e = .returned (.tuple #[.agg (c4 (prc name)), .bool (decide (0 ≤ plc name))]) ∧ Below w.heap.size w w' := by
  have hf := found_any name (w.alloc (.cells #[.string ⟨#[]⟩, .string ⟨#[]⟩, .bool false, .string ⟨#[]⟩] 28))
  obtain ⟨p, hp⟩ : ∃ p, p = prc name := ⟨_, rfl⟩
  rw [← hp] at hf ⊢
  clear hp
  generalize plc name = i at *
  obtain ⟨pn, pi, ph, pf⟩ := p
  have hB0 : Below w.heap.size w (w.alloc (.cells (c4 z0) 28)) := (Below.refl _ w).alloc (Nat.le_refl _) _
  have hX0 : Bx (w.alloc (.cells (c4 z0) 28)) w.heap.size 28 (c4 z0) := Bx.new _ _ _
  go_enter Try.func6, Try.ntmps6
  go_wp2_with (go_at_call 11; fail)
  refine hf.mono ?_
  rintro e w2 ⟨rfl, hb⟩
  have hX := (hX0.below hb).alloc (.cells #[.string pn, .string pi, .bool ph, .string pf] 28)
  have hB := (hB0.trans (hb.mono hB0.size)).alloc (Nat.le_trans hB0.size hb.size) (.cells #[.string pn, .string pi, .bool ph, .string pf] 28)
  have hY := Bx.new w2 28 #[.string pn, .string pi, .bool ph, .string pf]
  clear hf hB0 hX0 hb
  obtain ⟨W3, hW3⟩ : ∃ W3, W3 = w2.alloc (.cells #[.string pn, .string pi, .bool ph, .string pf] 28) := ⟨_, rfl⟩
  rw [← hW3] at hX hB hY
  have q1 : W3.cell? ⟨w2.heap.size, 0, none⟩ = some (.string pn) := hY.cell 0 _ rfl
  have q2 : W3.cell? ⟨w2.heap.size, 1, none⟩ = some (.string pi) := hY.cell 1 _ rfl
  have q3 : W3.cell? ⟨w2.heap.size, 2, none⟩ = some (.bool ph) := hY.cell 2 _ rfl
  have q4 : W3.cell? ⟨w2.heap.size, 3, none⟩ = some (.string pf) := hY.cell 3 _ rfl
  have r1 : W3.cell? ⟨w.heap.size, 0, none⟩ = some (.string ⟨#[]⟩) := hX.cell 0 _ rfl
  have r2 : W3.cell? ⟨w.heap.size, 1, none⟩ = some (.string ⟨#[]⟩) := hX.cell 1 _ rfl
  have r3 : W3.cell? ⟨w.heap.size, 2, none⟩ = some (.bool false) := hX.cell 2 _ rfl
  have r4 : W3.cell? ⟨w.heap.size, 3, none⟩ = some (.string ⟨#[]⟩) := hX.cell 3 _ rfl
  have f1 := hX.frozen 0
  have f2 := hX.frozen 1
  have f3 := hX.frozen 2
  have f4 := hX.frozen 3
  have HX := hid_mk hX
  have HB := hid_mk hB
  clear hX hY hB
  go_upto_region 2 with fail
  rw [← hW3]
  clear hW3
  go_wp2
  obtain ⟨g1, g2⟩ := st4 (.string pn) (.string pi) (.bool ph) (.string pf) HX.out (Nat.le_refl _) HB.out _ rfl
  exact bodyPost_ret (results7 _ _ w.heap.size (decide (0 ≤ i)) ⟨pn, pi, ph, pf⟩ rfl rfl (g1.cell 0 _ rfl) (g1.cell 1 _ rfl) (g1.cell 2 _ rfl) (g1.cell 3 _ rfl)) rfl ⟨rfl, g2⟩

/-- The table in a row. -/
theorem TC_at (k : Nat) (p : Pr) (h : T[k]? = some p) : TC[k * 4]? = some (.string p.n) ∧ TC[k * 4 + 1]? = some (.string p.i) ∧ TC[k * 4 + 2]? = some (.bool p.h) ∧ TC[k * 4 + 3]? = some (.string p.f) := by
  have key : ∀ (l : List Pr) (k : Nat) (p : Pr), l[k]? = some p → (l.flatMap Pr.cs)[k * 4]? = some (.string p.n) ∧ (l.flatMap Pr.cs)[k * 4 + 1]? = some (.string p.i) ∧ (l.flatMap Pr.cs)[k * 4 + 2]? = some (.bool p.h) ∧ (l.flatMap Pr.cs)[k * 4 + 3]? = some (.string p.f) := by
    intro l
    induction l with
    | nil => intro k p h; cases h
    | cons x l ih =>
      intro k p h
      cases k with
      | zero =>
        injection h with h
        subst h
        exact ⟨rfl, rfl, rfl, rfl⟩
      | succ k =>
        have := ih k p h
        have e : ∀ j, (x.cs ++ l.flatMap Pr.cs)[(k + 1) * 4 + j]? = (l.flatMap Pr.cs)[k * 4 + j]? := fun j => by
          rw [List.getElem?_append_right (by simp [Pr.cs]; omega)]
          congr 1
          simp only [Pr.cs, List.length_cons, List.length_nil]
          omega
        rw [List.flatMap_cons]
        exact ⟨(e 0).trans this.1, (e 1).trans this.2.1, (e 2).trans this.2.2.1, (e 3).trans this.2.2.2⟩
  exact key T k p h
theorem row_at {w : World} {b t : Nat} (h : Bx w b t TC.toArray) (k : Nat) (p : Pr) (hp : T[k]? = some p) : w.cell? ⟨b, k * 4, none⟩ = some (.string p.n) ∧ w.cell? ⟨b, k * 4 + 1, none⟩ = some (.string p.i) ∧ w.cell? ⟨b, k * 4 + 2, none⟩ = some (.bool p.h) ∧ w.cell? ⟨b, k * 4 + 3, none⟩ = some (.string p.f) := by
  obtain ⟨h1, h2, h3, h4⟩ := TC_at k p hp
  exact ⟨h.cell _ _ (by simpa using h1), h.cell _ _ (by simpa using h2), h.cell _ _ (by simpa using h3), h.cell _ _ (by simpa using h4)⟩
theorem find_take {name : ByteArray} {k : Nat} {p : Pr} (hk : TZ[k]? = some (k, p)) (h : (TZ.take k).find? (isN name) = none) : (isN name (k, p) = true → TZ.find? (isN name) = some (k, p)) ∧ (isN name (k, p) = false → (TZ.take (k + 1)).find? (isN name) = none) := by
  have ht : TZ.take (k + 1) = TZ.take k ++ [(k, p)] := by rw [List.take_add_one, hk]; rfl
  refine ⟨fun hi => ?_, fun hi => ?_⟩
  · refine find_pre (List.take_prefix (k + 1) TZ) ?_
    rw [ht, List.find?_append, h]
    simp [hi]
  · rw [ht, List.find?_append, h]
    simp [hi]
end Go.Proofs.Ytaoodkpbhehdgaa
