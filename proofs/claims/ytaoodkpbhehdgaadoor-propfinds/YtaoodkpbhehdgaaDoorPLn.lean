/- The document's Find; prop.All; the sides of a name. -/
import Derived.Test.YtaoodkpbhehdgaaDoorPRf
namespace Go.Proofs.YtaoodkpbhehdgaaDoor
open Go.RowKit
set_option maxRecDepth 100000

theorem fnd_cases (name : ByteArray) : (plc name = -1 ∧ prc name = z0) ∨ ∃ (k : Nat) (p : Pr), k < 48 ∧ plc name = (k : Int) ∧ prc name = p ∧ T[k]? = some p := by
  unfold plc prc fnd
  cases h : TZ.find? (isN name) with
  | none => exact .inl ⟨rfl, rfl⟩
  | some x =>
    have hx := List.mem_of_find?_eq_some h
    obtain ⟨k, hk⟩ := List.getElem?_of_mem hx
    have hlt : k < 48 := by
      rw [← TZ_len]
      exact (List.getElem?_eq_some_iff.1 hk).1
    obtain ⟨p, hp, hp2⟩ := TZ_at k hlt
    rw [hk] at hp2
    injection hp2 with hp2
    subst hp2
    exact .inr ⟨k, p, hlt, rfl, rfl, hp⟩
set_option maxHeartbeats 2000000 in
/-- The document's Find. -/
theorem rfind_any (name : ByteArray) (w : World) : Calls Tryd.prog 8 #[.string name] w fun e w' => e = .returned (.tuple #[.agg (c4 (prc name)), .bool (decide (0 ≤ plc name))]) ∧ Below w.heap.size w w' := by
  have hf := rplace_any name (w.alloc (.cells #[.string ⟨#[]⟩, .string ⟨#[]⟩, .bool false, .string ⟨#[]⟩] 27))
  have hB0 : Below w.heap.size w (w.alloc (.cells (c4 z0) 27)) := (Below.refl _ w).alloc (Nat.le_refl _) _
  have hX0 : Bx (w.alloc (.cells (c4 z0) 27)) w.heap.size 27 (c4 z0) := Bx.new _ _ _
  rcases fnd_cases name with ⟨h1, h2⟩ | ⟨k, p, hk, h1, h2, hT⟩
  · rw [h1] at hf ⊢
    rw [h2]
    clear h1 h2
    go_enter Tryd.func8, Tryd.ntmps8
    go_wp2_with (go_at_call 10; fail)
    refine hf.mono ?_
    rintro e w2 ⟨rfl, hb⟩
    have hX := hX0.below hb
    have hB := hB0.trans (hb.mono hB0.size)
    clear hf hB0 hX0 hb
    have r1 : w2.cell? ⟨w.heap.size, 0, none⟩ = some (.string ⟨#[]⟩) := hX.cell 0 _ rfl
    have r2 : w2.cell? ⟨w.heap.size, 1, none⟩ = some (.string ⟨#[]⟩) := hX.cell 1 _ rfl
    have r3 : w2.cell? ⟨w.heap.size, 2, none⟩ = some (.bool false) := hX.cell 2 _ rfl
    have r4 : w2.cell? ⟨w.heap.size, 3, none⟩ = some (.string ⟨#[]⟩) := hX.cell 3 _ rfl
    have f1 := hX.frozen 0
    have f2 := hX.frozen 1
    have f3 := hX.frozen 2
    have f4 := hX.frozen 3
    have HX := hid_mk hX
    have HB := hid_mk hB
    clear hX hB
    go_wp2
    obtain ⟨g1, g2⟩ := st4 (.string ⟨#[]⟩) (.string ⟨#[]⟩) (.bool false) (.string ⟨#[]⟩) HX.out (Nat.le_refl _) HB.out _ rfl
    exact bodyPost_ret (results8 _ _ w.heap.size false z0 rfl rfl (g1.cell 0 _ rfl) (g1.cell 1 _ rfl) (g1.cell 2 _ rfl) (g1.cell 3 _ rfl)) rfl ⟨rfl, g2⟩
  · rw [h1] at hf ⊢
    rw [h2]
    clear h1 h2
    go_enter Tryd.func8, Tryd.ntmps8
    go_wp2_with (go_at_call 10; fail)
    refine hf.mono ?_
    rintro e w1 ⟨rfl, hb⟩
    have hX1 := hX0.below hb
    have hB1 := hB0.trans (hb.mono hB0.size)
    have hall := rall_any w1
    clear hf hB0 hX0 hb
    go_wp2_with (go_at_call 17; fail)
    refine hall.mono ?_
    rintro e w2 ⟨rfl, hw2⟩
    have hB12 : Below w1.heap.size w1 w2 := by rw [hw2]; exact (Below.refl _ w1).alloc (Nat.le_refl _) _
    have hR : Bx w2 w1.heap.size 27 TC.toArray := by rw [hw2]; exact Bx.new _ _ _
    have hX := hX1.below hB12
    have hB := hB1.trans (hB12.mono hB1.size)
    obtain ⟨q1, q2, q3, q4⟩ := row_at hR k p hT
    clear hall hw2 hB12 hX1 hB1 hR
    obtain ⟨pn, pi, ph, pf⟩ := p
    dsimp only at q1 q2 q3 q4
    have r1 : w2.cell? ⟨w.heap.size, 0, none⟩ = some (.string ⟨#[]⟩) := hX.cell 0 _ rfl
    have r2 : w2.cell? ⟨w.heap.size, 1, none⟩ = some (.string ⟨#[]⟩) := hX.cell 1 _ rfl
    have r3 : w2.cell? ⟨w.heap.size, 2, none⟩ = some (.bool false) := hX.cell 2 _ rfl
    have r4 : w2.cell? ⟨w.heap.size, 3, none⟩ = some (.string ⟨#[]⟩) := hX.cell 3 _ rfl
    have f1 := hX.frozen 0
    have f2 := hX.frozen 1
    have f3 := hX.frozen 2
    have f4 := hX.frozen 3
    have HX := hid_mk hX
    have HB := hid_mk hB
    have HT := hid_mk hT
    clear hX hB hT
    go_wp2
    obtain ⟨g1, g2⟩ := st4 (.string pn) (.string pi) (.bool ph) (.string pf) HX.out (Nat.le_refl _) HB.out _ rfl
    exact bodyPost_ret (results8 _ _ w.heap.size true ⟨pn, pi, ph, pf⟩ rfl rfl (g1.cell 0 _ rfl) (g1.cell 1 _ rfl) (g1.cell 2 _ rfl) (g1.cell 3 _ rfl)) rfl ⟨by simp, g2⟩
theorem wpList_alloc {P : Program} {ops : Array Oper} {rest : List Oper} {o : Oper} {a : Act} {w : World} {Q : Exit → Act → World → Prop} (hg : o.guard = none) (t : TypeId) (ho : o.op = .alloc t) (d : Option Tmp) (hd : o.dst = d) (z : Array Value) (hz : ∀ w, (zeroValue t).run P w = .ok (.agg z) w)
    (h : wpList P ops Q rest (a.put d (.pointer (some ⟨w.heap.size, 0, none⟩))) (w.alloc (.cells z t))) : wpList P ops Q (o :: rest) a w := by
  subst hd
  refine wpList_plain hg fun K hK => ?_
  have hrun : ∀ ev, (execOp ev o).run P w = .ok (.value (.pointer (some ⟨w.heap.size, 0, none⟩))) (w.alloc (.cells z t)) := fun ev => by
    unfold execOp
    simp only [ho]
    simp [Instr.alloc, Sem.run_bind, Result.andThen, hz, newVar, newRow, Value.cells]
  unfold Oper.wp
  rw [hrun]
  exact hK _ _ h
set_option maxHeartbeats 2000000 in
/-- prop.All. -/
theorem all_any (w : World) : Calls Tryd.prog 16 #[] w fun e w' => ∃ b, e = .returned (.slice (some ⟨b, 0, none⟩) 48 48) ∧ Bx w' b 49 TC.toArray ∧ Below w.heap.size w w' := by
  obtain ⟨hz, hi⟩ := zero_of_info info49
  have hlong := long_any w
  have hone := ones_TC
  have hts : TC.toArray.size = 192 := by simp [TC_len]
  generalize TC.toArray = C at *
  generalize hZ : (List.replicate 48 [Value.string ⟨#[]⟩, .string ⟨#[]⟩, .bool false, .string ⟨#[]⟩]).flatten.toArray = Z at *
  have hZs : Z.size = 192 := by rw [← hZ]; kernel_rfl
  clear hZ
  have HZ := hid_mk hz
  have HI := hid_mk hi
  have HON := hid_mk hone
  have HTS := hid_mk hts
  have HZS := hid_mk hZs
  clear hz hi hone hts hZs
  go_enter Tryd.func16, Tryd.ntmps16
  go_wp2_with (go_at_call 24; fail)
  refine hlong.mono ?_
  rintro e w1 ⟨rfl, hw1⟩
  have hB1 : Below w.heap.size w w1 := by rw [hw1]; exact (Below.refl _ w).alloc (Nat.le_refl _) _
  clear hw1 hlong
  rename_i hk
  refine hk _ _ ?_
  clear hk
  refine wpList_alloc rfl 49 rfl _ rfl Z HZ.out ?_
  refine wpList_store_row rfl 49 _ _ rfl w1.heap.size C rfl rfl 49 Z (heap_alloc_last w1 _) (by rw [HI.out, HTS.out]) (by rw [HZS.out, HTS.out]) HON.out ?_
  rw [World.setRow_alloc_new]
  have hB2 := hB1.alloc hB1.size (.cells C 49)
  have hX2 := Bx.new w1 49 C
  generalize w1.alloc (.cells C 49) = w2 at *
  go_wp2
  go_ret
  exact ⟨_, rfl, hX2, hB2⟩
end Go.Proofs.YtaoodkpbhehdgaaDoor
