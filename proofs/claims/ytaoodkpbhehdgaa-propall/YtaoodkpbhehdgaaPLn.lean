/- The document's Find; prop.All; the sides of a name. -/
import Derived.Test.YtaoodkpbhehdgaaPSl
namespace Go.Proofs.Ytaoodkpbhehdgaa
open Go.RowKit
set_option maxRecDepth 100000

theorem fnd_cases (name : ByteArray) : (plc name = -1 ∧ prc name = z0) ∨ ∃ (k : Nat) (p : Pr), k < 48 ∧ plc name = (k : Int) ∧ prc name = p ∧ T[k]? = some p := by
  unfold plc prc fnd
  cases h : TZ.find? (isN name) with
  | none => exact .inl ⟨rfl, rfl⟩
  | some x =>
    have hx := List.mem_of_find?_eq_some h
    obtain ⟨k, hk⟩ := List.getElem?_of_mem hx
    have hlt : k < 48 := by
      rw [← TZ_len]
      exact (List.getElem?_eq_some_iff.1 hk).1
    obtain ⟨p, hp, hp2⟩ := TZ_at k hlt
    rw [hk] at hp2
    injection hp2 with hp2
    subst hp2
    exact .inr ⟨k, p, hlt, rfl, rfl, hp⟩
theorem wpList_alloc {P : Program} {ops : Array Oper} {rest : List Oper} {o : Oper} {a : Act} {w : World} {Q : Exit → Act → World → Prop} (hg : o.guard = none) (t : TypeId) (ho : o.op = .alloc t) (d : Option Tmp) (hd : o.dst = d) (z : Array Value) (hz : ∀ w, (zeroValue t).run P w = .ok (.agg z) w)
    (h : wpList P ops Q rest (a.put d (.pointer (some ⟨w.heap.size, 0, none⟩))) (w.alloc (.cells z t))) : wpList P ops Q (o :: rest) a w := by
  subst hd
  refine wpList_plain hg fun K hK => ?_
  have hrun : ∀ ev, (execOp ev o).run P w = .ok (.value (.pointer (some ⟨w.heap.size, 0, none⟩))) (w.alloc (.cells z t)) := fun ev => by
    unfold execOp
    simp only [ho]
    simp [Instr.alloc, Sem.run_bind, Result.andThen, hz, newVar, newRow, Value.cells]
  unfold Oper.wp
  rw [hrun]
  exact hK _ _ h
set_option maxHeartbeats 2000000 in
/-- prop.All. -/
theorem all_any (w : World) : Calls Try.prog 4 #[] w fun e w' => ∃ b, e = .returned (.slice (some ⟨b, 0, none⟩) 48 48) ∧ Bx w' b 35 TC.toArray ∧ Below w.heap.size w w' := by
  obtain ⟨hz, hi⟩ := zero_of_info info49
  have hlong := long_any w
  have hone := ones_TC
  have hts : TC.toArray.size = 192 := by simp [TC_len]
  generalize TC.toArray = C at *
  generalize hZ : (List.replicate 48 [Value.string ⟨#[]⟩, .string ⟨#[]⟩, .bool false, .string ⟨#[]⟩]).flatten.toArray = Z at *
  have hZs : Z.size = 192 := by rw [← hZ]; kernel_rfl
  clear hZ
  have HZ := hid_mk hz
  have HI := hid_mk hi
  have HON := hid_mk hone
  have HTS := hid_mk hts
  have HZS := hid_mk hZs
  clear hz hi hone hts hZs
  go_enter Try.func4, Try.ntmps4
  go_wp2_with (go_at_call 10; fail)
  refine hlong.mono ?_
  rintro e w1 ⟨rfl, hw1⟩
  have hB1 : Below w.heap.size w w1 := by rw [hw1]; exact (Below.refl _ w).alloc (Nat.le_refl _) _
  clear hw1 hlong
  rename_i hk
  refine hk _ _ ?_
  clear hk
  refine wpList_alloc rfl 35 rfl _ rfl Z HZ.out ?_
  refine wpList_store_row rfl 35 _ _ rfl w1.heap.size C rfl rfl 35 Z (heap_alloc_last w1 _) (by rw [HI.out, HTS.out]) (by rw [HZS.out, HTS.out]) HON.out ?_
  rw [World.setRow_alloc_new]
  have hB2 := hB1.alloc hB1.size (.cells C 35)
  have hX2 := Bx.new w1 35 C
  generalize w1.alloc (.cells C 35) = w2 at *
  go_wp2
  go_ret
  exact ⟨_, rfl, hX2, hB2⟩
end Go.Proofs.Ytaoodkpbhehdgaa
