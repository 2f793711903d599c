/- prop.longhands, prop.All and the document's All: what they answer. -/
import Derived.Test.YtaoodkpbhehdgaaDoorPTb
namespace Go.Proofs.YtaoodkpbhehdgaaDoor
open Go.RowKit
set_option maxRecDepth 100000

def opsOf : Option Code → Array Oper
  | some (.seq _ (.seq (.region _ ops _) _)) => ops
  | _ => #[]
def hdOf : Option Code → Array Oper
  | some (.seq (.region _ ops _) _) => ops
  | _ => #[]
noncomputable def LB : Array Oper := opsOf Tryd.f24.body
noncomputable def LH : Array Oper := hdOf Tryd.f24.body
noncomputable def RB : Array Oper := opsOf Tryd.f17.body
noncomputable def RH : Array Oper := hdOf Tryd.f17.body
theorem body24 : Tryd.f24.body = some (.seq (.region 0 LH false) (.seq (.region 1 LB false) .ret)) := by kernel_rfl
theorem body17 : Tryd.f17.body = some (.seq (.region 0 RH false) (.seq (.region 1 RB false) .ret)) := by kernel_rfl
theorem one_of {l : List Oper} {g : Option (Nat × Bool)} {op : Op} {d : Option Tmp} (h : l.map (fun o => (o.guard, o.op, o.dst)) = [(g, op, d)]) : ∃ o, l = [o] ∧ o.guard = g ∧ o.op = op ∧ o.dst = d := by
  cases l with
  | nil => simp at h
  | cons o r =>
    cases r with
    | nil =>
      simp only [List.map_cons, List.map_nil, List.cons.injEq, Prod.mk.injEq, and_true] at h
      exact ⟨o, rfl, h.1, h.2.1, h.2.2⟩
    | cons o2 r => simp at h
theorem two_of {l : List Oper} {g g' : Option (Nat × Bool)} {op op' : Op} {d d' : Option Tmp} (h : l.map (fun o => (o.guard, o.op, o.dst)) = [(g, op, d), (g', op', d')]) : ∃ o o', l = [o, o'] ∧ (o.guard = g ∧ o.op = op ∧ o.dst = d) ∧ (o'.guard = g' ∧ o'.op = op' ∧ o'.dst = d') := by
  cases l with
  | nil => simp at h
  | cons o r =>
    cases r with
    | nil => simp at h
    | cons o2 r =>
      cases r with
      | nil =>
        simp only [List.map_cons, List.map_nil, List.cons.injEq, Prod.mk.injEq, and_true] at h
        exact ⟨o, o2, rfl, ⟨h.1.1, h.1.2.1, h.1.2.2⟩, h.2.1, h.2.2.1, h.2.2.2⟩
      | cons o3 r => simp at h
theorem LH_eq : LH.toList.map (fun o => (o.guard, o.op, o.dst)) = [(none, .alloc 49, some 0)] := by kernel_rfl
theorem LB_eq : (LB.toList.drop 49).map (fun o => (o.guard, o.op, o.dst)) = [(none, .store 49 (.tmp 0) (.tmp 49), none)] := by kernel_rfl
theorem RH_eq : RH.toList.map (fun o => (o.guard, o.op, o.dst)) = [(none, .assign (.const (.slice none 0 0)), some 0)] := by kernel_rfl
def parts17 : Array (Nat × Operand) := ((List.range 48).map fun i => (i, Operand.tmp (i + 1))).toArray
theorem RB_eq : (RB.toList.drop 48).map (fun o => (o.guard, o.op, o.dst)) = [(none, .buildSlice 40 48 parts17, some 49), (none, .assign (.tmp 49), some 0)] := by kernel_rfl
theorem info49 : (Tryd.prog.info? 49).map (fun i => (i.zero, i.size)) = some (some (.agg (List.replicate 48 [.string ⟨#[]⟩, .string ⟨#[]⟩, .bool false, .string ⟨#[]⟩]).flatten.toArray), 192) := by kernel_rfl
theorem under49 : Tryd.prog.underlying 49 = some (.array 48 24) := by kernel_rfl
def ac0 (p : Value) (n : Nat) : Act := { tmps := (p :: List.replicate (n - 1) undef).toArray, defers := [] }
def out49 (o : Option Act) : Option (Value × Value × List Deferred) := o.map fun a => (a.eval (.tmp 0), a.eval (.tmp 49), a.defers)
theorem bld49 (p : Value) : out49 (bld Tryd.prog (LB.toList.take 49) (ac0 p 50)) = some (p, .agg TC.toArray, []) := by kernel_rfl
theorem info27 : (Tryd.prog.info? 27).map (fun i => (i.zero, i.size)) = some (some (.agg #[.string ⟨#[]⟩, .string ⟨#[]⟩, .bool false, .string ⟨#[]⟩]), 4) := by kernel_rfl
theorem under40 : Tryd.prog.underlying 40 = some (.slice 27) := by kernel_rfl
def fill17 (a : Act) : Option (Array Value) := Instr.fill (fun i => some (i * 4, 4)) ((Array.range (48 * 4)).map ((Value.agg #[.string ⟨#[]⟩, .string ⟨#[]⟩, .bool false, .string ⟨#[]⟩]).cells[· % 4]!)) (parts17.map fun (i, x) => (i, a.eval x)).toList
theorem bld17 (p : Value) : ((bld Tryd.prog (RB.toList.take 48) (ac0 p 50)).map fun a => (fill17 a, a.defers, a.tmps.size)) = some (some TC.toArray, [], 50) := by kernel_rfl
theorem ones_TC : TC.toArray.all (·.oneCell') = true := by kernel_rfl
theorem results24 (tmps : Array Value) (w : World) (p : Addr) (h : tmps.getD 0 undef = .pointer (some p)) (v : Value) (hv : (loadVar 49 p).run Tryd.prog w = .ok v w) : (results Tryd.f24 tmps).run Tryd.prog w = .ok v w := by
  have h2 : tmps[0]?.getD undef = .pointer (some p) := by simpa using h
  simp only [results, show Tryd.f24.results = #[.cell 0 49] from by kernel_rfl]
  simp [asAddr, h2, hv]

/-- prop.longhands: the table. -/
theorem long_any (w : World) : Calls Tryd.prog 24 #[] w (fun e w' => e = .returned (.agg TC.toArray) ∧ w' = w.alloc (.cells TC.toArray 49)) := by
  obtain ⟨o0, hl0, hg0, ho0, hd0⟩ := one_of LH_eq
  obtain ⟨o1, hl1, hg1, ho1, hd1⟩ := one_of LB_eq
  obtain ⟨hz, hi⟩ := zero_of_info info49
  have hb := bld49 (.pointer (some ⟨w.heap.size, 0, none⟩))
  obtain ⟨a1, ha1⟩ : ∃ a1, bld Tryd.prog (LB.toList.take 49) (ac0 (.pointer (some ⟨w.heap.size, 0, none⟩)) 50) = some a1 := by
    cases hx : bld Tryd.prog (LB.toList.take 49) (ac0 (.pointer (some ⟨w.heap.size, 0, none⟩)) 50) with
    | none => rw [hx] at hb; cases hb
    | some a => exact ⟨a, rfl⟩
  rw [ha1] at hb
  simp only [out49, Option.map_some, Option.some.injEq, Prod.mk.injEq] at hb
  refine calls_of_wp Tryd.func24 body24 ?_
  have hn : Tryd.f24.ntmps = 50 := by kernel_rfl
  refine wp_seq (wp_region_list ?_)
  rw [hl0]
  generalize hZ : (List.replicate 48 [Value.string ⟨#[]⟩, .string ⟨#[]⟩, .bool false, .string ⟨#[]⟩]).flatten.toArray = Z at *
  have hZs : Z.size = 192 := by rw [← hZ]; kernel_rfl
  refine wpList_plain hg0 fun K hK => ?_
  have hrun : ∀ ev, (execOp ev o0).run Tryd.prog w = .ok (.value (.pointer (some ⟨w.heap.size, 0, none⟩))) (w.alloc (.cells Z 49)) := fun ev => by
    unfold execOp
    simp only [ho0]
    simp [Instr.alloc, Sem.run_bind, Result.andThen, hz, newVar, newRow, Value.cells]
  unfold Oper.wp
  rw [hrun]
  refine hK _ _ (wpList_nil ?_)
  show Code.wp _ _ _ _ _
  rw [hd0]
  have hac : (Act.put { tmps := #[] ++ Array.replicate (Tryd.f24.ntmps - (#[] : Array Value).size) undef, defers := [] } (some 0) (Value.pointer (some ⟨w.heap.size, 0, none⟩))) = ac0 (.pointer (some ⟨w.heap.size, 0, none⟩)) 50 := by
    rw [hn]; rfl
  rw [hac]
  refine wp_seq (wp_region_list ?_)
  rw [← List.take_append_drop 49 LB.toList, hl1]
  refine wpList_bld _ _ _ ha1 ?_
  refine wpList_store_row hg1 49 _ _ ho1 w.heap.size TC.toArray hb.1 hb.2.1 49 Z (heap_alloc_last w _) (by rw [hi]; simp [TC_len]) (by simp [hZs, TC_len]) ones_TC ?_
  rw [World.setRow_alloc_new, hd1]
  refine wpList_nil ?_
  show Code.wp _ _ _ _ _
  refine wp_ret ?_
  refine bodyPost_ret (v := .agg TC.toArray) (results24 _ _ ⟨w.heap.size, 0, none⟩ ?_ _ ?_) hb.2.2 ⟨rfl, rfl⟩
  · exact hb.1
  · exact run_loadVar_new w 49 TC.toArray 48 24 under49 (by rw [hi]; simp [TC_len])

/-- The document's All: the table, in a row. -/
theorem rall_any (w : World) : Calls Tryd.prog 17 #[] w (fun e w' => e = .returned (.slice (some ⟨w.heap.size, 0, none⟩) 48 48) ∧ w' = w.alloc (.cells TC.toArray 27)) := by
  obtain ⟨o0, hl0, hg0, ho0, hd0⟩ := one_of RH_eq
  obtain ⟨o1, o2, hl1, ⟨hg1, ho1, hd1⟩, hg2, ho2, hd2⟩ := two_of RB_eq
  have hb := bld17 (.slice none 0 0)
  obtain ⟨a1, ha1⟩ : ∃ a1, bld Tryd.prog (RB.toList.take 48) (ac0 (.slice none 0 0) 50) = some a1 := by
    cases hx : bld Tryd.prog (RB.toList.take 48) (ac0 (.slice none 0 0) 50) with
    | none => rw [hx] at hb; cases hb
    | some a => exact ⟨a, rfl⟩
  rw [ha1] at hb
  simp only [Option.map_some, Option.some.injEq, Prod.mk.injEq] at hb
  obtain ⟨ie, hie, hz, hs⟩ : ∃ ie, Tryd.prog.info? 27 = some ie ∧ ie.zero = some (.agg #[.string ⟨#[]⟩, .string ⟨#[]⟩, .bool false, .string ⟨#[]⟩]) ∧ ie.size = 4 := by
    have h := info27
    cases hx : Tryd.prog.info? 27 with
    | none => rw [hx] at h; cases h
    | some ie =>
      rw [hx] at h
      simp only [Option.map_some, Option.some.injEq, Prod.mk.injEq] at h
      exact ⟨ie, rfl, h.1, h.2⟩
  refine calls_of_wp Tryd.func17 body17 ?_
  have hn : Tryd.f17.ntmps = 50 := by kernel_rfl
  refine wp_seq (wp_region_list ?_)
  rw [hl0]
  refine wpList_plain hg0 fun K hK => BigFrame.wp_assign _ ho0 (hK _ _ (wpList_nil ?_))
  show Code.wp _ _ _ _ _
  rw [hd0]
  have hac : (Act.put { tmps := #[] ++ Array.replicate (Tryd.f17.ntmps - (#[] : Array Value).size) undef, defers := [] } (some 0) (Value.slice none 0 0)) = ac0 (.slice none 0 0) 50 := by
    rw [hn]; rfl
  show Code.wp _ _ _ (Act.put _ (some 0) (Value.slice none 0 0)) _
  rw [hac]
  refine wp_seq (wp_region_list ?_)
  rw [← List.take_append_drop 48 RB.toList, hl1]
  refine wpList_bld _ _ _ ha1 ?_
  refine wpList_buildSlice hg1 40 27 48 parts17 ho1 TC.toArray ie _ under40 hie hz (by rw [hs]; decide) (by rw [hs]; decide) (by rw [hs]; exact hb.1) ?_
  refine wpList_plain hg2 fun K hK => BigFrame.wp_assign _ ho2 (hK _ _ (wpList_nil ?_))
  show Code.wp _ _ _ _ _
  rw [hd1, hd2]
  refine wp_ret ?_
  refine bodyPost_ret (v := .slice (some ⟨w.heap.size, 0, none⟩) 48 48) ?_ hb.2.1 ⟨rfl, rfl⟩
  rw [results_tmp (t := 0) (by kernel_rfl)]
  have hsz := hb.2.2
  simp [Act.put, Act.eval, hsz]
end Go.Proofs.YtaoodkpbhehdgaaDoor
