/- prop.longhands, prop.All and the document's All: what they answer. -/
import Derived.Test.YtaoodkpbhehdgaaPTb
namespace Go.Proofs.Ytaoodkpbhehdgaa
open Go.RowKit
set_option maxRecDepth 100000

def opsOf : Option Code → Array Oper
  | some (.seq _ (.seq (.region _ ops _) _)) => ops
  | _ => #[]
def hdOf : Option Code → Array Oper
  | some (.seq (.region _ ops _) _) => ops
  | _ => #[]
noncomputable def LB : Array Oper := opsOf Try.f10.body
noncomputable def LH : Array Oper := hdOf Try.f10.body
theorem body24 : Try.f10.body = some (.seq (.region 0 LH false) (.seq (.region 1 LB false) .ret)) := by kernel_rfl
theorem one_of {l : List Oper} {g : Option (Nat × Bool)} {op : Op} {d : Option Tmp} (h : l.map (fun o => (o.guard, o.op, o.dst)) = [(g, op, d)]) : ∃ o, l = [o] ∧ o.guard = g ∧ o.op = op ∧ o.dst = d := by
  cases l with
  | nil => simp at h
  | cons o r =>
    cases r with
    | nil =>
      simp only [List.map_cons, List.map_nil, List.cons.injEq, Prod.mk.injEq, and_true] at h
      exact ⟨o, rfl, h.1, h.2.1, h.2.2⟩
    | cons o2 r => simp at h
theorem two_of {l : List Oper} {g g' : Option (Nat × Bool)} {op op' : Op} {d d' : Option Tmp} (h : l.map (fun o => (o.guard, o.op, o.dst)) = [(g, op, d), (g', op', d')]) : ∃ o o', l = [o, o'] ∧ (o.guard = g ∧ o.op = op ∧ o.dst = d) ∧ (o'.guard = g' ∧ o'.op = op' ∧ o'.dst = d') := by
  cases l with
  | nil => simp at h
  | cons o r =>
    cases r with
    | nil => simp at h
    | cons o2 r =>
      cases r with
      | nil =>
        simp only [List.map_cons, List.map_nil, List.cons.injEq, Prod.mk.injEq, and_true] at h
        exact ⟨o, o2, rfl, ⟨h.1.1, h.1.2.1, h.1.2.2⟩, h.2.1, h.2.2.1, h.2.2.2⟩
      | cons o3 r => simp at h
theorem LH_eq : LH.toList.map (fun o => (o.guard, o.op, o.dst)) = [(none, .alloc 35, some 0)] := by kernel_rfl
theorem LB_eq : (LB.toList.drop 49).map (fun o => (o.guard, o.op, o.dst)) = [(none, .store 35 (.tmp 0) (.tmp 49), none)] := by kernel_rfl
theorem info49 : (Try.prog.info? 35).map (fun i => (i.zero, i.size)) = some (some (.agg (List.replicate 48 [.string ⟨#[]⟩, .string ⟨#[]⟩, .bool false, .string ⟨#[]⟩]).flatten.toArray), 192) := by kernel_rfl
theorem under49 : Try.prog.underlying 35 = some (.array 48 28) := by kernel_rfl
def ac0 (p : Value) (n : Nat) : Act := { tmps := (p :: List.replicate (n - 1) undef).toArray, defers := [] }
def out49 (o : Option Act) : Option (Value × Value × List Deferred) := o.map fun a => (a.eval (.tmp 0), a.eval (.tmp 49), a.defers)
theorem bld49 (p : Value) : out49 (bld Try.prog (LB.toList.take 49) (ac0 p 50)) = some (p, .agg TC.toArray, []) := by kernel_rfl
theorem ones_TC : TC.toArray.all (·.oneCell') = true := by kernel_rfl
theorem results24 (tmps : Array Value) (w : World) (p : Addr) (h : tmps.getD 0 undef = .pointer (some p)) (v : Value) (hv : (loadVar 35 p).run Try.prog w = .ok v w) : (results Try.f10 tmps).run Try.prog w = .ok v w := by
  have h2 : tmps[0]?.getD undef = .pointer (some p) := by simpa using h
  simp only [results, show Try.f10.results = #[.cell 0 35] from by kernel_rfl]
  simp [asAddr, h2, hv]

/-- prop.longhands: the table. -/
theorem long_any (w : World) : Calls Try.prog 10 #[] w (fun e w' => e = .returned (.agg TC.toArray) ∧ w' = w.alloc (.cells TC.toArray 35)) := by
  obtain ⟨o0, hl0, hg0, ho0, hd0⟩ := one_of LH_eq
  obtain ⟨o1, hl1, hg1, ho1, hd1⟩ := one_of LB_eq
  obtain ⟨hz, hi⟩ := zero_of_info info49
  have hb := bld49 (.pointer (some ⟨w.heap.size, 0, none⟩))
  obtain ⟨a1, ha1⟩ : ∃ a1, bld Try.prog (LB.toList.take 49) (ac0 (.pointer (some ⟨w.heap.size, 0, none⟩)) 50) = some a1 := by
    cases hx : bld Try.prog (LB.toList.take 49) (ac0 (.pointer (some ⟨w.heap.size, 0, none⟩)) 50) with
    | none => rw [hx] at hb; cases hb
    | some a => exact ⟨a, rfl⟩
  rw [ha1] at hb
  simp only [out49, Option.map_some, Option.some.injEq, Prod.mk.injEq] at hb
  refine calls_of_wp Try.func10 body24 ?_
  have hn : Try.f10.ntmps = 50 := by kernel_rfl
  refine wp_seq (wp_region_list ?_)
  rw [hl0]
  generalize hZ : (List.replicate 48 [Value.string ⟨#[]⟩, .string ⟨#[]⟩, .bool false, .string ⟨#[]⟩]).flatten.toArray = Z at *
  have hZs : Z.size = 192 := by rw [← hZ]; kernel_rfl
  refine wpList_plain hg0 fun K hK => ?_
  have hrun : ∀ ev, (execOp ev o0).run Try.prog w = .ok (.value (.pointer (some ⟨w.heap.size, 0, none⟩))) (w.alloc (.cells Z 35)) := fun ev => by
    unfold execOp
    simp only [ho0]
    simp [Instr.alloc, Sem.run_bind, Result.andThen, hz, newVar, newRow, Value.cells]
  unfold Oper.wp
  rw [hrun]
  refine hK _ _ (wpList_nil ?_)
  show Code.wp _ _ _ _ _
  rw [hd0]
  have hac : (Act.put { tmps := #[] ++ Array.replicate (Try.f10.ntmps - (#[] : Array Value).size) undef, defers := [] } (some 0) (Value.pointer (some ⟨w.heap.size, 0, none⟩))) = ac0 (.pointer (some ⟨w.heap.size, 0, none⟩)) 50 := by
    rw [hn]; rfl
  rw [hac]
  refine wp_seq (wp_region_list ?_)
  rw [← List.take_append_drop 49 LB.toList, hl1]
  refine wpList_bld _ _ _ ha1 ?_
  refine wpList_store_row hg1 35 _ _ ho1 w.heap.size TC.toArray hb.1 hb.2.1 35 Z (heap_alloc_last w _) (by rw [hi]; simp [TC_len]) (by simp [hZs, TC_len]) ones_TC ?_
  rw [World.setRow_alloc_new, hd1]
  refine wpList_nil ?_
  show Code.wp _ _ _ _ _
  refine wp_ret ?_
  refine bodyPost_ret (v := .agg TC.toArray) (results24 _ _ ⟨w.heap.size, 0, none⟩ ?_ _ ?_) hb.2.2 ⟨rfl, rfl⟩
  · exact hb.1
  · exact run_loadVar_new w 35 TC.toArray 48 28 under49 (by rw [hi]; simp [TC_len])

end Go.Proofs.Ytaoodkpbhehdgaa
