/- The changes: closures over boxes. -/
import Derived.Test.YtdiljkmlneeboaaGreatGivN
import Derived.Laws.EntriesVeiled
namespace Go.Proofs.YtdiljkmlneeboaaGreat.N
open Go.RowKit
set_option maxRecDepth 100000

theorem box_last (W : World) (k : Nat) (hk : W.heap.size = k) (o : Obj) : (W.alloc o).heap[k]? = some o := by
  subst hk
  exact heap_alloc_last W _
theorem box_keep (W : World) (k : Nat) (o o' : Obj) (h : W.heap[k]? = some o') : (W.alloc o).heap[k]? = some o' :=
  (Below.heap_alloc W o k (Array.getElem?_eq_some_iff.1 h).1).trans h
theorem box_cell {W : World} {k : Nat} {id : Int} (h : W.heap[k]? = some (.cells #[.int .i64 id, .nilFunc] 98 (0, 0))) : W.cell? ⟨k, 1, none⟩ = some .nilFunc ∧ W.frozen? ⟨k, 1, none⟩ = false := by
  constructor <;> simp [World.cell?, World.frozen?, h]
theorem chg_cell {W : World} {k : Nat} {id : Int} {fv : Value} (h : W.heap[k]? = some (.cells #[.int .i64 id, fv] 98 (0, 0))) : W.cell? ⟨k, 0, none⟩ = some (.int .i64 id) ∧ W.cell? ⟨k, 1, none⟩ = some fv ∧ k < W.heap.size := by
  refine ⟨?_, ?_, (Array.getElem?_eq_some_iff.1 h).1⟩ <;> simp [World.cell?, h]
theorem one_cell {W : World} {k : Nat} {t : TypeId} {v : Value} (h : W.heap[k]? = some (.cells #[v] t (0, 0))) : W.cell? ⟨k, 0, none⟩ = some v := by
  simp [World.cell?, h]
set_option maxHeartbeats 400000 in
theorem begins_any (w : World) (id : Int) (tag : ByteArray) (p : Int) : Calls Tryz.prog 51 #[.int .i64 id, .string tag, .int .i64 p] w fun e w' => e = .returned (.agg #[.int .i64 id, .func (Fn.func 85) #[] #[.pointer (some ⟨w.heap.size, 0, none⟩), .pointer (some ⟨w.heap.size + 1, 0, none⟩), .pointer (some ⟨w.heap.size + 1 + 1, 0, none⟩)]]) ∧ (w'.cell? ⟨w.heap.size, 0, none⟩ = some (.int .i64 id) ∧ w'.cell? ⟨w.heap.size + 1, 0, none⟩ = some (.string tag) ∧ w'.cell? ⟨w.heap.size + 1 + 1, 0, none⟩ = some (.int .i64 p)) ∧ w.heap.size + 1 + 1 + 1 < w'.heap.size ∧ Below w.heap.size w w' := by
  obtain ⟨q1, q2⟩ := box_cell (box_last (((w.alloc (.cells #[.int .i64 id] 3)).alloc (.cells #[.string tag] 9)).alloc (.cells #[.int .i64 p] 3)) (w.heap.size + 1 + 1 + 1) (by simp) (.cells #[.int .i64 id, .nilFunc] 98))
  have hF := box_last (((w.alloc (.cells #[.int .i64 id] 3)).alloc (.cells #[.string tag] 9)).alloc (.cells #[.int .i64 p] 3)) (w.heap.size + 1 + 1 + 1) (by simp) (.cells #[.int .i64 id, .func (Fn.func 85) #[] #[.pointer (some ⟨w.heap.size, 0, none⟩), .pointer (some ⟨w.heap.size + 1, 0, none⟩), .pointer (some ⟨w.heap.size + 1 + 1, 0, none⟩)]] 98)
  have r0 := one_cell (box_keep _ _ (.cells #[.int .i64 id, .func (Fn.func 85) #[] #[.pointer (some ⟨w.heap.size, 0, none⟩), .pointer (some ⟨w.heap.size + 1, 0, none⟩), .pointer (some ⟨w.heap.size + 1 + 1, 0, none⟩)]] 98) _ (box_keep _ _ (.cells #[.int .i64 p] 3) _ (box_keep _ _ (.cells #[.string tag] 9) _ (box_last w (w.heap.size) (by simp) (.cells #[.int .i64 id] 3)))))
  have r1 := one_cell (box_keep _ _ (.cells #[.int .i64 id, .func (Fn.func 85) #[] #[.pointer (some ⟨w.heap.size, 0, none⟩), .pointer (some ⟨w.heap.size + 1, 0, none⟩), .pointer (some ⟨w.heap.size + 1 + 1, 0, none⟩)]] 98) _ (box_keep _ _ (.cells #[.int .i64 p] 3) _ (box_last (w.alloc (.cells #[.int .i64 id] 3)) (w.heap.size + 1) (by simp) (.cells #[.string tag] 9))))
  have r2 := one_cell (box_keep _ _ (.cells #[.int .i64 id, .func (Fn.func 85) #[] #[.pointer (some ⟨w.heap.size, 0, none⟩), .pointer (some ⟨w.heap.size + 1, 0, none⟩), .pointer (some ⟨w.heap.size + 1 + 1, 0, none⟩)]] 98) _ (box_last ((w.alloc (.cells #[.int .i64 id] 3)).alloc (.cells #[.string tag] 9)) (w.heap.size + 1 + 1) (by simp) (.cells #[.int .i64 p] 3)))
  have hB : Below w.heap.size w ((((w.alloc (.cells #[.int .i64 id] 3)).alloc (.cells #[.string tag] 9)).alloc (.cells #[.int .i64 p] 3)).alloc (.cells #[.int .i64 id, .func (Fn.func 85) #[] #[.pointer (some ⟨w.heap.size, 0, none⟩), .pointer (some ⟨w.heap.size + 1, 0, none⟩), .pointer (some ⟨w.heap.size + 1 + 1, 0, none⟩)]] 98)) := ((((Below.refl w.heap.size w).alloc (by simp) _).alloc (by simp <;> omega) _).alloc (by simp <;> omega) _).alloc (by simp <;> omega) _
  have HF := hid_mk hF
  have HB := hid_mk hB
  have HR0 := hid_mk r0
  have HR1 := hid_mk r1
  have HR2 := hid_mk r2
  clear hF hB r0 r1 r2
  go_enter Tryz.func51, Tryz.ntmps51
  go_wp2
  obtain ⟨y0, y1, hl⟩ := chg_cell HF.out
  exact bodyPost_ret (v := .agg #[.int .i64 id, .func (Fn.func 85) #[] #[.pointer (some ⟨w.heap.size, 0, none⟩), .pointer (some ⟨w.heap.size + 1, 0, none⟩), .pointer (some ⟨w.heap.size + 1 + 1, 0, none⟩)]]) (by simp [results, Tryz.results51, go_sem]) rfl ⟨rfl, ⟨HR0.out, HR1.out, HR2.out⟩, hl, HB.out⟩
set_option maxHeartbeats 400000 in
theorem takes_any (w : World) (id : Int) (kid : Int) (i : Int) : Calls Tryz.prog 53 #[.int .i64 id, .int .i64 kid, .int .i64 i] w fun e w' => e = .returned (.agg #[.int .i64 id, .func (Fn.func 87) #[] #[.pointer (some ⟨w.heap.size + 1, 0, none⟩), .pointer (some ⟨w.heap.size, 0, none⟩)]]) ∧ (w'.cell? ⟨w.heap.size, 0, none⟩ = some (.int .i64 kid) ∧ w'.cell? ⟨w.heap.size + 1, 0, none⟩ = some (.int .i64 i)) ∧ w.heap.size + 1 + 1 < w'.heap.size ∧ Below w.heap.size w w' := by
  obtain ⟨q1, q2⟩ := box_cell (box_last ((w.alloc (.cells #[.int .i64 kid] 3)).alloc (.cells #[.int .i64 i] 3)) (w.heap.size + 1 + 1) (by simp) (.cells #[.int .i64 id, .nilFunc] 98))
  have hF := box_last ((w.alloc (.cells #[.int .i64 kid] 3)).alloc (.cells #[.int .i64 i] 3)) (w.heap.size + 1 + 1) (by simp) (.cells #[.int .i64 id, .func (Fn.func 87) #[] #[.pointer (some ⟨w.heap.size + 1, 0, none⟩), .pointer (some ⟨w.heap.size, 0, none⟩)]] 98)
  have r0 := one_cell (box_keep _ _ (.cells #[.int .i64 id, .func (Fn.func 87) #[] #[.pointer (some ⟨w.heap.size + 1, 0, none⟩), .pointer (some ⟨w.heap.size, 0, none⟩)]] 98) _ (box_keep _ _ (.cells #[.int .i64 i] 3) _ (box_last w (w.heap.size) (by simp) (.cells #[.int .i64 kid] 3))))
  have r1 := one_cell (box_keep _ _ (.cells #[.int .i64 id, .func (Fn.func 87) #[] #[.pointer (some ⟨w.heap.size + 1, 0, none⟩), .pointer (some ⟨w.heap.size, 0, none⟩)]] 98) _ (box_last (w.alloc (.cells #[.int .i64 kid] 3)) (w.heap.size + 1) (by simp) (.cells #[.int .i64 i] 3)))
  have hB : Below w.heap.size w (((w.alloc (.cells #[.int .i64 kid] 3)).alloc (.cells #[.int .i64 i] 3)).alloc (.cells #[.int .i64 id, .func (Fn.func 87) #[] #[.pointer (some ⟨w.heap.size + 1, 0, none⟩), .pointer (some ⟨w.heap.size, 0, none⟩)]] 98)) := (((Below.refl w.heap.size w).alloc (by simp) _).alloc (by simp <;> omega) _).alloc (by simp <;> omega) _
  have HF := hid_mk hF
  have HB := hid_mk hB
  have HR0 := hid_mk r0
  have HR1 := hid_mk r1
  clear hF hB r0 r1
  go_enter Tryz.func53, Tryz.ntmps53
  go_wp2
  obtain ⟨y0, y1, hl⟩ := chg_cell HF.out
  exact bodyPost_ret (v := .agg #[.int .i64 id, .func (Fn.func 87) #[] #[.pointer (some ⟨w.heap.size + 1, 0, none⟩), .pointer (some ⟨w.heap.size, 0, none⟩)]]) (by simp [results, Tryz.results53, go_sem]) rfl ⟨rfl, ⟨HR0.out, HR1.out⟩, hl, HB.out⟩
set_option maxHeartbeats 400000 in
theorem gives_any (w : World) (id : Int) (kid : Int) : Calls Tryz.prog 55 #[.int .i64 id, .int .i64 kid] w fun e w' => e = .returned (.agg #[.int .i64 id, .func (Fn.func 89) #[] #[.pointer (some ⟨w.heap.size, 0, none⟩)]]) ∧ (w'.cell? ⟨w.heap.size, 0, none⟩ = some (.int .i64 kid)) ∧ w.heap.size + 1 < w'.heap.size ∧ Below w.heap.size w w' := by
  obtain ⟨q1, q2⟩ := box_cell (box_last (w.alloc (.cells #[.int .i64 kid] 3)) (w.heap.size + 1) (by simp) (.cells #[.int .i64 id, .nilFunc] 98))
  have hF := box_last (w.alloc (.cells #[.int .i64 kid] 3)) (w.heap.size + 1) (by simp) (.cells #[.int .i64 id, .func (Fn.func 89) #[] #[.pointer (some ⟨w.heap.size, 0, none⟩)]] 98)
  have r0 := one_cell (box_keep _ _ (.cells #[.int .i64 id, .func (Fn.func 89) #[] #[.pointer (some ⟨w.heap.size, 0, none⟩)]] 98) _ (box_last w (w.heap.size) (by simp) (.cells #[.int .i64 kid] 3)))
  have hB : Below w.heap.size w ((w.alloc (.cells #[.int .i64 kid] 3)).alloc (.cells #[.int .i64 id, .func (Fn.func 89) #[] #[.pointer (some ⟨w.heap.size, 0, none⟩)]] 98)) := ((Below.refl w.heap.size w).alloc (by simp) _).alloc (by simp <;> omega) _
  have HF := hid_mk hF
  have HB := hid_mk hB
  have HR0 := hid_mk r0
  clear hF hB r0
  go_enter Tryz.func55, Tryz.ntmps55
  go_wp2
  obtain ⟨y0, y1, hl⟩ := chg_cell HF.out
  exact bodyPost_ret (v := .agg #[.int .i64 id, .func (Fn.func 89) #[] #[.pointer (some ⟨w.heap.size, 0, none⟩)]]) (by simp [results, Tryz.results55, go_sem]) rfl ⟨rfl, HR0.out, hl, HB.out⟩
set_option maxHeartbeats 400000 in
theorem stands_any (w : World) (id : Int) (p : Int) : Calls Tryz.prog 59 #[.int .i64 id, .int .i64 p] w fun e w' => e = .returned (.agg #[.int .i64 id, .func (Fn.func 95) #[] #[.pointer (some ⟨w.heap.size, 0, none⟩)]]) ∧ (w'.cell? ⟨w.heap.size, 0, none⟩ = some (.int .i64 p)) ∧ w.heap.size + 1 < w'.heap.size ∧ Below w.heap.size w w' := by
  obtain ⟨q1, q2⟩ := box_cell (box_last (w.alloc (.cells #[.int .i64 p] 3)) (w.heap.size + 1) (by simp) (.cells #[.int .i64 id, .nilFunc] 98))
  have hF := box_last (w.alloc (.cells #[.int .i64 p] 3)) (w.heap.size + 1) (by simp) (.cells #[.int .i64 id, .func (Fn.func 95) #[] #[.pointer (some ⟨w.heap.size, 0, none⟩)]] 98)
  have r0 := one_cell (box_keep _ _ (.cells #[.int .i64 id, .func (Fn.func 95) #[] #[.pointer (some ⟨w.heap.size, 0, none⟩)]] 98) _ (box_last w (w.heap.size) (by simp) (.cells #[.int .i64 p] 3)))
  have hB : Below w.heap.size w ((w.alloc (.cells #[.int .i64 p] 3)).alloc (.cells #[.int .i64 id, .func (Fn.func 95) #[] #[.pointer (some ⟨w.heap.size, 0, none⟩)]] 98)) := ((Below.refl w.heap.size w).alloc (by simp) _).alloc (by simp <;> omega) _
  have HF := hid_mk hF
  have HB := hid_mk hB
  have HR0 := hid_mk r0
  clear hF hB r0
  go_enter Tryz.func59, Tryz.ntmps59
  go_wp2
  obtain ⟨y0, y1, hl⟩ := chg_cell HF.out
  exact bodyPost_ret (v := .agg #[.int .i64 id, .func (Fn.func 95) #[] #[.pointer (some ⟨w.heap.size, 0, none⟩)]]) (by simp [results, Tryz.results59, go_sem]) rfl ⟨rfl, HR0.out, hl, HB.out⟩

end Go.Proofs.YtdiljkmlneeboaaGreat.N
