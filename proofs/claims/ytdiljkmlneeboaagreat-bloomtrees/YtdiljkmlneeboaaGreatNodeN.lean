/- trie.node's at and with. -/
import Derived.Test.YtdiljkmlneeboaaGreatParts
namespace Go.Proofs.YtdiljkmlneeboaaGreat.N
open Go.RowKit
set_option maxRecDepth 100000

theorem info105 : (Tryz.prog.info? 149).map (·.size) = some 32 := by kernel_rfl
theorem info104 : (Tryz.prog.info? 148).map (·.size) = some 2 := by kernel_rfl
theorem info107 : (Tryz.prog.info? 151).map (·.size) = some 32 := by kernel_rfl
set_option maxHeartbeats 400000 in
theorem at_any {W0 : World} {t : T} (h : Held (151, 76) W0 t) (w : World) (hw : Below W0.heap.size W0 w) (p : Nat) (hp : p < 16) : Calls Tryz.prog 124 #[t.bp, .int .i64 p] w fun e w' =>
    e = .returned (.agg #[(t.kid p).bp, (t.kid p).vp]) ∧ Below w.heap.size w w' := by
  have HH := hid_mk (Held.keep hw h)
  clear h hw
  have hal : ∀ o, Below w.heap.size w (w.alloc o) := fun o => (Below.refl _ w).alloc (Nat.le_refl _) o
  by_cases hk : ∀ b k, t ≠ .node b k
  · obtain ⟨e1, e2⟩ := T.bp_nil hk
    rw [e1, e2]
    go_enter Tryz.func124, Tryz.ntmps124
    go_wp2
    refine bodyPost_ret (v := .agg #[.pointer none, .pointer none]) (by simp [results, Tryz.results124, go_sem]) rfl ⟨rfl, hal _⟩
  · obtain ⟨b, k, rfl⟩ : ∃ b k, t = .node b k := by
      cases t with
      | nil => exact absurd (fun b k => by simp) hk
      | val b v => exact absurd (fun b k => by simp) hk
      | node b k => exact ⟨b, k, rfl⟩
    have hb := HH.out.1
    have c0 : w.cell? ⟨b, p * 2, none⟩ = some (k p).bp := by
      rw [cell_of_row _ _ _ _ _ _ hb]
      have := kidCells_at k (p * 2) (by omega)
      rw [if_pos (by omega), show p * 2 / 2 = p by omega] at this
      simpa using this
    have c1 : w.cell? ⟨b, p * 2 + 1, none⟩ = some (k p).vp := by
      rw [cell_of_row _ _ _ _ _ _ hb]
      have := kidCells_at k (p * 2 + 1) (by omega)
      rw [if_neg (by omega), show (p * 2 + 1) / 2 = p by omega] at this
      simpa using this
    have hlt := (Array.getElem?_eq_some_iff.1 hb).1
    have d0 : ∀ o, (w.alloc o).cell? ⟨b, p * 2, none⟩ = some (k p).bp := fun o => ((hal o).cell (p := ⟨b, p * 2, none⟩) hlt).trans c0
    have d1 : ∀ o, (w.alloc o).cell? ⟨b, p * 2 + 1, none⟩ = some (k p).vp := fun o => ((hal o).cell (p := ⟨b, p * 2 + 1, none⟩) hlt).trans c1
    clear hb c0 c1 hlt
    obtain ⟨a0, e0⟩ := (k p).bp_ptr
    obtain ⟨a1, e1⟩ := (k p).vp_ptr
    show Calls Tryz.prog 124 #[.pointer (some ⟨b, 0, none⟩), .int .i64 p] w fun e w' => e = .returned (.agg #[(k p).bp, (k p).vp]) ∧ Below w.heap.size w w'
    rw [e0] at d0 ⊢
    rw [e1] at d1 ⊢
    go_enter Tryz.func124, Tryz.ntmps124
    go_wp2
    refine bodyPost_ret (v := .agg #[.pointer a0, .pointer a1]) (by simp [results, Tryz.results124, go_sem]) rfl ⟨rfl, hal _⟩

set_option maxHeartbeats 800000 in
theorem with_any {W0 : World} {t x : T} (h : Held (151, 76) W0 t) (w : World) (hw : Below W0.heap.size W0 w) (p : Nat) (hp : p < 16) : Calls Tryz.prog 125 #[t.bp, .int .i64 p, .agg #[x.bp, x.vp]] w fun e w' =>
    ∃ b, e = .returned (.pointer (some ⟨b, 0, none⟩)) ∧ w.heap.size ≤ b ∧ w'.heap[b]? = some (.cells (kidCells (t.upd p x)).toArray 151 (0, 0)) ∧ Below w.heap.size w w' := by
  have HH := hid_mk (Held.keep hw h)
  clear h hw
  obtain ⟨a0, e0⟩ := x.bp_ptr
  obtain ⟨a1, e1⟩ := x.vp_ptr
  have HX : Hid (∃ W2, W2 = (w.alloc (.cells #[.pointer a0, .pointer a1] 148)).alloc (.cells (kidCells t.kid).toArray 149) ∧ Below w.heap.size w W2 ∧ W2.heap.size = w.heap.size + 2 ∧ W2.cell? ⟨w.heap.size, 0, none⟩ = some (.pointer a0) ∧ W2.cell? ⟨w.heap.size, 1, none⟩ = some (.pointer a1) ∧ W2.there (w.heap.size + 1) (p * 2) 2 ∧ (W2.setCells (w.heap.size + 1) (p * 2) [.pointer a0, .pointer a1]).rangeAt (w.heap.size + 1) 0 (kidCells (t.upd p x)) ∧ Below w.heap.size w (W2.setCells (w.heap.size + 1) (p * 2) [.pointer a0, .pointer a1]) ∧ (W2.setCells (w.heap.size + 1) (p * 2) [.pointer a0, .pointer a1]).heap.size = w.heap.size + 2) := by
    refine ⟨_, rfl, ?_⟩
    have hs1 : (w.alloc (.cells #[.pointer a0, .pointer a1] 148)).heap.size = w.heap.size + 1 := by simp
    have hnew := heap_alloc_last (w.alloc (.cells #[.pointer a0, .pointer a1] 148)) (.cells (kidCells t.kid).toArray 149)
    rw [hs1] at hnew
    have hfst : ((w.alloc (.cells #[.pointer a0, .pointer a1] 148)).alloc (.cells (kidCells t.kid).toArray 149)).heap[w.heap.size]? = some (.cells #[.pointer a0, .pointer a1] 148) := by
      rw [Below.heap_alloc _ _ _ (by rw [hs1]; omega)]
      exact heap_alloc_last w _
    have hB : Below w.heap.size w ((w.alloc (.cells #[.pointer a0, .pointer a1] 148)).alloc (.cells (kidCells t.kid).toArray 149)) := ((Below.refl _ w).alloc (Nat.le_refl _) _).alloc (by rw [hs1]; omega) _
    have hsz : ((w.alloc (.cells #[.pointer a0, .pointer a1] 148)).alloc (.cells (kidCells t.kid).toArray 149)).heap.size = w.heap.size + 2 := by simp
    generalize (w.alloc (.cells #[.pointer a0, .pointer a1] 148)).alloc (.cells (kidCells t.kid).toArray 149) = W2 at *
    have hra : W2.rangeAt (w.heap.size + 1) 0 (kidCells t.kid) := fun j v hv => by
      rw [Nat.zero_add, cell_of_row _ _ _ _ _ _ hnew]
      simpa using hv
    have hth : W2.there (w.heap.size + 1) (p * 2) 2 := fun j hj => by
      refine ⟨?_, ?_⟩
      · have := hra.isSome (p * 2 + j) (by rw [kidCells_len]; omega)
        rwa [Nat.zero_add] at this
      · simp [World.frozen?, hnew]
    have hu := cells_upd (x := x) (kidCells_at t.kid) (kidCells_len _) hra p hp
    rw [e0, e1] at hu
    have hB3 : Below w.heap.size w (W2.setCells (w.heap.size + 1) (p * 2) [.pointer a0, .pointer a1]) := by
      simp only [World.setCells]
      exact (hB.setCell (p := ⟨w.heap.size + 1, p * 2, none⟩) (by show w.heap.size ≤ w.heap.size + 1; omega) _).setCell (p := ⟨w.heap.size + 1, p * 2 + 1, none⟩) (by show w.heap.size ≤ w.heap.size + 1; omega) _
    refine ⟨hB, hsz, ?_, ?_, hth, hu, hB3, ?_⟩
    · rw [cell_of_row _ _ _ _ _ _ hfst]; rfl
    · rw [cell_of_row _ _ _ _ _ _ hfst]; rfl
    · simp [World.setCells, hsz]
  by_cases hk : ∀ b k, t ≠ .node b k
  · obtain ⟨q1, q2⟩ := T.bp_nil hk
    have hz : (kidCells t.kid).toArray = (kidCells fun _ => T.nil).toArray := by rw [show t.kid = fun _ => T.nil from funext q2]
    rw [hz] at HX
    rw [q1, e0, e1]
    go_enter Tryz.func125, Tryz.ntmps125
    go_upto_region 4 with fail
    obtain ⟨W2, hW2, hB2, hs2, g0, g1, hth, hra, hB3, hs3⟩ := HX.out
    have hW2' := hW2.symm
    simp only [kidCells, T.bp, T.vp, List.range, List.range.loop, List.flatMap_cons, List.flatMap_nil, List.cons_append, List.nil_append, List.append_nil] at hW2'
    rw [hW2']
    obtain ⟨W3, hW3⟩ : ∃ W3, W3 = W2.setCells (w.heap.size + 1) (p * 2) [.pointer a0, .pointer a1] := ⟨_, rfl⟩
    rw [← hW3] at hra hB3 hs3
    have HW3 := hid_mk hW3.symm
    have HTH := hid_mk hth
    have HRA := hid_mk hra
    have HB3 := hid_mk hB3
    have hKl := kidCells_len (t.upd p x)
    obtain ⟨K, hK⟩ : ∃ K, K = kidCells (t.upd p x) := ⟨_, rfl⟩
    rw [← hK] at HRA hKl
    have HK := hid_mk hK
    clear hK HX hW2 hW2' hW3 hth hra hB3 hB2 hs2 HH
    go_wp2_with (first | (refine wpList_store_mid rfl 148 (.tmp 16) (.tmp 15) rfl (w.heap.size + 1) (p * 2) #[.pointer a0, .pointer a1] rfl rfl HTH.out info104 (by simp [Value.oneCell']) ?_; rw [show W2.setCells (w.heap.size + 1) (p * 2) (#[.pointer a0, .pointer a1] : Array Value).toList = W3 from HW3.out]; clear g0 g1) | refine wpList_load_mid rfl 149 (.tmp 7) rfl (w.heap.size + 1) 0 rfl K _ HRA.out Tryz.underlying149 rfl (by rw [hKl]; exact info105) ?_)
    go_ret
    refine ⟨w.heap.size + 2, rfl, by omega, by rw [fold32 K hKl, HK.out, ← hs3]; exact heap_alloc_last _ _, HB3.out.alloc (by omega) _⟩
  · obtain ⟨b, k, rfl⟩ : ∃ b k, t = .node b k := by
      cases t with
      | nil => exact absurd (fun b k => by simp) hk
      | val b v => exact absurd (fun b k => by simp) hk
      | node b k => exact ⟨b, k, rfl⟩
    have hb := HH.out.1
    have hlt := (Array.getElem?_eq_some_iff.1 hb).1
    have hcr : ∀ o o', ((w.alloc o).alloc o').rangeAt b 0 (kidCells k) := fun o o' => World.rangeAt_alloc (World.rangeAt_alloc (fun j v hv => by rw [Nat.zero_add, cell_of_row _ _ _ _ _ _ hb]; simpa using hv) _) _
    have HCR := hid_mk hcr
    clear hb hcr
    show Calls Tryz.prog 125 #[.pointer (some ⟨b, 0, none⟩), .int .i64 p, .agg #[x.bp, x.vp]] w _
    rw [e0, e1]
    have hs1 : ∀ o, (w.alloc o).heap.size = w.heap.size + 1 := fun o => by simp
    have hrow : ∀ o C C', ((w.alloc o).alloc (.cells C 149)).setRow (w.heap.size + 1) C' = (w.alloc o).alloc (.cells C' 149) := fun o C C' => by rw [← hs1 o]; exact World.setRow_alloc_new _ _ _ _
    have hlast : ∀ o o', ((w.alloc o).alloc o').heap[w.heap.size + 1]? = some o' := fun o o' => by rw [← hs1 o]; exact heap_alloc_last _ _
    go_enter Tryz.func125, Tryz.ntmps125
    go_upto_region 4 with (first | refine wpList_load_mid rfl 149 (.tmp 12) rfl b 0 rfl (kidCells k) _ (HCR.out _ _) Tryz.underlying149 rfl info105 ?_ | (refine wpList_store_row rfl 149 (.tmp 7) (.tmp 13) rfl (w.heap.size + 1) (kidCells k).toArray rfl rfl 149 _ (hlast _ _) info105 rfl (kidCells_one k) ?_; rw [hrow]))
    obtain ⟨W2, hW2, hB2, hs2, g0, g1, hth, hra, hB3, hs3⟩ := HX.out
    have hW2' : (w.alloc (.cells #[.pointer a0, .pointer a1] 148)).alloc (.cells (kidCells k).toArray 149) = W2 := hW2.symm
    rw [hW2']
    obtain ⟨W3, hW3⟩ : ∃ W3, W3 = W2.setCells (w.heap.size + 1) (p * 2) [.pointer a0, .pointer a1] := ⟨_, rfl⟩
    rw [← hW3] at hra hB3 hs3
    have HW3 := hid_mk hW3.symm
    have HTH := hid_mk hth
    have HRA := hid_mk hra
    have HB3 := hid_mk hB3
    have hKl := kidCells_len ((T.node b k).upd p x)
    obtain ⟨K, hK⟩ : ∃ K, K = kidCells ((T.node b k).upd p x) := ⟨_, rfl⟩
    rw [← hK] at HRA hKl
    have HK := hid_mk hK
    clear hK HX hW2 hW2' hW3 hth hra hB3 hB2 hs2 HH hrow hlast hs1 HCR
    go_wp2_with (first | (refine wpList_store_mid rfl 148 (.tmp 16) (.tmp 15) rfl (w.heap.size + 1) (p * 2) #[.pointer a0, .pointer a1] rfl rfl HTH.out info104 (by simp [Value.oneCell']) ?_; rw [show W2.setCells (w.heap.size + 1) (p * 2) (#[.pointer a0, .pointer a1] : Array Value).toList = W3 from HW3.out]; clear g0 g1) | refine wpList_load_mid rfl 149 (.tmp 7) rfl (w.heap.size + 1) 0 rfl K _ HRA.out Tryz.underlying149 rfl (by rw [hKl]; exact info105) ?_)
    go_ret
    refine ⟨w.heap.size + 2, rfl, by omega, by rw [fold32 K hKl, HK.out, ← hs3]; exact heap_alloc_last _ _, HB3.out.alloc (by omega) _⟩

end Go.Proofs.YtdiljkmlneeboaaGreat.N
