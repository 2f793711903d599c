/- trie.node's drop. -/
import Derived.Test.YtdiljkmlneeboaaGreatWalkN
import Derived.DeepKeys
import Derived.Laws.StructEq
namespace Go.Proofs.YtdiljkmlneeboaaGreat.N
open Go.RowKit
set_option maxRecDepth 100000

theorem ptr_eq1 (w : World) (d : Nat) (a : Option Addr) : (Op.equalIn (d + 1) 146 (.pointer a) (.pointer none)).run Tryz.prog w = .ok a.isNone w := by
  cases a <;> simp [Op.equalIn, run_underlying Tryz.underlying146]
theorem ptr_eq2 (w : World) (d : Nat) (a : Option Addr) : (Op.equalIn (d + 1) 144 (.pointer a) (.pointer none)).run Tryz.prog w = .ok a.isNone w := by
  cases a <;> simp [Op.equalIn, run_underlying Tryz.underlying144]
theorem cut2 (k : Nat → T) : ∀ i, i < 16 → (kidCells k).toArray.extract (i * 2) (i * 2 + 2) = #[(k i).bp, (k i).vp]
  | 0, _ => rfl | 1, _ => rfl | 2, _ => rfl | 3, _ => rfl | 4, _ => rfl | 5, _ => rfl | 6, _ => rfl | 7, _ => rfl
  | 8, _ => rfl | 9, _ => rfl | 10, _ => rfl | 11, _ => rfl | 12, _ => rfl | 13, _ => rfl | 14, _ => rfl | 15, _ => rfl
  | n + 16, h => absurd h (by omega)
theorem fields104 : Tryz.prog.underlying 148 = some (.struct (Tryz.prog.fieldsOf 148)) := by kernel_rfl
theorem fields107 : Tryz.prog.underlying 151 = some (.struct (Tryz.prog.fieldsOf 151)) := by kernel_rfl
theorem branch_eq (w : World) (d : Nat) (x : T) : (Op.equalIn (d + 2) 148 (.agg #[x.bp, x.vp]) (.agg #[.pointer none, .pointer none])).run Tryz.prog w = .ok x.isNil w := by
  have a1 := Tryz.isAgg146
  have a2 := Tryz.isAgg144
  have q1 := ptr_eq1
  have q2 := ptr_eq2
  rw [run_equalIn_struct w (d + 1) 148 _ _ fields104 (by kernel_rfl)]
  simp only [Program.fieldsOf, Tryz.underlying148]
  cases x with
  | nil => simp [Op.eqFields, part, a1, a2, q1, q2, T.bp, T.vp, T.isNil]
  | val b v => simp [Op.eqFields, part, a1, a2, q1, q2, T.bp, T.vp, T.isNil]
  | node b k => simp [Op.eqFields, part, a1, a2, q1, q2, T.bp, T.vp, T.isNil]
theorem items_eq (w : World) (d : Nat) (k : Nat → T) : ∀ (is : List Nat), (∀ i ∈ is, i < 16) → (Op.eqItems (d + 2) 148 2 (kidCells k).toArray (kidCells fun _ => T.nil).toArray is).run Tryz.prog w = .ok (is.all fun i => (k i).isNil) w
  | [], _ => by simp [Op.eqItems]
  | i :: is, h => by
    have a1 := Tryz.isAgg148
    have z1 := Tryz.sizeOf148
    have c1 := cut2 k i (h i (by simp))
    have c2 : (kidCells fun _ => T.nil).toArray.extract (i * 2) (i * 2 + 2) = #[.pointer none, .pointer none] := cut2 (fun _ => T.nil) i (h i (by simp))
    have ih := items_eq w d k is (fun j hj => h j (by simp [hj]))
    have hb := branch_eq w d (k i)
    simp only [Op.eqItems, part, Sem.run_bind, a1, z1, Result.andThen_ok, if_true, Sem.run_pure, c1, c2, hb, List.all_cons]
    cases (k i).isNil
    · simp
    · simp [ih]
theorem arr_eq (w : World) (k : Nat → T) : (Op.equalIn 9999 149 (.agg (List.take 32 (kidCells k)).toArray) (.agg #[.pointer none, .pointer none, .pointer none, .pointer none, .pointer none, .pointer none, .pointer none, .pointer none, .pointer none, .pointer none, .pointer none, .pointer none, .pointer none, .pointer none, .pointer none, .pointer none, .pointer none, .pointer none, .pointer none, .pointer none, .pointer none, .pointer none, .pointer none, .pointer none, .pointer none, .pointer none, .pointer none, .pointer none, .pointer none, .pointer none, .pointer none, .pointer none])).run Tryz.prog w = .ok (noKids k) w := by
  obtain ⟨j, hj⟩ : ∃ j, Tryz.prog.info? 148 = some j := by
    have h := info104
    cases hj : Tryz.prog.info? 148 with
    | none => rw [hj] at h; cases h
    | some j => exact ⟨j, rfl⟩
  have e1 : List.take 32 (kidCells k) = kidCells k := List.take_of_length_le (by rw [kidCells_len]; exact Nat.le_refl _)
  have hit : (Op.eqItems 9998 148 2 (kidCells k).toArray (kidCells fun _ => T.nil).toArray (List.range 16)).run Tryz.prog w = .ok (noKids k) w := items_eq w 9996 k (List.range 16) (fun i hi => List.mem_range.1 hi)
  have h1 := run_equalIn_array w 9998 (kidCells k).toArray (kidCells fun _ => T.nil).toArray Tryz.underlying149 hj
  rw [show Tryz.prog.cellsOf 148 = 2 by kernel_rfl, hit] at h1
  rw [e1]
  exact h1
theorem left_facts {w w1 w2 : World} (hB1 : Below (w.alloc (.cells #[.pointer none, .pointer none] 148)).heap.size (w.alloc (.cells #[.pointer none, .pointer none] 148)) w1) (hB2 : Below w1.heap.size w1 w2) :
    w2.cell? ⟨w.heap.size, 0, none⟩ = some (.pointer none) ∧ w2.cell? ⟨w.heap.size, 1, none⟩ = some (.pointer none) ∧ w2.frozen? ⟨w.heap.size, 0, none⟩ = false ∧ (∀ v t, Held (151, 76) w2 t → Held (151, 76) (w2.setCell ⟨w.heap.size, 0, none⟩ v) t) ∧ ∀ v, Below w.heap.size w (w2.setCell ⟨w.heap.size, 0, none⟩ v) := by
  have h0 := heap_alloc_last w (.cells #[.pointer none, .pointer none] 148)
  have hb0 : Below w.heap.size w (w.alloc (.cells #[.pointer none, .pointer none] 148)) := (Below.refl _ w).alloc (Nat.le_refl _) _
  have h1 := (hB1.block w.heap.size (by simp)).trans h0
  have h2 := (hB2.block w.heap.size (Array.getElem?_eq_some_iff.1 h1).1).trans h1
  have hB : Below w.heap.size w w2 := hb0.trans ((hB1.trans (hB2.mono hB1.size)).mono hb0.size)
  exact ⟨by rw [cell_of_row _ _ _ _ _ _ h2]; rfl, by rw [cell_of_row _ _ _ _ _ _ h2]; rfl, by simp [World.frozen?, h2], fun v t ht => Held.set h2 (by decide) (by decide) v ht, fun v => hB.setCell (p := ⟨w.heap.size, 0, none⟩) (Nat.le_refl _) _⟩
theorem drop_vp {lo L n : Nat} {t t' : T} (h : DropT lo L t n t') : t'.vp = .pointer none := by
  rcases h.kind with rfl | ⟨b, k, rfl⟩ <;> rfl
set_option maxHeartbeats 1000000 in
theorem drop_any (n : Nat) : ∀ (L : Nat), L ≤ 4 → ∀ (t : T) (w : World), Held (151, 76) w t → Calls Tryz.prog 92 #[t.bp, .int .i64 n, .int .i64 ((4 * L : Nat) : Int)] w fun e w' =>
    ∃ t', e = .returned t'.bp ∧ Held (151, 76) w' t' ∧ DropT w.heap.size L t n t' ∧ Below w.heap.size w w' := by
  intro L
  induction L with
  | zero =>
    intro hL t w ht
    have hpart : ∀ w', Calls Tryz.prog 123 #[.int .i64 n, .int .i64 0] w' fun e w'' => e = .returned (.int .i64 (prt n 0)) ∧ w'' = w' := fun w' => part_any n 0 (by omega) w'
    have HPT := hid_mk hpart
    have HWI : Hid (∀ w', Below w.heap.size w w' → _) := fun w' hw' => with_any ht w' hw' (prt n 0) (prt_lt _ _) (x := .nil)
    have HT := hid_mk ht
    clear ht hpart
    have hal : ∀ o, Below w.heap.size w (w.alloc o) := fun o => (Below.refl _ w).alloc (Nat.le_refl _) o
    obtain ⟨P0, hP0⟩ : ∃ P0, P0 = t.bp := ⟨_, rfl⟩
    rw [← hP0] at HWI
    rw [← hP0]
    clear hP0
    have heq := fun w => arr_eq w (t.upd (prt n 0) .nil)
    have HNK := hid_mk (noKids_iff (t.upd (prt n 0) .nil))
    obtain ⟨K, hK⟩ : ∃ K, K = kidCells (t.upd (prt n 0) .nil) := ⟨_, rfl⟩
    obtain ⟨bb, hbb⟩ : ∃ bb, bb = noKids (t.upd (prt n 0) .nil) := ⟨_, rfl⟩
    have hKl := kidCells_len (t.upd (prt n 0) .nil)
    rw [← hK, ← hbb] at heq
    rw [← hK] at hKl
    rw [← hbb] at HNK
    have HK := hid_mk hK
    clear hK hbb
    show Calls Tryz.prog 92 #[P0, .int .i64 n, .int .i64 0] w _
    cases bb with
    | true =>
      go_enter Tryz.func92, Tryz.ntmps92
      go_wp2_with (first | (go_at_call 123; refine (HPT.out _).mono ?_; rintro e w1 ⟨rfl, rfl⟩) | (go_at_call 125; refine (HWI.out _ (hal _)).mono ?_; rintro e w1 ⟨b1, rfl, hb1, hc1, hB1⟩; rw [← HK.out] at hc1; have HC1 := hid_mk hc1; clear hc1) | (refine wpList_load_mid rfl 151 (.tmp 29) rfl b1 0 rfl K _ (fun j v hv => by rw [Nat.zero_add, cell_of_row _ _ _ _ _ _ HC1.out]; simpa using hv) Tryz.underlying151 rfl (by rw [hKl]; exact info107) ?_))
      go_ret
      have hb0 := (hal (.cells #[.pointer none, .pointer none] 148))
      exact ⟨.nil, rfl, trivial, ⟨b1, Nat.le_trans hb0.size hb1, .inl ⟨HNK.out.1 (by first | rfl | trivial), rfl⟩⟩, hb0.trans (hB1.mono hb0.size)⟩
    | false =>
      go_enter Tryz.func92, Tryz.ntmps92
      go_wp2_with (first | (go_at_call 123; refine (HPT.out _).mono ?_; rintro e w1 ⟨rfl, rfl⟩) | (go_at_call 125; refine (HWI.out _ (hal _)).mono ?_; rintro e w1 ⟨b1, rfl, hb1, hc1, hB1⟩; rw [← HK.out] at hc1; have HC1 := hid_mk hc1; clear hc1) | (refine wpList_load_mid rfl 151 (.tmp 29) rfl b1 0 rfl K _ (fun j v hv => by rw [Nat.zero_add, cell_of_row _ _ _ _ _ _ HC1.out]; simpa using hv) Tryz.underlying151 rfl (by rw [hKl]; exact info107) ?_))
      go_ret
      have hb0 := (hal (.cells #[.pointer none, .pointer none] 148))
      have hB01 := hb0.trans (hB1.mono hb0.size)
      exact ⟨.node b1 (t.upd (prt n 0) .nil), rfl, ⟨by rw [← HK.out]; exact HC1.out, Held.upd (HT.out.keep hB01) (x := .nil) trivial _⟩, ⟨b1, Nat.le_trans hb0.size hb1, .inr ⟨not_noKids HNK.out, rfl⟩⟩, hB01⟩
  | succ L ih =>
    intro hL t w ht
    have hpart := fun w' => part_any n (L + 1) (by omega) w'
    have HPT := hid_mk hpart
    have HAT : Hid (∀ w', Below w.heap.size w w' → _) := fun w' hw' => at_any ht w' hw' (prt n (L + 1)) (prt_lt _ _)
    have HWI : Hid (∀ w' x, Below w.heap.size w w' → _) := fun w' x hw' => with_any ht w' hw' (prt n (L + 1)) (prt_lt _ _) (x := x)
    have HIH := hid_mk (ih (by omega))
    have HT := hid_mk ht
    have hf0 := fld0
    clear ht hpart ih
    have hal : ∀ o, Below w.heap.size w (w.alloc o) := fun o => (Below.refl _ w).alloc (Nat.le_refl _) o
    obtain ⟨P0, hP0⟩ : ∃ P0, P0 = t.bp := ⟨_, rfl⟩
    rw [← hP0] at HWI HAT
    rw [← hP0]
    clear hP0
    go_enter Tryz.func92, Tryz.ntmps92
    go_wp2_with (first | (go_at_call 123; refine (HPT.out _).mono ?_; rintro e w1 ⟨rfl, rfl⟩) | (go_at_call 124; refine (HAT.out _ (hal _)).mono ?_; rintro e w1 ⟨rfl, hB1⟩) | (go_at_call 92; fail))
    rw [show ((4 : Int) * ((L : Int) + 1) - 4) = ((4 * L : Nat) : Int) by omega]
    have hb01 := (hal (.cells #[.pointer none, .pointer none] 148)).trans (hB1.mono (hal (.cells #[.pointer none, .pointer none] 148)).size)
    have HL := hid_mk hb01.size
    refine (HIH.out _ _ ((HT.out.keep hb01).kid _ (prt_lt _ _))).mono ?_
    rintro e w2 ⟨t2, rfl, hH2, hD2, hB2⟩
    obtain ⟨a2, e2⟩ := t2.bp_ptr
    obtain ⟨y0, y1, yf, hset, hB02s⟩ := left_facts hB1 hB2
    have HW2 := hid_mk (HWI.out _ t2 (hB02s (.pointer a2)))
    rw [e2, drop_vp hD2] at HW2
    rw [e2]
    have heq := fun w => arr_eq w (t.upd (prt n (L + 1)) t2)
    have HNK := hid_mk (noKids_iff (t.upd (prt n (L + 1)) t2))
    obtain ⟨K, hK⟩ : ∃ K, K = kidCells (t.upd (prt n (L + 1)) t2) := ⟨_, rfl⟩
    obtain ⟨bb, hbb⟩ : ∃ bb, bb = noKids (t.upd (prt n (L + 1)) t2) := ⟨_, rfl⟩
    have hKl := kidCells_len (t.upd (prt n (L + 1)) t2)
    rw [← hK, ← hbb] at heq
    rw [← hK] at hKl HW2
    rw [← hbb] at HNK
    have HK := hid_mk hK
    have HB := hid_mk (hB02s (.pointer a2))
    have HS2 := hid_mk (hset (.pointer a2) t2 hH2)
    clear hK hbb HWI HAT HIH hB02s hb01 hset hH2
    cases bb with
    | true =>
      go_wp2_with (first | (go_at_call 125; refine HW2.out.mono ?_; rintro e w3 ⟨b3, rfl, hb3, hc3, hB3⟩; have HC3 := hid_mk hc3; clear hc3) | (refine wpList_load_mid rfl 151 (.tmp 29) rfl b3 0 rfl K _ (fun j v hv => by rw [Nat.zero_add, cell_of_row _ _ _ _ _ _ HC3.out]; simpa using hv) Tryz.underlying151 rfl (by rw [hKl]; exact info107) ?_))
      go_ret
      exact ⟨.nil, rfl, trivial, ⟨b3, t2, Nat.le_trans HB.out.size hb3, hD2.mono HL.out, .inl ⟨HNK.out.1 (by first | rfl | trivial), rfl⟩⟩, HB.out.trans (hB3.mono HB.out.size)⟩
    | false =>
      go_wp2_with (first | (go_at_call 125; refine HW2.out.mono ?_; rintro e w3 ⟨b3, rfl, hb3, hc3, hB3⟩; have HC3 := hid_mk hc3; clear hc3) | (refine wpList_load_mid rfl 151 (.tmp 29) rfl b3 0 rfl K _ (fun j v hv => by rw [Nat.zero_add, cell_of_row _ _ _ _ _ _ HC3.out]; simpa using hv) Tryz.underlying151 rfl (by rw [hKl]; exact info107) ?_))
      go_ret
      have hB03 := HB.out.trans (hB3.mono HB.out.size)
      exact ⟨.node b3 (t.upd (prt n (L + 1)) t2), rfl, ⟨by rw [← HK.out]; exact HC3.out, Held.upd (HT.out.keep hB03) (HS2.out.keep hB3) _⟩, ⟨b3, t2, Nat.le_trans HB.out.size hb3, hD2.mono HL.out, .inr ⟨not_noKids HNK.out, rfl⟩⟩, hB03⟩

end Go.Proofs.YtdiljkmlneeboaaGreat.N
