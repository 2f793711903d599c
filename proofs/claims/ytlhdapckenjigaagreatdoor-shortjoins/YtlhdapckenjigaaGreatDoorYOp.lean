/- Values that came in as an argument. -/
import Derived.Test.YtlhdapckenjigaaGreatDoorYValuesV
import Derived.ProofKit
import Derived.OpenShut
namespace Go.Proofs.YtlhdapckenjigaaGreatDoor.Y
open Go.RowKit
open Go.Proofs.YtlhdapckenjigaaGreatDoor.L (T5 V VsAt t5Cells vCells cell_of_heap)
set_option maxRecDepth 100000

theorem cells_each {w : World} {base n : Nat} {a : Addr} {cs : List Value} (h : w.cells? base a n = some cs) : base ≤ a.block ∧ cs.length = n ∧ ∀ i, i < n → w.cell? (a.add i) = cs[i]? := by
  unfold World.cells? at h
  split at h
  · rename_i hb
    refine ⟨hb, ?_, fun i hi => ?_⟩
    · have := mapM_some_length h
      simpa using this
    · exact mapM_some_get h i i (by simp [hi])
  · cases h
theorem add_none (b off j : Nat) : (⟨b, off, none⟩ : Addr).add j = ⟨b, off + j, none⟩ := by unfold Addr.add; split <;> simp_all
theorem c3 : Tryz.prog.cellsOf 3 = 1 := by kernel_rfl
theorem c4 : Tryz.prog.cellsOf 4 = 1 := by kernel_rfl
theorem c9 : Tryz.prog.cellsOf 9 = 1 := by kernel_rfl
theorem c44 : Tryz.prog.cellsOf 55 = 5 := by kernel_rfl
theorem head_of {a b : Value} (h : [a] = [b]) : a = b := by simpa using h
set_option maxRecDepth 100000 in
/-- What a token that came in holds. -/
theorem trod_tok {H : Type} {enc : TypeId × Value → H} {W : World} {base fuel : Nat} {sp : Nat → Bool} {held : Bool} {cs : List Value} {x : DataW H × List MemPlace}
    (hf : DataW.trod enc Tryz.prog W base sp held fuel 55 cs = some x) (hcl : cs.length = 5) : ∃ t : T5, cs = t5Cells t ∧ x.1 = .agg [.lit (.int .i64 t.k), .lit (.string t.tx.data.toList), .lit (.string t.un.data.toList), .lit (.bool t.wh), .lit (.bool t.fl)] := by
  obtain ⟨y0, y1, y2, y3, y4, rfl⟩ : ∃ y0 y1 y2 y3 y4, cs = [y0, y1, y2, y3, y4] := by
    match cs, hcl with
    | [a, b, c, d, e], _ => exact ⟨a, b, c, d, e, rfl⟩
  obtain ⟨xs, n, rfl, hx, hl, hxl, hel⟩ := DataW.trod_struct Tryz.underlying55 hf
  have h0 := hel 0 _ rfl
  have h1 := hel 1 _ rfl
  have h2 := hel 2 _ rfl
  have h3 := hel 3 _ rfl
  have h4 := hel 4 _ rfl
  have hxl3 : xs.length = 5 := hxl
  obtain ⟨x0, x1, x2, x3, x4, rfl⟩ : ∃ x0 x1 x2 x3 x4, xs = [x0, x1, x2, x3, x4] := by
    match xs, hxl3 with
    | [a, b, c, d, e], _ => exact ⟨a, b, c, d, e, rfl⟩
  obtain ⟨k, a0, b0, _⟩ := DataW.trod_int Tryz.underlying3 h0
  obtain ⟨s1, a1, b1, m1⟩ := DataW.trod_string Tryz.underlying9 h1
  obtain ⟨s2, a2, b2, m2⟩ := DataW.trod_string Tryz.underlying9 h2
  obtain ⟨d3, a3, b3⟩ := DataW.trod_bool Tryz.underlying4 h3
  obtain ⟨d4, a4, b4⟩ := DataW.trod_bool Tryz.underlying4 h4
  refine ⟨⟨k, s1, s2, d3, d4⟩, ?_, ?_⟩
  rotate_left
  · have hx1 : x.1 = DataW.agg ([x0, x1, x2, x3, x4].map (·.1)) := congrArg Prod.fst hx
    rw [hx1, b0, b1, b2, b3, b4]
    rfl
  have e0 : y0 = .int .i64 k := head_of (by rw [← a0]; show _ = List.take (Tryz.prog.cellsOf 3) _; rw [c3]; rfl)
  have e1 : y1 = .string s1 := head_of (by rw [← a1]; show _ = List.take (Tryz.prog.cellsOf 9) _; rw [c9]; rfl)
  have e2 : y2 = .string s2 := head_of (by rw [← a2]; show _ = List.take (Tryz.prog.cellsOf 9) _; rw [c9]; rfl)
  have e3 : y3 = .bool d3 := head_of (by rw [← a3]; show _ = List.take (Tryz.prog.cellsOf 4) _; rw [c4]; rfl)
  have e4 : y4 = .bool d4 := head_of (by rw [← a4]; show _ = List.take (Tryz.prog.cellsOf 4) _; rw [c4]; rfl)
  rw [e0, e1, e2, e3, e4]
  rfl
mutual
/-- How many values there are, with those within. -/
def countV : V → Nat
  | .mk _ ks => 1 + countL ks
def countL : List V → Nat
  | [] => 0
  | v :: r => countV v + countL r
end
theorem countL_append (a b : List V) : countL (a ++ b) = countL a + countL b := by
  induction a with
  | nil => simp [countL]
  | cons x r ih => rw [List.cons_append, countL, countL, ih, Nat.add_assoc]
theorem count_len (vs : List V) : vs.length ≤ countL vs := by
  induction vs with
  | nil => simp
  | cons x r ih =>
    rw [countL, List.length_cons]
    cases x
    rw [countV]
    omega
theorem c25 : Tryz.prog.cellsOf 24 = 1 := by kernel_rfl
theorem c46 : Tryz.prog.cellsOf 57 = 6 := by kernel_rfl
theorem bulk_one {H : Type} (d : DataW H) : 1 ≤ Rows.uptoBulk d := by
  cases d with
  | lit l => cases l <;> simp [Rows.uptoBulk]
  | nil => simp [Rows.uptoBulk]
  | ptr d => simp [Rows.uptoBulk]
  | slice elems spare => simp [Rows.uptoBulk]
  | agg parts => simp [Rows.uptoBulk]
  | iface t d => simp [Rows.uptoBulk]
  | map entries => simp [Rows.uptoBulk]
  | held h => simp [Rows.uptoBulk]
theorem bulk_append {H : Type} (l r : List (DataW H)) : Rows.uptoBulkAll (l ++ r) = Rows.uptoBulkAll l + Rows.uptoBulkAll r := by
  induction l with
  | nil => simp [Rows.uptoBulkAll]
  | cons x l ih => simp only [List.cons_append, Rows.uptoBulkAll, ih]; omega
theorem bulk_part {H : Type} {d : DataW H} {l : List (DataW H)} (h : d ∈ l) : Rows.uptoBulk d ≤ Rows.uptoBulkAll l := by
  induction l with
  | nil => cases h
  | cons x r ih =>
    simp only [Rows.uptoBulkAll]
    cases List.mem_cons.1 h with
    | inl e => subst e; omega
    | inr e => have := ih e; omega
theorem count_sum {H : Type} (F : Nat → V) (L : List (DataW H)) (h : ∀ i (hi : i < L.length), countV (F i) ≤ Rows.uptoBulk (L[i]'hi)) : ∀ j, j ≤ L.length → countL ((List.range j).map F) ≤ Rows.uptoBulkAll (L.take j)
  | 0, _ => by simp [countL]
  | j + 1, hj => by
    have h1 := count_sum F L h j (by omega)
    have h2 := h j (by omega)
    rw [List.range_succ, List.map_append, countL_append, List.take_succ_eq_append_getElem (by omega), bulk_append]
    simp only [List.map_cons, List.map_nil, countL, Rows.uptoBulkAll]
    omega
set_option maxRecDepth 100000 in
/-- What a token that came in holds, and its bulk. -/
theorem bulk_tok {H : Type} {enc : TypeId × Value → H} {W : World} {base fuel : Nat} {sp : Nat → Bool} {held : Bool} {t : T5} {x : DataW H × List MemPlace}
    (hf : DataW.trod enc Tryz.prog W base sp held fuel 55 (t5Cells t) = some x) : t.tx.size ≤ Rows.uptoBulk x.1 ∧ t.un.size ≤ Rows.uptoBulk x.1 := by
  obtain ⟨k, tx, un, wh, fl⟩ := t
  obtain ⟨xs, n, rfl, hx, hl, hxl, hel⟩ := DataW.trod_struct Tryz.underlying55 hf
  have h1 := hel 1 _ rfl
  have h2 := hel 2 _ rfl
  have hxl5 : xs.length = 5 := hxl
  obtain ⟨x0, x1, x2, x3, x4, rfl⟩ : ∃ x0 x1 x2 x3 x4, xs = [x0, x1, x2, x3, x4] := by
    match xs, hxl5 with
    | [a, b, c, d, e], _ => exact ⟨a, b, c, d, e, rfl⟩
  obtain ⟨tx', a1, b1, m1⟩ := DataW.trod_string Tryz.underlying9 h1
  have e1 : Value.string tx = .string tx' := head_of (by rw [← a1]; show _ = List.take (Tryz.prog.cellsOf 9) _; rw [c9]; rfl)
  cases e1
  obtain ⟨un', a2, b2, m2⟩ := DataW.trod_string Tryz.underlying9 h2
  have e2 : Value.string un = .string un' := head_of (by rw [← a2]; show _ = List.take (Tryz.prog.cellsOf 9) _; rw [c9]; rfl)
  cases e2
  have q2 : x2.1 = .lit (.string un.data.toList) := by rw [b2]
  have hp2 : Rows.uptoBulk x2.1 ≤ Rows.uptoBulkAll ([x0, x1, x2, x3, x4].map (·.1)) := bulk_part (by simp)
  rw [q2] at hp2
  have hs2 : Rows.uptoBulk (DataW.lit (H := H) (.string un.data.toList)) = un.data.toList.length + 1 := by simp [Rows.uptoBulk]
  have ee2 : un.data.toList.length = un.size := by rw [Array.length_toList]; rfl
  rw [hs2, ee2] at hp2
  have hx1 : x.1 = DataW.agg ([x0, x1, x2, x3, x4].map (·.1)) := congrArg Prod.fst hx
  have q1 : x1.1 = .lit (.string tx.data.toList) := by rw [b1]
  rw [hx1]
  have hp : Rows.uptoBulk x1.1 ≤ Rows.uptoBulkAll ([x0, x1, x2, x3, x4].map (·.1)) := bulk_part (by simp)
  rw [q1] at hp
  have hs : Rows.uptoBulk (DataW.lit (H := H) (.string tx.data.toList)) = tx.data.toList.length + 1 := by simp [Rows.uptoBulk]
  have e : tx.data.toList.length = tx.size := by rw [Array.length_toList]; rfl
  rw [hs, e] at hp
  simp only [Rows.uptoBulk]
  show tx.size ≤ _ ∧ un.size ≤ _
  omega
set_option maxRecDepth 100000 in
/-- What a value that came in holds, and its bulk. -/
theorem bulk_val {H : Type} {enc : TypeId × Value → H} {W : World} {base fuel : Nat} {sp : Nat → Bool} {held : Bool} {cs : List Value} {x : DataW H × List MemPlace}
    (hf : DataW.trod enc Tryz.prog W base sp held fuel 57 cs = some x) : ∃ (t : T5) (kid : Value) (m : Nat) (z : DataW H × List MemPlace), cs = vCells t kid ∧ m < fuel ∧ DataW.trod enc Tryz.prog W base sp held m 24 [kid] = some z ∧ Rows.uptoBulk z.1 + 1 ≤ Rows.uptoBulk x.1 ∧ (t.tx.size ≤ Rows.uptoBulk x.1 ∧ t.un.size ≤ Rows.uptoBulk x.1) ∧ x.1 = .agg [.agg [.lit (.int .i64 t.k), .lit (.string t.tx.data.toList), .lit (.string t.un.data.toList), .lit (.bool t.wh), .lit (.bool t.fl)], z.1] := by
  obtain ⟨xs, n, rfl, hx, hl, hxl, hel⟩ := DataW.trod_struct Tryz.underlying57 hf
  have h0 := hel 0 _ rfl
  have h1 := hel 1 _ rfl
  have hxl2 : xs.length = 2 := hxl
  obtain ⟨x0, x1, rfl⟩ : ∃ x0 x1, xs = [x0, x1] := by
    match xs, hxl2 with
    | [a, b], _ => exact ⟨a, b, rfl⟩
  rw [c46] at hl
  obtain ⟨y0, y1, y2, y3, y4, kid, rfl⟩ : ∃ y0 y1 y2 y3 y4 y5, cs = [y0, y1, y2, y3, y4, y5] := by
    match cs, hl with
    | [a, b, c, d, e, f], _ => exact ⟨a, b, c, d, e, f, rfl⟩
  have h0' : DataW.trod enc Tryz.prog W base sp held n 55 [y0, y1, y2, y3, y4] = some x0 := by
    have e : List.take (Tryz.prog.cellsOf 55) (List.drop 0 [y0, y1, y2, y3, y4, kid]) = [y0, y1, y2, y3, y4] := by rw [c44]; rfl
    rw [← e]
    exact h0
  have h1' : DataW.trod enc Tryz.prog W base sp held n 24 [kid] = some x1 := by
    have e : List.take (Tryz.prog.cellsOf 24) (List.drop 5 [y0, y1, y2, y3, y4, kid]) = [kid] := by rw [c25]; rfl
    rw [← e]
    exact h1
  obtain ⟨t, ht, htd⟩ := trod_tok h0' rfl
  have hb := bulk_tok (t := t) (by rw [← ht]; exact h0')
  have hx1 : x.1 = DataW.agg ([x0, x1].map (·.1)) := congrArg Prod.fst hx
  have hbx : Rows.uptoBulk x.1 = Rows.uptoBulk x0.1 + Rows.uptoBulk x1.1 + 1 := by
    rw [hx1]
    simp only [Rows.uptoBulk, List.map, Rows.uptoBulkAll]
    omega
  refine ⟨t, kid, n, x1, ?_, by omega, h1', by omega, by omega, by rw [hx1, List.map_cons, List.map_cons, htd]; rfl⟩
  have : [y0, y1, y2, y3, y4] ++ [kid] = t5Cells t ++ [kid] := by rw [ht]
  exact this
/-- What values that came in are: a tree, not more than its bulk. -/
theorem open_vals {H : Type} {enc : TypeId × Value → H} {W : World} {base : Nat} {sp : Nat → Bool} {held : Bool} (fuel : Nat) : ∀ (v : Value) (x : DataW H × List MemPlace), DataW.trod enc Tryz.prog W base sp held fuel 24 [v] = some x →
    ∃ vs, VsAt (fun _ => True) W v vs ∧ countL vs ≤ Rows.uptoBulk x.1 ∧ ∀ y ∈ vs, y.tok.tx.size ≤ Rows.uptoBulk x.1 ∧ y.tok.un.size ≤ Rows.uptoBulk x.1 := by
  induction fuel using Nat.strongRecOn with
  | _ fuel ih =>
    intro v x hf
    rcases DataW.trod_slice Tryz.underlying24 hf with ⟨hcs, _⟩ | ⟨a, len, cap, elems, rest, n, rfl, hcs, hx, hb, hl, hcap, hel, hget, _⟩
    · have e := head_of hcs
      subst e
      exact ⟨[], VsAt.nil _ _, by simp [countL], fun y hy => by cases hy⟩
    · have hx1 : x.1 = DataW.slice (elems.map (·.1)) (rest.map (·.1)) := congrArg Prod.fst hx
      have hle : elems.length = len := by omega
      have key : ∀ i (hi : i < len), ∃ q : T5 × Value × List V, (∀ j, j < 6 → W.cell? ((a.add (i * 6)).add j) = (vCells q.1 q.2.1)[j]?) ∧ VsAt (fun _ => True) W q.2.1 q.2.2 ∧ countV (mkV q) ≤ Rows.uptoBulk (elems[i]'(by omega)).1 ∧ (q.1.tx.size ≤ Rows.uptoBulk (elems[i]'(by omega)).1 ∧ q.1.un.size ≤ Rows.uptoBulk (elems[i]'(by omega)).1) := by
        intro i hi
        have h1 := hget i hi
        rw [c46] at h1
        have h2 : elems[i]? = some (elems[i]'(by omega)) := List.getElem?_eq_getElem (by omega)
        rw [h2, Option.bind_eq_some_iff] at h1
        obtain ⟨cs, hc, ht⟩ := h1
        obtain ⟨_, _, hce⟩ := cells_each hc
        obtain ⟨t, kid, m, z, rfl, hm, hz, hb1, hb2, -⟩ := bulk_val ht
        obtain ⟨ks, hk1, hk2, _⟩ := ih m (by omega) kid z hz
        refine ⟨(t, kid, ks), hce, hk1, ?_, hb2⟩
        show countV (V.mk t ks) ≤ _
        rw [countV]
        omega
      obtain ⟨f, hfi⟩ : ∃ f : Nat → T5 × Value × List V, ∀ i (hi : i < len), (∀ j, j < 6 → W.cell? ((a.add (i * 6)).add j) = (vCells (f i).1 (f i).2.1)[j]?) ∧ VsAt (fun _ => True) W (f i).2.1 (f i).2.2 ∧ countV (mkV (f i)) ≤ Rows.uptoBulk (elems[i]'(by omega)).1 ∧ ((f i).1.tx.size ≤ Rows.uptoBulk (elems[i]'(by omega)).1 ∧ (f i).1.un.size ≤ Rows.uptoBulk (elems[i]'(by omega)).1) := by
        refine ⟨fun i => if h : i < len then (key i h).choose else (⟨0, ⟨#[]⟩, ⟨#[]⟩, false, false⟩, .slice none 0 0, []), fun i hi => ?_⟩
        simp only [hi, dif_pos]
        exact (key i hi).choose_spec
      have hll : ((List.range len).map fun i => mkV (f i)).length = len := by simp
      have hbk : Rows.uptoBulkAll (elems.map (·.1)) ≤ Rows.uptoBulk x.1 := by
        rw [hx1]
        simp only [Rows.uptoBulk]
        omega
      refine ⟨(List.range len).map fun i => mkV (f i), ?_, ?_, ?_⟩
      · have e := head_of hcs
        subst e
        obtain ⟨b, off, spot⟩ := a
        have hsp : 0 < len → spot = none ∧ b < W.heap.size := fun h0 => by
          have hc' : W.cell? ((⟨b, off, spot⟩ : Addr).add (0 * 6) |>.add 0) = some (.int .i64 (f 0).1.k) := (hfi 0 h0).1 0 (by omega)
          have hspot : spot = none := by simpa [Addr.add] using World.cell?_spot hc'
          subst hspot
          have := World.block_lt_of_cell? W _ hc'
          exact ⟨rfl, by simpa [add_none] using this⟩
        have hmk := VsAt.mk (P := fun _ => True) (W := W) (some ⟨b, off, spot⟩) cap ((List.range len).map fun i => mkV (f i)) b off (fun i => (f i).2.1) (by rw [hll]; exact hl) (Nat.le_trans hcap (by decide))
          (fun h0 => by
            rw [hll] at h0
            obtain ⟨h1, h2⟩ := hsp h0
            subst h1
            exact ⟨rfl, h2, trivial⟩)
          (fun i hi j y hy => by
            rw [hll] at hi
            obtain ⟨h1, _⟩ := hsp (by omega)
            subst h1
            have e : ((List.range len).map fun i => mkV (f i))[i]'(by rw [hll]; exact hi) = mkV (f i) := by simp
            rw [e] at hy
            have hj : j < 6 := by
              have := (List.getElem?_eq_some_iff.1 hy).1
              simpa [vCells] using this
            have h1 := (hfi i hi).1 j hj
            rw [add_none, add_none] at h1
            rw [h1]
            exact hy)
          (fun i hi => by
            rw [hll] at hi
            have e : ((List.range len).map fun i => mkV (f i))[i]'(by rw [hll]; exact hi) = mkV (f i) := by simp
            rw [e]
            exact (hfi i hi).2.1)
        rw [hll] at hmk
        exact hmk
      · have h := count_sum (fun i => mkV (f i)) (elems.map (·.1)) (fun i hi => by
          rw [List.length_map] at hi
          rw [List.getElem_map]
          exact (hfi i (by omega)).2.2.1) len (by rw [List.length_map]; omega)
        rw [List.take_of_length_le (by rw [List.length_map]; omega)] at h
        omega
      · intro y hy
        obtain ⟨i, hi, rfl⟩ := List.mem_map.1 hy
        have hi' := List.mem_range.1 hi
        have h1 := (hfi i hi').2.2.2
        have h2 := bulk_part (d := (elems[i]'(by omega)).1) (l := elems.map (·.1)) (List.mem_map.2 ⟨_, List.getElem_mem _, rfl⟩)
        show (f i).1.tx.size ≤ _ ∧ (f i).1.un.size ≤ _
        omega

/-- Trees that are not too great. -/
theorem most_of : ∀ (n : Nat) (vs : List V), countL vs ≤ n → n ≤ 1000000000 → V.most vs
  | n, vs, h, hn => by
    refine .mk vs (by have := count_len vs; omega) fun x hx => ?_
    have h1 : countV x ≤ countL vs := by
      obtain ⟨a, b, e⟩ := List.append_of_mem hx
      rw [e, countL_append, countL]
      omega
    have h2 : countV x = 1 + countL x.kids := by cases x; rfl
    exact most_of (countL x.kids) x.kids (Nat.le_refl _) (by omega)
  termination_by n => n
  decreasing_by omega
theorem b32 : Tryz.prog.bytesOf 57 = 72 := by kernel_rfl
theorem all_part {H : Type} {e : TypeId} {L : List (DataW H)} (h : (DataW.weightsAll Tryz.prog e L).all (· ≤ reachBytes) = true) : ∀ d ∈ L, (d.weights Tryz.prog e).all (· ≤ reachBytes) = true := by
  induction L with
  | nil => intro d hd; cases hd
  | cons x r ih =>
    intro d hd
    simp only [DataW.weightsAll, List.all_append, Bool.and_eq_true] at h
    rcases List.mem_cons.1 hd with rfl | hd
    · exact h.1
    · exact ih h.2 d hd
theorem val_weights {H : Type} {z : DataW H} {t : T5} (h : ((DataW.agg [.agg [.lit (.int .i64 t.k), .lit (.string t.tx.data.toList), .lit (.string t.un.data.toList), .lit (.bool t.wh), .lit (.bool t.fl)], z] : DataW H).weights Tryz.prog 57).all (· ≤ reachBytes) = true) : (t.tx.size ≤ 140737488351232 ∧ t.un.size ≤ 140737488351232) ∧ (z.weights Tryz.prog 24).all (· ≤ reachBytes) = true := by
  have hr : reachBytes = 140737488351232 := rfl
  simp only [DataW.weightsEach, DataW.weights, Tryz.underlying57, Tryz.underlying55, List.all_append, Bool.and_eq_true, List.map, List.nil_append, List.append_nil, List.all_cons, List.all_nil, decide_eq_true_eq] at h
  have e1 : t.tx.data.toList.length = t.tx.size := rfl
  have e2 : t.un.data.toList.length = t.un.size := rfl
  obtain ⟨h1, h2⟩ := h
  refine ⟨?_, by simpa using h2⟩
  rw [hr] at h1
  omega
/-- What values that came in are: each list, and each text, within the reach. -/
theorem open_reach {H : Type} {enc : TypeId × Value → H} {W : World} {base : Nat} {sp : Nat → Bool} {held : Bool} (fuel : Nat) : ∀ (v : Value) (x : DataW H × List MemPlace), DataW.trod enc Tryz.prog W base sp held fuel 24 [v] = some x → (x.1.weights Tryz.prog 24).all (· ≤ reachBytes) = true →
    ∃ vs, VsAt (fun _ => True) W v vs ∧ V.most vs ∧ ∀ y ∈ vs, y.tok.tx.size ≤ 140737488351232 ∧ y.tok.un.size ≤ 140737488351232 := by
  induction fuel using Nat.strongRecOn with
  | _ fuel ih =>
    intro v x hf hM
    rcases DataW.trod_slice Tryz.underlying24 hf with ⟨hcs, _⟩ | ⟨a, len, cap, elems, rest, n, rfl, hcs, hx, hb, hl, hcap, hel, hget, _⟩
    · have e := head_of hcs
      subst e
      exact ⟨[], VsAt.nil _ _, .mk [] (by decide) (fun y hy => by cases hy), fun y hy => by cases hy⟩
    · have hx1 : x.1 = DataW.slice (elems.map (·.1)) (rest.map (·.1)) := congrArg Prod.fst hx
      have hle : elems.length = len := by omega
      rw [hx1] at hM
      simp only [DataW.weights, Tryz.underlying24, List.all_cons, List.all_append, Bool.and_eq_true, decide_eq_true_eq, b32, List.length_map] at hM
      have hlen : len ≤ 1954687338211 := by
        have h1 := hM.1
        have hr : reachBytes = 140737488351232 := rfl
        rw [hr, hle] at h1
        omega
      have hel2 : ∀ i (hi : i < len), ((elems[i]'(by omega)).1.weights Tryz.prog 57).all (· ≤ reachBytes) = true := fun i hi => all_part hM.2.1 _ (List.mem_map.2 ⟨_, List.getElem_mem _, rfl⟩)
      have key : ∀ i (hi : i < len), ∃ q : T5 × Value × List V, (∀ j, j < 6 → W.cell? ((a.add (i * 6)).add j) = (vCells q.1 q.2.1)[j]?) ∧ VsAt (fun _ => True) W q.2.1 q.2.2 ∧ V.most q.2.2 ∧ q.1.tx.size ≤ 140737488351232 ∧ q.1.un.size ≤ 140737488351232 := by
        intro i hi
        have h1 := hget i hi
        rw [c46] at h1
        have h2 : elems[i]? = some (elems[i]'(by omega)) := List.getElem?_eq_getElem (by omega)
        rw [h2, Option.bind_eq_some_iff] at h1
        obtain ⟨cs, hc, ht⟩ := h1
        obtain ⟨_, _, hce⟩ := cells_each hc
        obtain ⟨t, kid, m, z, rfl, hm, hz, hb1, hb2, hsh⟩ := bulk_val ht
        have hwi := hel2 i hi
        rw [hsh] at hwi
        obtain ⟨w1, w2⟩ := val_weights hwi
        obtain ⟨ks, hk1, hk2, _⟩ := ih m (by omega) kid z hz w2
        exact ⟨(t, kid, ks), hce, hk1, hk2, w1⟩
      obtain ⟨f, hfi⟩ : ∃ f : Nat → T5 × Value × List V, ∀ i (hi : i < len), (∀ j, j < 6 → W.cell? ((a.add (i * 6)).add j) = (vCells (f i).1 (f i).2.1)[j]?) ∧ VsAt (fun _ => True) W (f i).2.1 (f i).2.2 ∧ V.most (f i).2.2 ∧ (f i).1.tx.size ≤ 140737488351232 ∧ (f i).1.un.size ≤ 140737488351232 := by
        refine ⟨fun i => if h : i < len then (key i h).choose else (⟨0, ⟨#[]⟩, ⟨#[]⟩, false, false⟩, .slice none 0 0, []), fun i hi => ?_⟩
        simp only [hi, dif_pos]
        exact (key i hi).choose_spec
      have hll : ((List.range len).map fun i => mkV (f i)).length = len := by simp
      refine ⟨(List.range len).map fun i => mkV (f i), ?_, .mk _ (by rw [hll]; exact hlen) (fun y hy => ?_), fun y hy => ?_⟩
      · have e := head_of hcs
        subst e
        obtain ⟨b, off, spot⟩ := a
        have hsp : 0 < len → spot = none ∧ b < W.heap.size := fun h0 => by
          have hc' : W.cell? ((⟨b, off, spot⟩ : Addr).add (0 * 6) |>.add 0) = some (.int .i64 (f 0).1.k) := (hfi 0 h0).1 0 (by omega)
          have hspot : spot = none := by simpa [Addr.add] using World.cell?_spot hc'
          subst hspot
          have := World.block_lt_of_cell? W _ hc'
          exact ⟨rfl, by simpa [add_none] using this⟩
        have hmk := VsAt.mk (P := fun _ => True) (W := W) (some ⟨b, off, spot⟩) cap ((List.range len).map fun i => mkV (f i)) b off (fun i => (f i).2.1) (by rw [hll]; exact hl) (Nat.le_trans hcap (by decide))
          (fun h0 => by
            rw [hll] at h0
            obtain ⟨h1, h2⟩ := hsp h0
            subst h1
            exact ⟨rfl, h2, trivial⟩)
          (fun i hi j y hy => by
            rw [hll] at hi
            obtain ⟨h1, _⟩ := hsp (by omega)
            subst h1
            have e : ((List.range len).map fun i => mkV (f i))[i]'(by rw [hll]; exact hi) = mkV (f i) := by simp
            rw [e] at hy
            have hj : j < 6 := by
              have := (List.getElem?_eq_some_iff.1 hy).1
              simpa [vCells] using this
            have h1 := (hfi i hi).1 j hj
            rw [add_none, add_none] at h1
            rw [h1]
            exact hy)
          (fun i hi => by
            rw [hll] at hi
            have e : ((List.range len).map fun i => mkV (f i))[i]'(by rw [hll]; exact hi) = mkV (f i) := by simp
            rw [e]
            exact (hfi i hi).2.1)
        rw [hll] at hmk
        exact hmk
      · obtain ⟨i, hi, rfl⟩ := List.mem_map.1 hy
        exact (hfi i (List.mem_range.1 hi)).2.2.1
      · obtain ⟨i, hi, rfl⟩ := List.mem_map.1 hy
        exact (hfi i (List.mem_range.1 hi)).2.2.2
end Go.Proofs.YtlhdapckenjigaaGreatDoor.Y
