/- Values that came in as an argument. Longhands of two kinds that are the same; those of declarations, all. gouachelaw16.ShortExpands: the walk. Declarations that came in. -/
import Derived.Test.YtlhdapckenjigaaGreatDoorYValuesV
import Derived.ProofKit
import Derived.OpenShut
import Derived.Test.YtlhdapckenjigaaGreatDoorSRx
import Derived.Test.YtlhdapckenjigaaGreatDoorSLv
import Derived.Test.YtlhdapckenjigaaGreatDoorZGr
namespace Go.Proofs.YtlhdapckenjigaaGreatDoor.Y
open Go.RowKit
open Go.Proofs.YtlhdapckenjigaaGreatDoor.L (T5 V VsAt t5Cells vCells cell_of_heap)
set_option maxRecDepth 100000

theorem cells_each {w : World} {base n : Nat} {a : Addr} {cs : List Value} (h : w.cells? base a n = some cs) : base ≤ a.block ∧ cs.length = n ∧ ∀ i, i < n → w.cell? (a.add i) = cs[i]? := by
  unfold World.cells? at h
  split at h
  · rename_i hb
    refine ⟨hb, ?_, fun i hi => ?_⟩
    · have := mapM_some_length h
      simpa using this
    · exact mapM_some_get h i i (by simp [hi])
  · cases h
theorem add_none (b off j : Nat) : (⟨b, off, none⟩ : Addr).add j = ⟨b, off + j, none⟩ := by unfold Addr.add; split <;> simp_all
theorem c3 : Tryz.prog.cellsOf 3 = 1 := by kernel_rfl
theorem c4 : Tryz.prog.cellsOf 4 = 1 := by kernel_rfl
theorem c9 : Tryz.prog.cellsOf 9 = 1 := by kernel_rfl
theorem c44 : Tryz.prog.cellsOf 55 = 5 := by kernel_rfl
theorem head_of {a b : Value} (h : [a] = [b]) : a = b := by simpa using h
set_option maxRecDepth 100000 in
/-- What a token that came in holds. -/
theorem trod_tok {H : Type} {enc : TypeId × Value → H} {W : World} {base fuel : Nat} {sp : Nat → Bool} {held : Bool} {cs : List Value} {x : DataW H × List MemPlace}
    (hf : DataW.trod enc Tryz.prog W base sp held fuel 55 cs = some x) (hcl : cs.length = 5) : ∃ t : T5, cs = t5Cells t ∧ x.1 = .agg [.lit (.int .i64 t.k), .lit (.string t.tx.data.toList), .lit (.string t.un.data.toList), .lit (.bool t.wh), .lit (.bool t.fl)] := by
  obtain ⟨y0, y1, y2, y3, y4, rfl⟩ : ∃ y0 y1 y2 y3 y4, cs = [y0, y1, y2, y3, y4] := by
    match cs, hcl with
    | [a, b, c, d, e], _ => exact ⟨a, b, c, d, e, rfl⟩
  obtain ⟨xs, n, rfl, hx, hl, hxl, hel⟩ := DataW.trod_struct Tryz.underlying55 hf
  have h0 := hel 0 _ rfl
  have h1 := hel 1 _ rfl
  have h2 := hel 2 _ rfl
  have h3 := hel 3 _ rfl
  have h4 := hel 4 _ rfl
  have hxl3 : xs.length = 5 := hxl
  obtain ⟨x0, x1, x2, x3, x4, rfl⟩ : ∃ x0 x1 x2 x3 x4, xs = [x0, x1, x2, x3, x4] := by
    match xs, hxl3 with
    | [a, b, c, d, e], _ => exact ⟨a, b, c, d, e, rfl⟩
  obtain ⟨k, a0, b0, _⟩ := DataW.trod_int Tryz.underlying3 h0
  obtain ⟨s1, a1, b1, m1⟩ := DataW.trod_string Tryz.underlying9 h1
  obtain ⟨s2, a2, b2, m2⟩ := DataW.trod_string Tryz.underlying9 h2
  obtain ⟨d3, a3, b3⟩ := DataW.trod_bool Tryz.underlying4 h3
  obtain ⟨d4, a4, b4⟩ := DataW.trod_bool Tryz.underlying4 h4
  refine ⟨⟨k, s1, s2, d3, d4⟩, ?_, ?_⟩
  rotate_left
  · have hx1 : x.1 = DataW.agg ([x0, x1, x2, x3, x4].map (·.1)) := congrArg Prod.fst hx
    rw [hx1, b0, b1, b2, b3, b4]
    rfl
  have e0 : y0 = .int .i64 k := head_of (by rw [← a0]; show _ = List.take (Tryz.prog.cellsOf 3) _; rw [c3]; rfl)
  have e1 : y1 = .string s1 := head_of (by rw [← a1]; show _ = List.take (Tryz.prog.cellsOf 9) _; rw [c9]; rfl)
  have e2 : y2 = .string s2 := head_of (by rw [← a2]; show _ = List.take (Tryz.prog.cellsOf 9) _; rw [c9]; rfl)
  have e3 : y3 = .bool d3 := head_of (by rw [← a3]; show _ = List.take (Tryz.prog.cellsOf 4) _; rw [c4]; rfl)
  have e4 : y4 = .bool d4 := head_of (by rw [← a4]; show _ = List.take (Tryz.prog.cellsOf 4) _; rw [c4]; rfl)
  rw [e0, e1, e2, e3, e4]
  rfl
mutual
/-- How many values there are, with those within. -/
def countV : V → Nat
  | .mk _ ks => 1 + countL ks
def countL : List V → Nat
  | [] => 0
  | v :: r => countV v + countL r
end
theorem countL_append (a b : List V) : countL (a ++ b) = countL a + countL b := by
  induction a with
  | nil => simp [countL]
  | cons x r ih => rw [List.cons_append, countL, countL, ih, Nat.add_assoc]
theorem count_len (vs : List V) : vs.length ≤ countL vs := by
  induction vs with
  | nil => simp
  | cons x r ih =>
    rw [countL, List.length_cons]
    cases x
    rw [countV]
    omega
theorem c25 : Tryz.prog.cellsOf 24 = 1 := by kernel_rfl
theorem c46 : Tryz.prog.cellsOf 57 = 6 := by kernel_rfl
theorem bulk_one {H : Type} (d : DataW H) : 1 ≤ Rows.uptoBulk d := by
  cases d with
  | lit l => cases l <;> simp [Rows.uptoBulk]
  | nil => simp [Rows.uptoBulk]
  | ptr d => simp [Rows.uptoBulk]
  | slice elems spare => simp [Rows.uptoBulk]
  | agg parts => simp [Rows.uptoBulk]
  | iface t d => simp [Rows.uptoBulk]
  | map entries => simp [Rows.uptoBulk]
  | held h => simp [Rows.uptoBulk]
theorem bulk_append {H : Type} (l r : List (DataW H)) : Rows.uptoBulkAll (l ++ r) = Rows.uptoBulkAll l + Rows.uptoBulkAll r := by
  induction l with
  | nil => simp [Rows.uptoBulkAll]
  | cons x l ih => simp only [List.cons_append, Rows.uptoBulkAll, ih]; omega
theorem bulk_part {H : Type} {d : DataW H} {l : List (DataW H)} (h : d ∈ l) : Rows.uptoBulk d ≤ Rows.uptoBulkAll l := by
  induction l with
  | nil => cases h
  | cons x r ih =>
    simp only [Rows.uptoBulkAll]
    cases List.mem_cons.1 h with
    | inl e => subst e; omega
    | inr e => have := ih e; omega
theorem count_sum {H : Type} (F : Nat → V) (L : List (DataW H)) (h : ∀ i (hi : i < L.length), countV (F i) ≤ Rows.uptoBulk (L[i]'hi)) : ∀ j, j ≤ L.length → countL ((List.range j).map F) ≤ Rows.uptoBulkAll (L.take j)
  | 0, _ => by simp [countL]
  | j + 1, hj => by
    have h1 := count_sum F L h j (by omega)
    have h2 := h j (by omega)
    rw [List.range_succ, List.map_append, countL_append, List.take_succ_eq_append_getElem (by omega), bulk_append]
    simp only [List.map_cons, List.map_nil, countL, Rows.uptoBulkAll]
    omega
set_option maxRecDepth 100000 in
/-- What a token that came in holds, and its bulk. -/
theorem bulk_tok {H : Type} {enc : TypeId × Value → H} {W : World} {base fuel : Nat} {sp : Nat → Bool} {held : Bool} {t : T5} {x : DataW H × List MemPlace}
    (hf : DataW.trod enc Tryz.prog W base sp held fuel 55 (t5Cells t) = some x) : t.tx.size ≤ Rows.uptoBulk x.1 ∧ t.un.size ≤ Rows.uptoBulk x.1 := by
  obtain ⟨k, tx, un, wh, fl⟩ := t
  obtain ⟨xs, n, rfl, hx, hl, hxl, hel⟩ := DataW.trod_struct Tryz.underlying55 hf
  have h1 := hel 1 _ rfl
  have h2 := hel 2 _ rfl
  have hxl5 : xs.length = 5 := hxl
  obtain ⟨x0, x1, x2, x3, x4, rfl⟩ : ∃ x0 x1 x2 x3 x4, xs = [x0, x1, x2, x3, x4] := by
    match xs, hxl5 with
    | [a, b, c, d, e], _ => exact ⟨a, b, c, d, e, rfl⟩
  obtain ⟨tx', a1, b1, m1⟩ := DataW.trod_string Tryz.underlying9 h1
  have e1 : Value.string tx = .string tx' := head_of (by rw [← a1]; show _ = List.take (Tryz.prog.cellsOf 9) _; rw [c9]; rfl)
  cases e1
  obtain ⟨un', a2, b2, m2⟩ := DataW.trod_string Tryz.underlying9 h2
  have e2 : Value.string un = .string un' := head_of (by rw [← a2]; show _ = List.take (Tryz.prog.cellsOf 9) _; rw [c9]; rfl)
  cases e2
  have q2 : x2.1 = .lit (.string un.data.toList) := by rw [b2]
  have hp2 : Rows.uptoBulk x2.1 ≤ Rows.uptoBulkAll ([x0, x1, x2, x3, x4].map (·.1)) := bulk_part (by simp)
  rw [q2] at hp2
  have hs2 : Rows.uptoBulk (DataW.lit (H := H) (.string un.data.toList)) = un.data.toList.length + 1 := by simp [Rows.uptoBulk]
  have ee2 : un.data.toList.length = un.size := by rw [Array.length_toList]; rfl
  rw [hs2, ee2] at hp2
  have hx1 : x.1 = DataW.agg ([x0, x1, x2, x3, x4].map (·.1)) := congrArg Prod.fst hx
  have q1 : x1.1 = .lit (.string tx.data.toList) := by rw [b1]
  rw [hx1]
  have hp : Rows.uptoBulk x1.1 ≤ Rows.uptoBulkAll ([x0, x1, x2, x3, x4].map (·.1)) := bulk_part (by simp)
  rw [q1] at hp
  have hs : Rows.uptoBulk (DataW.lit (H := H) (.string tx.data.toList)) = tx.data.toList.length + 1 := by simp [Rows.uptoBulk]
  have e : tx.data.toList.length = tx.size := by rw [Array.length_toList]; rfl
  rw [hs, e] at hp
  simp only [Rows.uptoBulk]
  show tx.size ≤ _ ∧ un.size ≤ _
  omega
set_option maxRecDepth 100000 in
/-- What a value that came in holds, and its bulk. -/
theorem bulk_val {H : Type} {enc : TypeId × Value → H} {W : World} {base fuel : Nat} {sp : Nat → Bool} {held : Bool} {cs : List Value} {x : DataW H × List MemPlace}
    (hf : DataW.trod enc Tryz.prog W base sp held fuel 57 cs = some x) : ∃ (t : T5) (kid : Value) (m : Nat) (z : DataW H × List MemPlace), cs = vCells t kid ∧ m < fuel ∧ DataW.trod enc Tryz.prog W base sp held m 24 [kid] = some z ∧ Rows.uptoBulk z.1 + 1 ≤ Rows.uptoBulk x.1 ∧ (t.tx.size ≤ Rows.uptoBulk x.1 ∧ t.un.size ≤ Rows.uptoBulk x.1) ∧ x.1 = .agg [.agg [.lit (.int .i64 t.k), .lit (.string t.tx.data.toList), .lit (.string t.un.data.toList), .lit (.bool t.wh), .lit (.bool t.fl)], z.1] := by
  obtain ⟨xs, n, rfl, hx, hl, hxl, hel⟩ := DataW.trod_struct Tryz.underlying57 hf
  have h0 := hel 0 _ rfl
  have h1 := hel 1 _ rfl
  have hxl2 : xs.length = 2 := hxl
  obtain ⟨x0, x1, rfl⟩ : ∃ x0 x1, xs = [x0, x1] := by
    match xs, hxl2 with
    | [a, b], _ => exact ⟨a, b, rfl⟩
  rw [c46] at hl
  obtain ⟨y0, y1, y2, y3, y4, kid, rfl⟩ : ∃ y0 y1 y2 y3 y4 y5, cs = [y0, y1, y2, y3, y4, y5] := by
    match cs, hl with
    | [a, b, c, d, e, f], _ => exact ⟨a, b, c, d, e, f, rfl⟩
  have h0' : DataW.trod enc Tryz.prog W base sp held n 55 [y0, y1, y2, y3, y4] = some x0 := by
    have e : List.take (Tryz.prog.cellsOf 55) (List.drop 0 [y0, y1, y2, y3, y4, kid]) = [y0, y1, y2, y3, y4] := by rw [c44]; rfl
    rw [← e]
    exact h0
  have h1' : DataW.trod enc Tryz.prog W base sp held n 24 [kid] = some x1 := by
    have e : List.take (Tryz.prog.cellsOf 24) (List.drop 5 [y0, y1, y2, y3, y4, kid]) = [kid] := by rw [c25]; rfl
    rw [← e]
    exact h1
  obtain ⟨t, ht, htd⟩ := trod_tok h0' rfl
  have hb := bulk_tok (t := t) (by rw [← ht]; exact h0')
  have hx1 : x.1 = DataW.agg ([x0, x1].map (·.1)) := congrArg Prod.fst hx
  have hbx : Rows.uptoBulk x.1 = Rows.uptoBulk x0.1 + Rows.uptoBulk x1.1 + 1 := by
    rw [hx1]
    simp only [Rows.uptoBulk, List.map, Rows.uptoBulkAll]
    omega
  refine ⟨t, kid, n, x1, ?_, by omega, h1', by omega, by omega, by rw [hx1, List.map_cons, List.map_cons, htd]; rfl⟩
  have : [y0, y1, y2, y3, y4] ++ [kid] = t5Cells t ++ [kid] := by rw [ht]
  exact this
/-- What values that came in are: a tree, not more than its bulk. -/
theorem open_vals {H : Type} {enc : TypeId × Value → H} {W : World} {base : Nat} {sp : Nat → Bool} {held : Bool} (fuel : Nat) : ∀ (v : Value) (x : DataW H × List MemPlace), DataW.trod enc Tryz.prog W base sp held fuel 24 [v] = some x →
    ∃ vs, VsAt (fun _ => True) W v vs ∧ countL vs ≤ Rows.uptoBulk x.1 ∧ ∀ y ∈ vs, y.tok.tx.size ≤ Rows.uptoBulk x.1 ∧ y.tok.un.size ≤ Rows.uptoBulk x.1 := by
  induction fuel using Nat.strongRecOn with
  | _ fuel ih =>
    intro v x hf
    rcases DataW.trod_slice Tryz.underlying24 hf with ⟨hcs, _⟩ | ⟨a, len, cap, elems, rest, n, rfl, hcs, hx, hb, hl, hcap, hel, hget, _⟩
    · have e := head_of hcs
      subst e
      exact ⟨[], VsAt.nil _ _, by simp [countL], fun y hy => by cases hy⟩
    · have hx1 : x.1 = DataW.slice (elems.map (·.1)) (rest.map (·.1)) := congrArg Prod.fst hx
      have hle : elems.length = len := by omega
      have key : ∀ i (hi : i < len), ∃ q : T5 × Value × List V, (∀ j, j < 6 → W.cell? ((a.add (i * 6)).add j) = (vCells q.1 q.2.1)[j]?) ∧ VsAt (fun _ => True) W q.2.1 q.2.2 ∧ countV (mkV q) ≤ Rows.uptoBulk (elems[i]'(by omega)).1 ∧ (q.1.tx.size ≤ Rows.uptoBulk (elems[i]'(by omega)).1 ∧ q.1.un.size ≤ Rows.uptoBulk (elems[i]'(by omega)).1) := by
        intro i hi
        have h1 := hget i hi
        rw [c46] at h1
        have h2 : elems[i]? = some (elems[i]'(by omega)) := List.getElem?_eq_getElem (by omega)
        rw [h2, Option.bind_eq_some_iff] at h1
        obtain ⟨cs, hc, ht⟩ := h1
        obtain ⟨_, _, hce⟩ := cells_each hc
        obtain ⟨t, kid, m, z, rfl, hm, hz, hb1, hb2, -⟩ := bulk_val ht
        obtain ⟨ks, hk1, hk2, _⟩ := ih m (by omega) kid z hz
        refine ⟨(t, kid, ks), hce, hk1, ?_, hb2⟩
        show countV (V.mk t ks) ≤ _
        rw [countV]
        omega
      obtain ⟨f, hfi⟩ : ∃ f : Nat → T5 × Value × List V, ∀ i (hi : i < len), (∀ j, j < 6 → W.cell? ((a.add (i * 6)).add j) = (vCells (f i).1 (f i).2.1)[j]?) ∧ VsAt (fun _ => True) W (f i).2.1 (f i).2.2 ∧ countV (mkV (f i)) ≤ Rows.uptoBulk (elems[i]'(by omega)).1 ∧ ((f i).1.tx.size ≤ Rows.uptoBulk (elems[i]'(by omega)).1 ∧ (f i).1.un.size ≤ Rows.uptoBulk (elems[i]'(by omega)).1) := by
        refine ⟨fun i => if h : i < len then (key i h).choose else (⟨0, ⟨#[]⟩, ⟨#[]⟩, false, false⟩, .slice none 0 0, []), fun i hi => ?_⟩
        simp only [hi, dif_pos]
        exact (key i hi).choose_spec
      have hll : ((List.range len).map fun i => mkV (f i)).length = len := by simp
      have hbk : Rows.uptoBulkAll (elems.map (·.1)) ≤ Rows.uptoBulk x.1 := by
        rw [hx1]
        simp only [Rows.uptoBulk]
        omega
      refine ⟨(List.range len).map fun i => mkV (f i), ?_, ?_, ?_⟩
      · have e := head_of hcs
        subst e
        obtain ⟨b, off, spot⟩ := a
        have hsp : 0 < len → spot = none ∧ b < W.heap.size := fun h0 => by
          have hc' : W.cell? ((⟨b, off, spot⟩ : Addr).add (0 * 6) |>.add 0) = some (.int .i64 (f 0).1.k) := (hfi 0 h0).1 0 (by omega)
          have hspot : spot = none := by simpa [Addr.add] using World.cell?_spot hc'
          subst hspot
          have := World.block_lt_of_cell? W _ hc'
          exact ⟨rfl, by simpa [add_none] using this⟩
        have hmk := VsAt.mk (P := fun _ => True) (W := W) (some ⟨b, off, spot⟩) cap ((List.range len).map fun i => mkV (f i)) b off (fun i => (f i).2.1) (by rw [hll]; exact hl) (Nat.le_trans hcap (by decide))
          (fun h0 => by
            rw [hll] at h0
            obtain ⟨h1, h2⟩ := hsp h0
            subst h1
            exact ⟨rfl, h2, trivial⟩)
          (fun i hi j y hy => by
            rw [hll] at hi
            obtain ⟨h1, _⟩ := hsp (by omega)
            subst h1
            have e : ((List.range len).map fun i => mkV (f i))[i]'(by rw [hll]; exact hi) = mkV (f i) := by simp
            rw [e] at hy
            have hj : j < 6 := by
              have := (List.getElem?_eq_some_iff.1 hy).1
              simpa [vCells] using this
            have h1 := (hfi i hi).1 j hj
            rw [add_none, add_none] at h1
            rw [h1]
            exact hy)
          (fun i hi => by
            rw [hll] at hi
            have e : ((List.range len).map fun i => mkV (f i))[i]'(by rw [hll]; exact hi) = mkV (f i) := by simp
            rw [e]
            exact (hfi i hi).2.1)
        rw [hll] at hmk
        exact hmk
      · have h := count_sum (fun i => mkV (f i)) (elems.map (·.1)) (fun i hi => by
          rw [List.length_map] at hi
          rw [List.getElem_map]
          exact (hfi i (by omega)).2.2.1) len (by rw [List.length_map]; omega)
        rw [List.take_of_length_le (by rw [List.length_map]; omega)] at h
        omega
      · intro y hy
        obtain ⟨i, hi, rfl⟩ := List.mem_map.1 hy
        have hi' := List.mem_range.1 hi
        have h1 := (hfi i hi').2.2.2
        have h2 := bulk_part (d := (elems[i]'(by omega)).1) (l := elems.map (·.1)) (List.mem_map.2 ⟨_, List.getElem_mem _, rfl⟩)
        show (f i).1.tx.size ≤ _ ∧ (f i).1.un.size ≤ _
        omega

/-- Trees that are not too great. -/
theorem most_of : ∀ (n : Nat) (vs : List V), countL vs ≤ n → n ≤ 1000000000 → V.most vs
  | n, vs, h, hn => by
    refine .mk vs (by have := count_len vs; omega) fun x hx => ?_
    have h1 : countV x ≤ countL vs := by
      obtain ⟨a, b, e⟩ := List.append_of_mem hx
      rw [e, countL_append, countL]
      omega
    have h2 : countV x = 1 + countL x.kids := by cases x; rfl
    exact most_of (countL x.kids) x.kids (Nat.le_refl _) (by omega)
  termination_by n => n
  decreasing_by omega
theorem b32 : Tryz.prog.bytesOf 57 = 72 := by kernel_rfl
theorem all_part {H : Type} {e : TypeId} {L : List (DataW H)} (h : (DataW.weightsAll Tryz.prog e L).all (· ≤ reachBytes) = true) : ∀ d ∈ L, (d.weights Tryz.prog e).all (· ≤ reachBytes) = true := by
  induction L with
  | nil => intro d hd; cases hd
  | cons x r ih =>
    intro d hd
    simp only [DataW.weightsAll, List.all_append, Bool.and_eq_true] at h
    rcases List.mem_cons.1 hd with rfl | hd
    · exact h.1
    · exact ih h.2 d hd
theorem val_weights {H : Type} {z : DataW H} {t : T5} (h : ((DataW.agg [.agg [.lit (.int .i64 t.k), .lit (.string t.tx.data.toList), .lit (.string t.un.data.toList), .lit (.bool t.wh), .lit (.bool t.fl)], z] : DataW H).weights Tryz.prog 57).all (· ≤ reachBytes) = true) : (t.tx.size ≤ 140737488351232 ∧ t.un.size ≤ 140737488351232) ∧ (z.weights Tryz.prog 24).all (· ≤ reachBytes) = true := by
  have hr : reachBytes = 140737488351232 := rfl
  simp only [DataW.weightsEach, DataW.weights, Tryz.underlying57, Tryz.underlying55, List.all_append, Bool.and_eq_true, List.map, List.nil_append, List.append_nil, List.all_cons, List.all_nil, decide_eq_true_eq] at h
  have e1 : t.tx.data.toList.length = t.tx.size := rfl
  have e2 : t.un.data.toList.length = t.un.size := rfl
  obtain ⟨h1, h2⟩ := h
  refine ⟨?_, by simpa using h2⟩
  rw [hr] at h1
  omega
/-- What values that came in are: each list, and each text, within the reach. -/
theorem open_reach {H : Type} {enc : TypeId × Value → H} {W : World} {base : Nat} {sp : Nat → Bool} {held : Bool} (fuel : Nat) : ∀ (v : Value) (x : DataW H × List MemPlace), DataW.trod enc Tryz.prog W base sp held fuel 24 [v] = some x → (x.1.weights Tryz.prog 24).all (· ≤ reachBytes) = true →
    ∃ vs, VsAt (fun _ => True) W v vs ∧ V.most vs ∧ ∀ y ∈ vs, y.tok.tx.size ≤ 140737488351232 ∧ y.tok.un.size ≤ 140737488351232 := by
  induction fuel using Nat.strongRecOn with
  | _ fuel ih =>
    intro v x hf hM
    rcases DataW.trod_slice Tryz.underlying24 hf with ⟨hcs, _⟩ | ⟨a, len, cap, elems, rest, n, rfl, hcs, hx, hb, hl, hcap, hel, hget, _⟩
    · have e := head_of hcs
      subst e
      exact ⟨[], VsAt.nil _ _, .mk [] (by decide) (fun y hy => by cases hy), fun y hy => by cases hy⟩
    · have hx1 : x.1 = DataW.slice (elems.map (·.1)) (rest.map (·.1)) := congrArg Prod.fst hx
      have hle : elems.length = len := by omega
      rw [hx1] at hM
      simp only [DataW.weights, Tryz.underlying24, List.all_cons, List.all_append, Bool.and_eq_true, decide_eq_true_eq, b32, List.length_map] at hM
      have hlen : len ≤ 1954687338211 := by
        have h1 := hM.1
        have hr : reachBytes = 140737488351232 := rfl
        rw [hr, hle] at h1
        omega
      have hel2 : ∀ i (hi : i < len), ((elems[i]'(by omega)).1.weights Tryz.prog 57).all (· ≤ reachBytes) = true := fun i hi => all_part hM.2.1 _ (List.mem_map.2 ⟨_, List.getElem_mem _, rfl⟩)
      have key : ∀ i (hi : i < len), ∃ q : T5 × Value × List V, (∀ j, j < 6 → W.cell? ((a.add (i * 6)).add j) = (vCells q.1 q.2.1)[j]?) ∧ VsAt (fun _ => True) W q.2.1 q.2.2 ∧ V.most q.2.2 ∧ q.1.tx.size ≤ 140737488351232 ∧ q.1.un.size ≤ 140737488351232 := by
        intro i hi
        have h1 := hget i hi
        rw [c46] at h1
        have h2 : elems[i]? = some (elems[i]'(by omega)) := List.getElem?_eq_getElem (by omega)
        rw [h2, Option.bind_eq_some_iff] at h1
        obtain ⟨cs, hc, ht⟩ := h1
        obtain ⟨_, _, hce⟩ := cells_each hc
        obtain ⟨t, kid, m, z, rfl, hm, hz, hb1, hb2, hsh⟩ := bulk_val ht
        have hwi := hel2 i hi
        rw [hsh] at hwi
        obtain ⟨w1, w2⟩ := val_weights hwi
        obtain ⟨ks, hk1, hk2, _⟩ := ih m (by omega) kid z hz w2
        exact ⟨(t, kid, ks), hce, hk1, hk2, w1⟩
      obtain ⟨f, hfi⟩ : ∃ f : Nat → T5 × Value × List V, ∀ i (hi : i < len), (∀ j, j < 6 → W.cell? ((a.add (i * 6)).add j) = (vCells (f i).1 (f i).2.1)[j]?) ∧ VsAt (fun _ => True) W (f i).2.1 (f i).2.2 ∧ V.most (f i).2.2 ∧ (f i).1.tx.size ≤ 140737488351232 ∧ (f i).1.un.size ≤ 140737488351232 := by
        refine ⟨fun i => if h : i < len then (key i h).choose else (⟨0, ⟨#[]⟩, ⟨#[]⟩, false, false⟩, .slice none 0 0, []), fun i hi => ?_⟩
        simp only [hi, dif_pos]
        exact (key i hi).choose_spec
      have hll : ((List.range len).map fun i => mkV (f i)).length = len := by simp
      refine ⟨(List.range len).map fun i => mkV (f i), ?_, .mk _ (by rw [hll]; exact hlen) (fun y hy => ?_), fun y hy => ?_⟩
      · have e := head_of hcs
        subst e
        obtain ⟨b, off, spot⟩ := a
        have hsp : 0 < len → spot = none ∧ b < W.heap.size := fun h0 => by
          have hc' : W.cell? ((⟨b, off, spot⟩ : Addr).add (0 * 6) |>.add 0) = some (.int .i64 (f 0).1.k) := (hfi 0 h0).1 0 (by omega)
          have hspot : spot = none := by simpa [Addr.add] using World.cell?_spot hc'
          subst hspot
          have := World.block_lt_of_cell? W _ hc'
          exact ⟨rfl, by simpa [add_none] using this⟩
        have hmk := VsAt.mk (P := fun _ => True) (W := W) (some ⟨b, off, spot⟩) cap ((List.range len).map fun i => mkV (f i)) b off (fun i => (f i).2.1) (by rw [hll]; exact hl) (Nat.le_trans hcap (by decide))
          (fun h0 => by
            rw [hll] at h0
            obtain ⟨h1, h2⟩ := hsp h0
            subst h1
            exact ⟨rfl, h2, trivial⟩)
          (fun i hi j y hy => by
            rw [hll] at hi
            obtain ⟨h1, _⟩ := hsp (by omega)
            subst h1
            have e : ((List.range len).map fun i => mkV (f i))[i]'(by rw [hll]; exact hi) = mkV (f i) := by simp
            rw [e] at hy
            have hj : j < 6 := by
              have := (List.getElem?_eq_some_iff.1 hy).1
              simpa [vCells] using this
            have h1 := (hfi i hi).1 j hj
            rw [add_none, add_none] at h1
            rw [h1]
            exact hy)
          (fun i hi => by
            rw [hll] at hi
            have e : ((List.range len).map fun i => mkV (f i))[i]'(by rw [hll]; exact hi) = mkV (f i) := by simp
            rw [e]
            exact (hfi i hi).2.1)
        rw [hll] at hmk
        exact hmk
      · obtain ⟨i, hi, rfl⟩ := List.mem_map.1 hy
        exact (hfi i (List.mem_range.1 hi)).2.2.1
      · obtain ⟨i, hi, rfl⟩ := List.mem_map.1 hy
        exact (hfi i (List.mem_range.1 hi)).2.2.2
end Go.Proofs.YtlhdapckenjigaaGreatDoor.Y
namespace Go.Proofs.YtlhdapckenjigaaGreatDoor.S
open Go.RowKit
open Go.Proofs.YtlhdapckenjigaaGreatDoor.L (T5 V VsAt t5Cells vCells cell_of_heap hid_mk cellAt set_at)
open Go.Proofs.YtlhdapckenjigaaGreatDoor.P (Bx StrAt)
set_option maxRecDepth 100000

set_option maxHeartbeats 2000000 in
theorem same_yes {w : World} {v1 v2 : Value} {l : List Lg} (h1 : LgAt 43 w v1 l) (h2 : LgAt 60 w v2 l) : Calls Tryz.prog 10 #[v1, v2] w fun e w' => e = .returned (.bool true) ∧ Below w.heap.size w w' := by
  obtain ⟨a1, c1, rfl, p1, p2, p3⟩ := h1.form
  obtain ⟨a2, c2, rfl, q1, q2, q3⟩ := h2.form
  have HP := hid_mk p3
  have HQ := hid_mk q3
  generalize hn : l.length = n at *
  have HN := hid_mk hn
  have hne : ((n : Int) != (n : Int)) = false := by simp
  clear h1 h2 p3 q3 hn
  go_enter Tryz.func10, Tryz.ntmps10
  go_wp2
  go_loopw [13] (fun a13 wr => ∃ i : Nat, i ≤ n ∧ a13 = .int .i64 (i : Int) ∧ Hid (Below w.heap.size w wr)) (fun a13 _ => n + 1 - (intOf a13).toNat)
  case atStart => exact ⟨0, Nat.zero_le _, rfl, Below.refl _ _⟩
  case round =>
    obtain ⟨i, hi, rfl, HJ⟩ := hrel
    by_cases hlt : i < n
    · have hd : decide ((i : Int) < (n : Int)) = true := decide_eq_true (by omega)
      obtain ⟨x, hx⟩ : ∃ x, l[i]? = some x := ⟨_, List.getElem?_eq_getElem (by rw [HN.out]; exact hlt)⟩
      obtain ⟨g1, e1, hc1⟩ := HP.out (by omega)
      obtain ⟨g2, e2, hc2⟩ := HQ.out (by omega)
      subst e1
      subst e2
      obtain ⟨k0, k1, k2⟩ := hc1 i x hx
      obtain ⟨m0, m1, m2⟩ := hc2 i x hx
      have j0 := (HJ.out.cell (p := ⟨g1, i * 3, none⟩) (P.lt_of_cell k0)).trans k0
      have j1 := (HJ.out.cell (p := ⟨g1, i * 3 + 1, none⟩) (P.lt_of_cell k1)).trans k1
      have j2 := (HJ.out.cell (p := ⟨g1, i * 3 + 2, none⟩) (P.lt_of_cell k2)).trans k2
      have l0 := (HJ.out.cell (p := ⟨g2, i * 3, none⟩) (P.lt_of_cell m0)).trans m0
      have l1 := (HJ.out.cell (p := ⟨g2, i * 3 + 1, none⟩) (P.lt_of_cell m1)).trans m1
      have l2 := (HJ.out.cell (p := ⟨g2, i * 3 + 2, none⟩) (P.lt_of_cell m2)).trans m2
      obtain ⟨xn, xv, xi⟩ := x
      simp only at j0 j1 j2 l0 l1 l2
      clear k0 k1 k2 m0 m1 m2 hc1 hc2 hx HP HQ
      go_upto_region 6 with (fail)
      go_quiet (fail)
      go_wp2
      exact ⟨⟨i + 1, by omega, rfl, HJ.out.trans ⟨rfl, rfl, rfl, Nat.le_refl _, fun _ _ => rfl⟩⟩, by simp only [intOf]; omega⟩
    · have hd : decide ((i : Int) < (n : Int)) = false := decide_eq_false (by omega)
      go_wp2
      go_ret
      exact ⟨rfl, HJ.out⟩
/-- A declaration: its name, its values, whether it is important. -/
structure Dc where
  n : ByteArray
  vs : List V
  i : Bool
/-- A slice holds the declarations. -/
def DsAt (P : Nat → Prop) (w : World) (v : Value) (ds : List Dc) : Prop := ∃ a c g o, v = .slice a ds.length c ∧ ds.length ≤ c ∧ c ≤ 9223372036854775807 ∧ ∀ (k : Nat) (d : Dc), ds[k]? = some d → a = some ⟨g, o, none⟩ ∧ ∃ u, VsAt P w u d.vs ∧ ∀ w', Below w.heap.size w w' → w'.cell? ⟨g, o + k * 3, none⟩ = some (.string d.n) ∧ w'.cell? ⟨g, o + k * 3 + 1, none⟩ = some u ∧ w'.cell? ⟨g, o + k * 3 + 2, none⟩ = some (.bool d.i)
theorem ds_keep {P : Nat → Prop} {w w' : World} {v : Value} {ds : List Dc} (h : DsAt P w v ds) (hb : Below w.heap.size w w') : DsAt P w' v ds := by
  obtain ⟨a, c, g, o, h1, h2, h3, h4⟩ := h
  refine ⟨a, c, g, o, h1, h2, h3, fun k d hd => ?_⟩
  obtain ⟨h5, u, h6, h7⟩ := h4 k d hd
  exact ⟨h5, u, h6.keep hb, fun w2 hb2 => h7 w2 (hb.trans (hb2.mono hb.size))⟩
def allO (ds : List Dc) : List Lg := ds.flatMap fun d => expO d.n d.vs d.i
/-- What is asked of each. -/
def DsOk (ds : List Dc) : Prop := ∀ d ∈ ds, Y.V.most d.vs ∧ ∀ y ∈ d.vs, y.tok.tx.size ≤ 100000 ∧ y.tok.un.size ≤ 100000
theorem exp_le (name : ByteArray) (vs : List V) (imp : Bool) : (expO name vs imp).length ≤ 4 := by
  rw [exp_len]
  exact Nat.le_trans (vals_len _ _) (lgh_len name)
theorem all_take {ds : List Dc} {k : Nat} {d : Dc} (h : ds[k]? = some d) : allO (ds.take (k + 1)) = allO (ds.take k) ++ expO d.n d.vs d.i := by
  unfold allO
  rw [take_snoc h, List.flatMap_append]
  simp
theorem lg_news {T g n c : Nat} {w : World} {l : List Lg} (h : LgAt T w (.slice (some ⟨g, 0, none⟩) n c) l) : ∀ j u, (l.flatMap lgC)[j]? = some u → w.cell? ((⟨g, 0, none⟩ : Addr).add j) = some u := fun j u hu => World.ownsRow.cells h (g := g) rfl j u hu
theorem lg_one : ∀ (l : List Lg) (u : Value), u ∈ l.flatMap lgC → u.oneCell' = true := fun l u hu => by
  obtain ⟨x, _, hx⟩ := List.mem_flatMap.1 hu
  simp [lgC] at hx
  rcases hx with rfl | rfl | rfl <;> rfl
theorem lgf_len (l : List Lg) : (l.flatMap lgC).length = l.length * 3 := by
  induction l with
  | nil => rfl
  | cons x r ih => rw [List.flatMap_cons, List.length_append, ih]; simp [lgC]; omega
set_option maxHeartbeats 4000000 in
theorem all_any {P0 : Nat → Prop} {W : World} {v : Value} {ds : List Dc} (hv : DsAt P0 W v ds) (hds : DsOk ds) (hl : ds.length ≤ 1000) (hok : Okk W) :
    Calls Tryz.prog 13 #[v] W fun e w' => ∃ a n c, e = .returned (.slice a n c) ∧ n = (allO ds).length ∧ LgAt 43 w' (.slice a n c) (allO ds) ∧ Below W.heap.size W w' := by
  obtain ⟨i0, hi0, hz0, hz1, hz2⟩ := info_parts Tryz.info43s
  have HI0 := hid_mk hi0
  have HZ0 := hid_mk hz0
  have HZ1 := hid_mk hz1
  have HZ2 := hid_mk hz2
  clear hi0 hz0 hz1 hz2
  obtain ⟨a, c, g, o, rfl, hc, hcm, hcell⟩ := hv
  have HC := hid_mk hcell
  have HX : Hid (∀ w d u, Below W.heap.size W w → d ∈ ds → VsAt P0 W u d.vs → Calls Tryz.prog 11 #[.agg #[.string d.n, u, .bool d.i]] w fun e w' => ∃ a n c, e = .returned (.slice a n c) ∧ n = (expO d.n d.vs d.i).length ∧ LgAt 43 w' (.slice a n c) (expO d.n d.vs d.i) ∧ Below w.heap.size w w') := fun w d u hb hd hu => expand_any d.n d.i (hu.keep hb) (hds d hd).1 (hds d hd).2 (hok.keep hb).ok (hok.keep hb).sid
  have HT : Hid (∀ (k : Nat) (d : Dc), ds[k]? = some d → allO (ds.take (k + 1)) = allO (ds.take k) ++ expO d.n d.vs d.i) := fun k d h => all_take h
  have HR : Hid (allO ds = allO (ds.take ds.length)) := by rw [List.take_length]; exact rfl
  generalize hn : ds.length = n at *
  have HN := hid_mk hn
  clear hcell hn hds hok
  go_enter Tryz.func13, Tryz.ntmps13
  go_wp2
  go_loopw [3, 8] (fun a3 a8 wr => ∃ (i m : Nat) (oa : Option Addr) (oc : Nat), a3 = .slice oa m oc ∧ a8 = .int .i64 (i : Int) ∧ i ≤ n ∧ m ≤ 4 * i ∧ Hid (m = (allO (ds.take i)).length ∧ wr.ownsRow W.heap.size 43 3 (.slice oa m oc) m ((allO (ds.take i)).flatMap lgC) ∧ Below W.heap.size W wr)) (fun _ a8 _ => n + 1 - (intOf a8).toNat)
  case atStart => exact ⟨0, 0, _, _, rfl, rfl, Nat.zero_le _, Nat.zero_le _, rfl, World.ownsRow_nil _ _ _ _, Below.refl _ _⟩
  case round =>
    obtain ⟨i, m, oa, oc, rfl, rfl, hi, hmi, HJ⟩ := hrel
    by_cases hlt : i < n
    · have hd : decide ((i : Int) < (n : Int)) = true := decide_eq_true (by omega)
      obtain ⟨d, hdx⟩ : ∃ d, ds[i]? = some d := ⟨_, List.getElem?_eq_getElem (by rw [HN.out]; exact hlt)⟩
      obtain ⟨ea, u, hu, hcl⟩ := HC.out i d hdx
      subst ea
      obtain ⟨q0, q1, q2⟩ := hcl wr HJ.out.2.2
      have HTi := hid_mk (HT.out i d hdx)
      have HBA : Hid (Below W.heap.size W (wr.alloc (.cells #[.string d.n, u, .bool d.i] 26))) := HJ.out.2.2.alloc HJ.out.2.2.size _
      have hx := HX.out _ d u HBA.out (List.mem_of_getElem? hdx) hu
      have hel := exp_le d.n d.vs d.i
      obtain ⟨ua, uc, rfl, _, _⟩ := hu.slice
      obtain ⟨dn, dv, di⟩ := d
      simp only at q0 q1 q2 hx HTi hel
      generalize expO dn dv di = ex at *
      generalize dv.length = dl at *
      have hbx := Bx.new wr 26 #[.string dn, .slice ua dl uc, .bool di]
      have b0 := hbx.cell 0 _ rfl
      have b1 := hbx.cell 1 _ rfl
      have b2 := hbx.cell 2 _ rfl
      clear hdx hcl hu hbx
      go_wp2_with (go_at_call 11; fail)
      refine hx.mono ?_
      rintro e w2 ⟨xa, xn, xc, rfl, hxn, hlg, hb2⟩
      have HB2 : Hid (Below W.heap.size W w2) := HBA.out.trans (hb2.mono HBA.out.size)
      have hb02 : Below wr.heap.size wr w2 := ((Below.refl _ wr).alloc (Nat.le_refl _) _).trans (hb2.mono (by simp))
      have HOW : Hid (w2.ownsRow W.heap.size 43 3 (.slice oa m oc) m ((allO (ds.take i)).flatMap lgC)) := P.own_below HJ.out.2.1 hb02
      have HMI : Hid (m = (allO (ds.take i)).length) := HJ.out.1
      have HSZ : Hid (W.heap.size ≤ w2.heap.size) := HB2.out.size
      clear hx hb2 HBA hb02 HJ b0 b1 b2 q0 q1 q2
      by_cases h0 : ex.length = 0
      · have hex : ex = [] := List.length_eq_zero_iff.1 h0
        subst hex
        replace hxn : xn = 0 := hxn
        subst hxn
        have HAP := hid_mk (Y.run_append_empty (t' := 29) Tryz.underlying29 HI0.out HOW.out xa xc)
        have HTe : Hid (allO (ds.take (i + 1)) = allO (ds.take i)) := by show _ = _; rw [HTi.out, List.append_nil]
        clear hlg HTi h0 hel
        go_wp2_with (at_builtin; with_reducible refine Y.wpList_append_same _ rfl _ _ 29 rfl (.slice oa m oc) (.slice xa 0 xc) rfl rfl HAP.out ?_)
        go_wp2
        refine ⟨⟨i + 1, m, oa, oc, rfl, rfl, by omega, by omega, ?_, ?_, HB2.out⟩, ?_⟩
        · rw [HTe.out]; exact HMI.out
        · rw [HTe.out]; exact HOW.out
        · simp only [intOf]; omega
      · obtain ⟨xa', xc', ex', _, _, x3⟩ := hlg.form
        cases ex'
        obtain ⟨xg, rfl, _⟩ := x3 (by omega)
        have HNW := hid_mk (lg_news hlg)
        have HN1 := hid_mk (lg_one ex)
        have HNL : Hid ((ex.flatMap lgC).length = ex.length * 3) := lgf_len ex
        generalize hxl : ex.length = xl at *
        have HXL := hid_mk hxl
        clear hxn
        clear hlg x3 hxl
        go_wp2_with (at_builtin; with_reducible refine wpList_append_lies _ rfl _ _ 29 rfl W.heap.size 43 i0 (.agg #[.string ⟨#[]⟩, .string ⟨#[]⟩, .bool false]) 3 40 Tryz.underlying29 HI0.out HZ0.out HZ1.out HZ2.out rfl (by decide) (.slice oa m oc) m ((allO (ds.take i)).flatMap lgC) rfl HOW.out ⟨xg, 0, none⟩ xl xc (ex.flatMap lgC) rfl HNL.out HNW.out HN1.out ?c1 ?c2 ?c3 HSZ.out w2.heap.size rfl ?_)
        case c1 => omega
        case c2 => unfold maxLen; omega
        case c3 => omega
        intro gg cap w3 hown hg hgat hglt
        have HN3 : Hid (w3.ownsRow W.heap.size 43 3 (.slice (some ⟨gg, 0, none⟩) (m + xl) cap) (m + xl) ((allO (ds.take (i + 1))).flatMap lgC) ∧ Below W.heap.size W w3 ∧ m + xl = (allO (ds.take (i + 1))).length) := by
          refine ⟨by rw [HTi.out, List.flatMap_append]; exact hown, HB2.out.grown hg HSZ.out (fun k hk => (HOW.out.lt k hk).1), ?_⟩
          rw [HTi.out, List.length_append, ← HMI.out, HXL.out]
        clear hown hg hgat hglt HNW HN1 HNL
        go_wp2
        refine ⟨⟨i + 1, m + xl, _, _, rfl, rfl, by omega, by omega, HN3.out.2.2, HN3.out.1, HN3.out.2.1⟩, ?_⟩
        simp only [intOf]
        omega
    · have hd : decide ((i : Int) < (n : Int)) = false := decide_eq_false (by omega)
      have hin : i = n := by omega
      subst hin
      have HE : Hid (m = (allO ds).length ∧ LgAt 43 wr (.slice oa m oc) (allO ds) ∧ Below W.heap.size W wr) := by
        rw [HR.out]
        refine ⟨HJ.out.1, ?_, HJ.out.2.2⟩
        have h1 := own_any HJ.out.2.1
        unfold LgAt
        rw [← HJ.out.1]
        exact h1
      go_wp2
      go_ret
      exact ⟨oa, m, oc, rfl, HE.out⟩
set_option maxHeartbeats 4000000 in
theorem rall_any {P0 : Nat → Prop} {W : World} {v : Value} {ds : List Dc} (hv : DsAt P0 W v ds) (hds : DsOk ds) (hl : ds.length ≤ 1000) :
    Calls Tryz.prog 14 #[v] W fun e w' => ∃ a n c, e = .returned (.slice a n c) ∧ n = (allO ds).length ∧ LgAt 60 w' (.slice a n c) (allO ds) ∧ Below W.heap.size W w' := by
  obtain ⟨i0, hi0, hz0, hz1, hz2⟩ := info_parts Tryz.info60s
  have HI0 := hid_mk hi0
  have HZ0 := hid_mk hz0
  have HZ1 := hid_mk hz1
  have HZ2 := hid_mk hz2
  clear hi0 hz0 hz1 hz2
  obtain ⟨a, c, g, o, rfl, hc, hcm, hcell⟩ := hv
  have HC := hid_mk hcell
  have HX : Hid (∀ w d u, Below W.heap.size W w → d ∈ ds → VsAt P0 W u d.vs → Calls Tryz.prog 12 #[.agg #[.string d.n, u, .bool d.i]] w fun e w' => ∃ a n c, e = .returned (.slice a n c) ∧ n = (expO d.n d.vs d.i).length ∧ LgAt 60 w' (.slice a n c) (expO d.n d.vs d.i) ∧ Below w.heap.size w w') := fun w d u hb hd hu => rexpand_any d.n d.i (hu.keep hb) (hds d hd).1.len (hds d hd).2
  have HT : Hid (∀ (k : Nat) (d : Dc), ds[k]? = some d → allO (ds.take (k + 1)) = allO (ds.take k) ++ expO d.n d.vs d.i) := fun k d h => all_take h
  have HR : Hid (allO ds = allO (ds.take ds.length)) := by rw [List.take_length]; exact rfl
  generalize hn : ds.length = n at *
  have HN := hid_mk hn
  clear hcell hn hds
  go_enter Tryz.func14, Tryz.ntmps14
  go_wp2
  go_loopw [3, 8] (fun a3 a8 wr => ∃ (i m : Nat) (oa : Option Addr) (oc : Nat), a3 = .slice oa m oc ∧ a8 = .int .i64 (i : Int) ∧ i ≤ n ∧ m ≤ 4 * i ∧ Hid (m = (allO (ds.take i)).length ∧ wr.ownsRow W.heap.size 60 3 (.slice oa m oc) m ((allO (ds.take i)).flatMap lgC) ∧ Below W.heap.size W wr)) (fun _ a8 _ => n + 1 - (intOf a8).toNat)
  case atStart => exact ⟨0, 0, _, _, rfl, rfl, Nat.zero_le _, Nat.zero_le _, rfl, World.ownsRow_nil _ _ _ _, Below.refl _ _⟩
  case round =>
    obtain ⟨i, m, oa, oc, rfl, rfl, hi, hmi, HJ⟩ := hrel
    by_cases hlt : i < n
    · have hd : decide ((i : Int) < (n : Int)) = true := decide_eq_true (by omega)
      obtain ⟨d, hdx⟩ : ∃ d, ds[i]? = some d := ⟨_, List.getElem?_eq_getElem (by rw [HN.out]; exact hlt)⟩
      obtain ⟨ea, u, hu, hcl⟩ := HC.out i d hdx
      subst ea
      obtain ⟨q0, q1, q2⟩ := hcl wr HJ.out.2.2
      have HTi := hid_mk (HT.out i d hdx)
      have HBA : Hid (Below W.heap.size W (wr.alloc (.cells #[.string d.n, u, .bool d.i] 26))) := HJ.out.2.2.alloc HJ.out.2.2.size _
      have hx := HX.out _ d u HBA.out (List.mem_of_getElem? hdx) hu
      have hel := exp_le d.n d.vs d.i
      obtain ⟨ua, uc, rfl, _, _⟩ := hu.slice
      obtain ⟨dn, dv, di⟩ := d
      simp only at q0 q1 q2 hx HTi hel
      generalize expO dn dv di = ex at *
      generalize dv.length = dl at *
      have hbx := Bx.new wr 26 #[.string dn, .slice ua dl uc, .bool di]
      have b0 := hbx.cell 0 _ rfl
      have b1 := hbx.cell 1 _ rfl
      have b2 := hbx.cell 2 _ rfl
      clear hdx hcl hu hbx
      go_wp2_with (go_at_call 12; fail)
      refine hx.mono ?_
      rintro e w2 ⟨xa, xn, xc, rfl, hxn, hlg, hb2⟩
      have HB2 : Hid (Below W.heap.size W w2) := HBA.out.trans (hb2.mono HBA.out.size)
      have hb02 : Below wr.heap.size wr w2 := ((Below.refl _ wr).alloc (Nat.le_refl _) _).trans (hb2.mono (by simp))
      have HOW : Hid (w2.ownsRow W.heap.size 60 3 (.slice oa m oc) m ((allO (ds.take i)).flatMap lgC)) := P.own_below HJ.out.2.1 hb02
      have HMI : Hid (m = (allO (ds.take i)).length) := HJ.out.1
      have HSZ : Hid (W.heap.size ≤ w2.heap.size) := HB2.out.size
      clear hx hb2 HBA hb02 HJ b0 b1 b2 q0 q1 q2
      by_cases h0 : ex.length = 0
      · have hex : ex = [] := List.length_eq_zero_iff.1 h0
        subst hex
        replace hxn : xn = 0 := hxn
        subst hxn
        have HAP := hid_mk (Y.run_append_empty (t' := 31) Tryz.underlying31 HI0.out HOW.out xa xc)
        have HTe : Hid (allO (ds.take (i + 1)) = allO (ds.take i)) := by show _ = _; rw [HTi.out, List.append_nil]
        clear hlg HTi h0 hel
        go_wp2_with (at_builtin; with_reducible refine Y.wpList_append_same _ rfl _ _ 31 rfl (.slice oa m oc) (.slice xa 0 xc) rfl rfl HAP.out ?_)
        go_wp2
        refine ⟨⟨i + 1, m, oa, oc, rfl, rfl, by omega, by omega, ?_, ?_, HB2.out⟩, ?_⟩
        · rw [HTe.out]; exact HMI.out
        · rw [HTe.out]; exact HOW.out
        · simp only [intOf]; omega
      · obtain ⟨xa', xc', ex', _, _, x3⟩ := hlg.form
        cases ex'
        obtain ⟨xg, rfl, _⟩ := x3 (by omega)
        have HNW := hid_mk (lg_news hlg)
        have HN1 := hid_mk (lg_one ex)
        have HNL : Hid ((ex.flatMap lgC).length = ex.length * 3) := lgf_len ex
        generalize hxl : ex.length = xl at *
        have HXL := hid_mk hxl
        clear hxn
        clear hlg x3 hxl
        go_wp2_with (at_builtin; with_reducible refine wpList_append_lies _ rfl _ _ 31 rfl W.heap.size 60 i0 (.agg #[.string ⟨#[]⟩, .string ⟨#[]⟩, .bool false]) 3 40 Tryz.underlying31 HI0.out HZ0.out HZ1.out HZ2.out rfl (by decide) (.slice oa m oc) m ((allO (ds.take i)).flatMap lgC) rfl HOW.out ⟨xg, 0, none⟩ xl xc (ex.flatMap lgC) rfl HNL.out HNW.out HN1.out ?c1 ?c2 ?c3 HSZ.out w2.heap.size rfl ?_)
        case c1 => omega
        case c2 => unfold maxLen; omega
        case c3 => omega
        intro gg cap w3 hown hg hgat hglt
        have HN3 : Hid (w3.ownsRow W.heap.size 60 3 (.slice (some ⟨gg, 0, none⟩) (m + xl) cap) (m + xl) ((allO (ds.take (i + 1))).flatMap lgC) ∧ Below W.heap.size W w3 ∧ m + xl = (allO (ds.take (i + 1))).length) := by
          refine ⟨by rw [HTi.out, List.flatMap_append]; exact hown, HB2.out.grown hg HSZ.out (fun k hk => (HOW.out.lt k hk).1), ?_⟩
          rw [HTi.out, List.length_append, ← HMI.out, HXL.out]
        clear hown hg hgat hglt HNW HN1 HNL
        go_wp2
        refine ⟨⟨i + 1, m + xl, _, _, rfl, rfl, by omega, by omega, HN3.out.2.2, HN3.out.1, HN3.out.2.1⟩, ?_⟩
        simp only [intOf]
        omega
    · have hd : decide ((i : Int) < (n : Int)) = false := decide_eq_false (by omega)
      have hin : i = n := by omega
      subst hin
      have HE : Hid (m = (allO ds).length ∧ LgAt 60 wr (.slice oa m oc) (allO ds) ∧ Below W.heap.size W wr) := by
        rw [HR.out]
        refine ⟨HJ.out.1, ?_, HJ.out.2.2⟩
        have h1 := own_any HJ.out.2.1
        unfold LgAt
        rw [← HJ.out.1]
        exact h1
      go_wp2
      go_ret
      exact ⟨oa, m, oc, rfl, HE.out⟩
end Go.Proofs.YtlhdapckenjigaaGreatDoor.S
namespace Go.Proofs.YtlhdapckenjigaaGreatDoor.S
open Go.RowKit
open Go.Proofs.YtlhdapckenjigaaGreatDoor.L (T5 V VsAt t5Cells vCells cell_of_heap hid_mk cellAt set_at)
open Go.Proofs.YtlhdapckenjigaaGreatDoor.P (Bx StrAt)
set_option maxRecDepth 100000

/-- What came in: lists within reach. -/
def DsIn (ds : List Dc) : Prop := ∀ d ∈ ds, Y.V.most d.vs ∧ (d.n.size ≤ 140737488351232) ∧ ∀ y ∈ d.vs, y.tok.tx.size ≤ 140737488351232 ∧ y.tok.un.size ≤ 140737488351232
theorem ok_take {ds : List Dc} {i : Nat} {d : Dc} (h : DsOk (ds.take i)) (hd : ds[i]? = some d) (h1 : Y.V.most d.vs) (h2 : ∀ y ∈ d.vs, y.tok.tx.size + y.tok.un.size ≤ 500) : DsOk (ds.take (i + 1)) := fun x hx => by
  rw [take_snoc hd] at hx
  rcases List.mem_append.1 hx with hx | hx
  · exact h x hx
  · rw [List.mem_singleton.1 hx]
    exact ⟨h1, fun y hy => by have := h2 y hy; omega⟩
set_option maxHeartbeats 4000000 in
theorem expands_walk {P0 : Nat → Prop} {W : World} {v : Value} {ds : List Dc} (hv : DsAt P0 W v ds) (hin : DsIn ds) (hok : Okk W) :
    Calls Tryz.prog 3 #[v] W fun e w' => e = .returned (.bool true) ∧ Below W.heap.size W w' := by
  have HLV : Hid (∀ w, Below W.heap.size W w → Calls Tryz.prog 8 #[] w fun e w' => e = .returned (.bool true) ∧ Below w.heap.size w w') := fun w hb => lives_any w (hok.keep hb)
  have HAL : Hid (∀ w, Below W.heap.size W w → DsOk ds → ds.length ≤ 40 → Calls Tryz.prog 13 #[v] w fun e w' => ∃ a n c, e = .returned (.slice a n c) ∧ n = (allO ds).length ∧ LgAt 43 w' (.slice a n c) (allO ds) ∧ Below w.heap.size w w') := fun w hb hd hl => all_any (ds_keep hv hb) hd (by omega) (hok.keep hb)
  have HRA : Hid (∀ w, Below W.heap.size W w → DsOk ds → ds.length ≤ 40 → Calls Tryz.prog 14 #[v] w fun e w' => ∃ a n c, e = .returned (.slice a n c) ∧ n = (allO ds).length ∧ LgAt 60 w' (.slice a n c) (allO ds) ∧ Below w.heap.size w w') := fun w hb hd hl => rall_any (ds_keep hv hb) hd (by omega)
  have HX : Hid (∀ w (d : Dc) u, Below W.heap.size W w → VsAt P0 W u d.vs → Y.V.most d.vs → (∀ y ∈ d.vs, y.tok.tx.size + y.tok.un.size ≤ 500) → Calls Tryz.prog 11 #[.agg #[.string d.n, u, .bool d.i]] w fun e w' => ∃ a n c, e = .returned (.slice a n c) ∧ LgAt 43 w' (.slice a n c) (expO d.n d.vs d.i) ∧ Below w.heap.size w w') := fun w d u hb hu hm hz => (expand_any d.n d.i (hu.keep hb) hm (fun y hy => by have := hz y hy; omega) (hok.keep hb).ok (hok.keep hb).sid).mono fun e w' h => by
    obtain ⟨a, n, c, h1, _, h3, h4⟩ := h
    exact ⟨a, n, c, h1, h3, h4⟩
  have HRX : Hid (∀ w (d : Dc) u, Below W.heap.size W w → VsAt P0 W u d.vs → Y.V.most d.vs → (∀ y ∈ d.vs, y.tok.tx.size + y.tok.un.size ≤ 500) → Calls Tryz.prog 12 #[.agg #[.string d.n, u, .bool d.i]] w fun e w' => ∃ a n c, e = .returned (.slice a n c) ∧ LgAt 60 w' (.slice a n c) (expO d.n d.vs d.i) ∧ Below w.heap.size w w') := fun w d u hb hu hm hz => (rexpand_any d.n d.i (hu.keep hb) hm.len (fun y hy => by have := hz y hy; omega)).mono fun e w' h => by
    obtain ⟨a, n, c, h1, _, h3, h4⟩ := h
    exact ⟨a, n, c, h1, h3, h4⟩
  have HGR : Hid (∀ w (d : Dc) u, Below W.heap.size W w → VsAt P0 W u d.vs → d ∈ ds → Calls Tryz.prog 9 #[u] w fun e w' => (∃ b, e = .returned (.bool b) ∧ (b = false → ∀ y ∈ d.vs, y.tok.tx.size + y.tok.un.size ≤ 500)) ∧ Below w.heap.size w w') := fun w d u hb hu hd => Z.great_any (hu.keep hb) (hin d hd).2.2
  have HIN := hid_mk hin
  obtain ⟨a, c, g, o, rfl, hc, hcm, hcell⟩ := hv
  have HC := hid_mk hcell
  generalize hn : ds.length = n at *
  have HN := hid_mk hn
  clear hcell hn hin hok
  by_cases h40 : 40 < n
  · have hd40 : decide ((40 : Int) < (n : Int)) = true := decide_eq_true (by omega)
    have hlv := HLV.out W (Below.refl _ _)
    go_enter Tryz.func3, Tryz.ntmps3
    go_wp2_with (go_at_call 8; fail)
    refine hlv.mono ?_
    rintro e w1 ⟨rfl, hb1⟩
    have HB1 := hid_mk hb1
    clear hlv hb1
    go_wp2
    go_ret
    exact ⟨rfl, HB1.out⟩
  have hd40 : decide ((40 : Int) < (n : Int)) = false := decide_eq_false (by omega)
  go_enter Tryz.func3, Tryz.ntmps3
  go_wp2
  go_loopw [11] (fun a11 wr => ∃ i : Nat, i ≤ n ∧ a11 = .int .i64 (i : Int) ∧ Hid (Below W.heap.size W wr ∧ DsOk (ds.take i))) (fun a11 _ => n + 1 - (intOf a11).toNat)
  case atStart => exact ⟨0, Nat.zero_le _, rfl, Below.refl _ _, fun d hd => by simp at hd⟩
  case round =>
    obtain ⟨i, hi, rfl, HJ⟩ := hrel
    by_cases hlt : i < n
    · have hd : decide ((i : Int) < (n : Int)) = true := decide_eq_true (by omega)
      obtain ⟨d, hdx⟩ : ∃ d, ds[i]? = some d := ⟨_, List.getElem?_eq_getElem (by rw [HN.out]; exact hlt)⟩
      obtain ⟨ea, u, hu, hcl⟩ := HC.out i d hdx
      subst ea
      obtain ⟨q0, q1, q2⟩ := hcl wr HJ.out.1
      obtain ⟨hmost, hnsz, hysz⟩ := HIN.out d (List.mem_of_getElem? hdx)
      have hBA : Below W.heap.size W (wr.alloc (.cells #[.string d.n, u, .bool d.i] 26)) := HJ.out.1.alloc HJ.out.1.size _
      have HBA := hid_mk hBA
      have hgr := HGR.out _ d u hBA hu (List.mem_of_getElem? hdx)
      have HX1 : Hid (∀ w, Below W.heap.size W w → (∀ y ∈ d.vs, y.tok.tx.size + y.tok.un.size ≤ 500) → Calls Tryz.prog 11 #[.agg #[.string d.n, u, .bool d.i]] w fun e w' => ∃ a n c, e = .returned (.slice a n c) ∧ LgAt 43 w' (.slice a n c) (expO d.n d.vs d.i) ∧ Below w.heap.size w w') := fun w hb hz => HX.out w d u hb hu hmost hz
      have HX2 : Hid (∀ w, Below W.heap.size W w → (∀ y ∈ d.vs, y.tok.tx.size + y.tok.un.size ≤ 500) → Calls Tryz.prog 12 #[.agg #[.string d.n, u, .bool d.i]] w fun e w' => ∃ a n c, e = .returned (.slice a n c) ∧ LgAt 60 w' (.slice a n c) (expO d.n d.vs d.i) ∧ Below w.heap.size w w') := fun w hb hz => HRX.out w d u hb hu hmost hz
      have HOKN : Hid ((∀ y ∈ d.vs, y.tok.tx.size + y.tok.un.size ≤ 500) → DsOk (ds.take (i + 1))) := fun h => ok_take HJ.out.2 hdx hmost h
      obtain ⟨ua, uc, rfl, _, _⟩ := hu.slice
      obtain ⟨dn, dv, di⟩ := d
      simp only at q0 q1 q2 hgr HX1 HX2 HOKN hnsz hysz hmost
      generalize expO dn dv di = ex at *
      generalize hdl : dv.length = dl at *
      clear hdl
      have hbx := Bx.new wr 26 #[.string dn, .slice ua dl uc, .bool di]
      have HBX := hid_mk hbx
      have b0 := hbx.cell 0 _ rfl
      have b1 := hbx.cell 1 _ rfl
      clear hdx hcl hu hbx hBA hysz hmost
      by_cases h500 : 500 < dn.size
      · have z5 : decide ((500 : Int) < (dn.size : Int)) = true := decide_eq_true (by omega)
        have hlv := HLV.out _ HBA.out
        go_wp2_with (go_at_call 8; fail)
        refine hlv.mono ?_
        rintro e w1 ⟨rfl, hb1⟩
        have HB1 : Hid (Below W.heap.size W w1) := HBA.out.trans (hb1.mono HBA.out.size)
        clear hlv hb1
        go_wp2
        go_ret
        exact ⟨rfl, HB1.out⟩
      have z5 : decide ((500 : Int) < (dn.size : Int)) = false := decide_eq_false (by omega)
      go_wp2_with (go_at_call 9; fail)
      refine hgr.mono ?_
      rintro e w1 ⟨⟨gb, rfl, hgb⟩, hb1⟩
      have HB1 : Hid (Below W.heap.size W w1) := HBA.out.trans (hb1.mono HBA.out.size)
      have hbx1 := HBX.out.below hb1
      have HBX1 := hid_mk hbx1
      have HGB := hid_mk hgb
      clear hgr hb1 HBX HBA b0 b1 hgb
      cases gb with
      | true =>
        have hlv := HLV.out _ HB1.out
        clear hbx1
        go_wp2_with (go_at_call 8; fail)
        refine hlv.mono ?_
        rintro e w2 ⟨rfl, hb2⟩
        have HB2 : Hid (Below W.heap.size W w2) := HB1.out.trans (hb2.mono HB1.out.size)
        clear hlv hb2
        go_wp2
        go_ret
        exact ⟨rfl, HB2.out⟩
      | false =>
        have hz := HGB.out rfl
        have HZ := hid_mk hz
        clear hz HGB
        have HS : Hid (∀ w', Below w1.heap.size w1 w' → w'.cell? ⟨wr.heap.size, 0, none⟩ = some (.string dn) ∧ w'.cell? ⟨wr.heap.size, 1, none⟩ = some (.slice ua dl uc) ∧ w'.cell? ⟨wr.heap.size, 2, none⟩ = some (.bool di)) := fun w' hb => ⟨(HBX1.out.below hb).cell 0 _ rfl, (HBX1.out.below hb).cell 1 _ rfl, (HBX1.out.below hb).cell 2 _ rfl⟩
        have HC1 : Hid (∀ w', Below w1.heap.size w1 w' → Calls Tryz.prog 11 #[.agg #[.string dn, .slice ua dl uc, .bool di]] w' fun e w'' => (∃ a n c, e = .returned (.slice a n c) ∧ LgAt 43 w'' (.slice a n c) ex) ∧ Below w1.heap.size w1 w'') := fun w' hb => (HX1.out w' (HB1.out.trans (hb.mono HB1.out.size)) HZ.out).mono fun e w'' h => by
          obtain ⟨a, n, c, h1, h2, h3⟩ := h
          exact ⟨⟨a, n, c, h1, h2⟩, hb.trans (h3.mono hb.size)⟩
        have HC2 : Hid (∀ w' v1, Below w1.heap.size w1 w' → LgAt 43 w' v1 ex → Calls Tryz.prog 12 #[.agg #[.string dn, .slice ua dl uc, .bool di]] w' fun e w'' => (∃ a n c, e = .returned (.slice a n c) ∧ LgAt 60 w'' (.slice a n c) ex ∧ LgAt 43 w'' v1 ex) ∧ Below w1.heap.size w1 w'') := fun w' v1 hb hl => (HX2.out w' (HB1.out.trans (hb.mono HB1.out.size)) HZ.out).mono fun e w'' h => by
          obtain ⟨a, n, c, h1, h2, h3⟩ := h
          exact ⟨⟨a, n, c, h1, h2, hl.keep h3⟩, hb.trans (h3.mono hb.size)⟩
        have HC3 : Hid (∀ w' v1 v2, Below w1.heap.size w1 w' → LgAt 43 w' v1 ex → LgAt 60 w' v2 ex → Calls Tryz.prog 10 #[v1, v2] w' fun e w'' => e = .returned (.bool true) ∧ Below w1.heap.size w1 w'') := fun w' v1 v2 hb h1 h2 => (same_yes h1 h2).mono fun e w'' h => ⟨h.1, hb.trans (h.2.mono hb.size)⟩
        have gd : Below w1.heap.size w1 w1 := Below.refl _ _
        have ge : Below w1.heap.size w1 w1.drew := gd.drew
        clear hbx1 HX1 HX2 HX HRX HGR HAL HRA HLV
        go_upto_region 8 with (fail)
        go_region_held3 (fun w' => w'.cell? ⟨wr.heap.size, 0, none⟩ = some (.string dn) ∧ w'.cell? ⟨wr.heap.size, 1, none⟩ = some (.slice ua dl uc) ∧ w'.cell? ⟨wr.heap.size, 2, none⟩ = some (.bool di))
          (first | with_reducible exact HS.out _ gd | with_reducible exact HS.out _ ge | with_reducible exact HS.out _ ga | with_reducible exact HS.out _ gb | with_reducible exact HS.out _ gc)
          (first
            | (go_at_call 11; with_reducible refine (HC1.out _ ge).mono ?_; rintro e wa ⟨⟨xa, xn, xc, rfl, hl1⟩, ga⟩)
            | (go_at_call 12; with_reducible refine (HC2.out _ _ ga hl1).mono ?_; rintro e wb ⟨⟨ya, yn, yc, rfl, hl2, hl3⟩, gb⟩)
            | (go_at_call 10; with_reducible refine (HC3.out _ _ _ gb hl3 hl2).mono ?_; rintro e wc ⟨rfl, gc⟩))
        have HN2 : Hid (Below W.heap.size W wc) := HB1.out.trans (gc.mono HB1.out.size)
        have HO2 := hid_mk (HOKN.out HZ.out)
        clear HC1 HC2 HC3 HS gd ge ga gb gc hl1 hl2 hl3
        go_wp2
        exact ⟨⟨i + 1, by omega, rfl, HN2.out, HO2.out⟩, by simp only [intOf]; omega⟩
    · have hd : decide ((i : Int) < (n : Int)) = false := decide_eq_false (by omega)
      have hin2 : i = n := by omega
      have HOK : Hid (DsOk ds) := by
        have h1 := HJ.out.2
        rw [List.take_of_length_le (by rw [HN.out]; omega)] at h1
        exact h1
      have hal := HAL.out wr HJ.out.1 HOK.out (by omega)
      go_wp2_with (go_at_call 13; fail)
      refine hal.mono ?_
      rintro e w1 ⟨la, ll, lc, rfl, hll, hlg, hb1⟩
      have HB1 : Hid (Below W.heap.size W w1) := HJ.out.1.trans (hb1.mono HJ.out.1.size)
      have hra := HRA.out w1 HB1.out HOK.out (by omega)
      have HLG := hid_mk hlg
      clear hal hb1 hlg hll HAL HRA
      go_wp2_with (go_at_call 14; fail)
      refine hra.mono ?_
      rintro e w2 ⟨ma, ml, mc, rfl, hml, hmg, hb2⟩
      have HB2 : Hid (Below W.heap.size W w2) := HB1.out.trans (hb2.mono HB1.out.size)
      have hsm := same_yes (HLG.out.keep hb2) hmg
      clear hra hb2 hmg hml HLG HB1
      go_wp2_with (go_at_call 10; fail)
      refine hsm.mono ?_
      rintro e w3 ⟨rfl, hb3⟩
      have HB3 : Hid (Below W.heap.size W w3) := HB2.out.trans (hb3.mono HB2.out.size)
      have hlv := HLV.out w3 HB3.out
      clear hsm hb3 HB2
      go_wp2_with (go_at_call 8; fail)
      refine hlv.mono ?_
      rintro e w4 ⟨rfl, hb4⟩
      have HB4 : Hid (Below W.heap.size W w4) := HB3.out.trans (hb4.mono HB3.out.size)
      clear hlv hb4
      go_wp2
      go_ret
      exact ⟨rfl, HB4.out⟩
end Go.Proofs.YtlhdapckenjigaaGreatDoor.S
namespace Go.Proofs.YtlhdapckenjigaaGreatDoor.S
open Go.RowKit
open Go.Proofs.YtlhdapckenjigaaGreatDoor.L (T5 V VsAt t5Cells vCells cell_of_heap hid_mk cellAt set_at)
open Go.Proofs.YtlhdapckenjigaaGreatDoor.Y (cells_each open_reach all_part head_of)
set_option maxRecDepth 100000

theorem k26 : Tryz.prog.cellsOf 26 = 3 := by kernel_rfl
theorem k9 : Tryz.prog.cellsOf 9 = 1 := by kernel_rfl
theorem k24 : Tryz.prog.cellsOf 24 = 1 := by kernel_rfl
theorem k4 : Tryz.prog.cellsOf 4 = 1 := by kernel_rfl
theorem decl_val {H : Type} {enc : TypeId × Value → H} {W : World} {base fuel : Nat} {sp : Nat → Bool} {held : Bool} {cs : List Value} {x : DataW H × List MemPlace}
    (hf : DataW.trod enc Tryz.prog W base sp held fuel 26 cs = some x) : ∃ (n : ByteArray) (u : Value) (i : Bool) (m : Nat) (z : DataW H × List MemPlace), cs = [.string n, u, .bool i] ∧ DataW.trod enc Tryz.prog W base sp held m 24 [u] = some z ∧ x.1 = .agg [.lit (.string n.data.toList), z.1, .lit (.bool i)] := by
  obtain ⟨xs, n, rfl, hx, hl, hxl, hel⟩ := DataW.trod_struct Tryz.underlying26 hf
  have h0 := hel 0 _ rfl
  have h1 := hel 1 _ rfl
  have h2 := hel 2 _ rfl
  have hxl2 : xs.length = 3 := hxl
  obtain ⟨x0, x1, x2, rfl⟩ : ∃ x0 x1 x2, xs = [x0, x1, x2] := by
    match xs, hxl2 with
    | [a, b, c], _ => exact ⟨a, b, c, rfl⟩
  rw [k26] at hl
  obtain ⟨y0, u, y2, rfl⟩ : ∃ y0 y1 y2, cs = [y0, y1, y2] := by
    match cs, hl with
    | [a, b, c], _ => exact ⟨a, b, c, rfl⟩
  have h0' : DataW.trod enc Tryz.prog W base sp held n 9 [y0] = some x0 := by
    have e : List.take (Tryz.prog.cellsOf 9) (List.drop 0 [y0, u, y2]) = [y0] := by rw [k9]; rfl
    rw [← e]
    exact h0
  have h1' : DataW.trod enc Tryz.prog W base sp held n 24 [u] = some x1 := by
    have e : List.take (Tryz.prog.cellsOf 24) (List.drop 1 [y0, u, y2]) = [u] := by rw [k24]; rfl
    rw [← e]
    exact h1
  have h2' : DataW.trod enc Tryz.prog W base sp held n 4 [y2] = some x2 := by
    have e : List.take (Tryz.prog.cellsOf 4) (List.drop 2 [y0, u, y2]) = [y2] := by rw [k4]; rfl
    rw [← e]
    exact h2
  obtain ⟨s, a0, b0, _⟩ := DataW.trod_string Tryz.underlying9 h0'
  obtain ⟨bl, a2, b2⟩ := DataW.trod_bool Tryz.underlying4 h2'
  have hx1 : x.1 = DataW.agg ([x0, x1, x2].map (·.1)) := congrArg Prod.fst hx
  refine ⟨s, u, bl, n, x1, by rw [head_of a0, head_of a2], h1', ?_⟩
  rw [hx1, List.map_cons, List.map_cons, List.map_cons, b0, b2]
  rfl
theorem decl_weights {H : Type} {z : DataW H} {n : ByteArray} {i : Bool} (h : ((DataW.agg [.lit (.string n.data.toList), z, .lit (.bool i)] : DataW H).weights Tryz.prog 26).all (· ≤ reachBytes) = true) : n.size ≤ 140737488351232 ∧ (z.weights Tryz.prog 24).all (· ≤ reachBytes) = true := by
  have hr : reachBytes = 140737488351232 := rfl
  simp only [DataW.weightsEach, DataW.weights, Tryz.underlying26, List.all_append, Bool.and_eq_true, List.map, List.append_nil, List.all_cons, List.all_nil, decide_eq_true_eq] at h
  have e1 : n.data.toList.length = n.size := rfl
  obtain ⟨h1, h2⟩ := h
  rw [hr] at h1
  refine ⟨by omega, by simpa using h2⟩
theorem b26 : Tryz.prog.bytesOf 26 = 48 := by kernel_rfl
theorem open_decl {H : Type} {enc : TypeId × Value → H} {W : World} {base fuel : Nat} {sp : Nat → Bool} {held : Bool} {cs : List Value} {x : DataW H × List MemPlace}
    (hf : DataW.trod enc Tryz.prog W base sp held fuel 26 cs = some x) (hM : (x.1.weights Tryz.prog 26).all (· ≤ reachBytes) = true) : ∃ (d : Dc) (u : Value), cs = [.string d.n, u, .bool d.i] ∧ VsAt (fun _ => True) W u d.vs ∧ Y.V.most d.vs ∧ d.n.size ≤ 140737488351232 ∧ ∀ y ∈ d.vs, y.tok.tx.size ≤ 140737488351232 ∧ y.tok.un.size ≤ 140737488351232 := by
  obtain ⟨n, u, i, m, z, rfl, hz, hx⟩ := decl_val hf
  rw [hx] at hM
  obtain ⟨w1, w2⟩ := decl_weights hM
  obtain ⟨vs, h1, h2, h3⟩ := open_reach m u z hz w2
  exact ⟨⟨n, vs, i⟩, u, rfl, h1, h2, w1, h3⟩
theorem open_decls {H : Type} {enc : TypeId × Value → H} {W : World} {base : Nat} {sp : Nat → Bool} {held : Bool} (fuel : Nat) (v : Value) (x : DataW H × List MemPlace) (hf : DataW.trod enc Tryz.prog W base sp held fuel 22 [v] = some x) (hM : (x.1.weights Tryz.prog 22).all (· ≤ reachBytes) = true) :
    ∃ ds, DsAt (fun _ => True) W v ds ∧ DsIn ds := by
  rcases DataW.trod_slice Tryz.underlying22 hf with ⟨hcs, _⟩ | ⟨a, len, cap, elems, rest, n, rfl, hcs, hx, hb, hl, hcap, hel, hget, _⟩
  · have e := head_of hcs
    subst e
    exact ⟨[], ⟨none, 0, 0, 0, rfl, by simp, by simp, fun k d h => by simp at h⟩, fun d hd => by cases hd⟩
  · have hx1 : x.1 = DataW.slice (elems.map (·.1)) (rest.map (·.1)) := congrArg Prod.fst hx
    have hle : elems.length = len := by omega
    rw [hx1] at hM
    simp only [DataW.weights, Tryz.underlying22, List.all_cons, List.all_append, Bool.and_eq_true, decide_eq_true_eq, b26, List.length_map] at hM
    have hel2 : ∀ i (hi : i < len), ((elems[i]'(by omega)).1.weights Tryz.prog 26).all (· ≤ reachBytes) = true := fun i hi => all_part hM.2.1 _ (List.mem_map.2 ⟨_, List.getElem_mem _, rfl⟩)
    have key : ∀ i (hi : i < len), ∃ q : Dc × Value, (∀ j, j < 3 → W.cell? ((a.add (i * 3)).add j) = [.string q.1.n, q.2, .bool q.1.i][j]?) ∧ VsAt (fun _ => True) W q.2 q.1.vs ∧ Y.V.most q.1.vs ∧ q.1.n.size ≤ 140737488351232 ∧ ∀ y ∈ q.1.vs, y.tok.tx.size ≤ 140737488351232 ∧ y.tok.un.size ≤ 140737488351232 := by
      intro i hi
      have h1 := hget i hi
      rw [k26] at h1
      have h2 : elems[i]? = some (elems[i]'(by omega)) := List.getElem?_eq_getElem (by omega)
      rw [h2, Option.bind_eq_some_iff] at h1
      obtain ⟨cs, hc, ht⟩ := h1
      obtain ⟨_, _, hce⟩ := cells_each hc
      obtain ⟨d, u, rfl, h3, h4, h5, h6⟩ := open_decl ht (hel2 i hi)
      exact ⟨(d, u), hce, h3, h4, h5, h6⟩
    obtain ⟨f, hfi⟩ : ∃ f : Nat → Dc × Value, ∀ i (hi : i < len), (∀ j, j < 3 → W.cell? ((a.add (i * 3)).add j) = [.string (f i).1.n, (f i).2, .bool (f i).1.i][j]?) ∧ VsAt (fun _ => True) W (f i).2 (f i).1.vs ∧ Y.V.most (f i).1.vs ∧ (f i).1.n.size ≤ 140737488351232 ∧ ∀ y ∈ (f i).1.vs, y.tok.tx.size ≤ 140737488351232 ∧ y.tok.un.size ≤ 140737488351232 := by
      refine ⟨fun i => if h : i < len then (key i h).choose else (⟨⟨#[]⟩, [], false⟩, .slice none 0 0), fun i hi => ?_⟩
      simp only [hi, dif_pos]
      exact (key i hi).choose_spec
    have hll : ((List.range len).map fun i => (f i).1).length = len := by simp
    have e := head_of hcs
    subst e
    obtain ⟨b, off, spot⟩ := a
    refine ⟨(List.range len).map fun i => (f i).1, ⟨some ⟨b, off, spot⟩, cap, b, off, by rw [hll], by rw [hll]; exact hl, Nat.le_trans hcap (by decide), fun k d hd => ?_⟩, fun d hd => ?_⟩
    · have hk : k < len := by
        have := (List.getElem?_eq_some_iff.1 hd).1
        rw [hll] at this
        exact this
      have ed : d = (f k).1 := by
        rw [List.getElem?_map, List.getElem?_range hk] at hd
        simpa using hd.symm
      subst ed
      have hc' : W.cell? ((⟨b, off, spot⟩ : Addr).add (0 * 3) |>.add 0) = some (.string (f 0).1.n) := (hfi 0 (by omega)).1 0 (by omega)
      have hspot : spot = none := by simpa [Addr.add] using World.cell?_spot hc'
      subst hspot
      refine ⟨rfl, (f k).2, (hfi k hk).2.1, fun w' hb' => ?_⟩
      have hq : ∀ j u, j < 3 → [.string (f k).1.n, (f k).2, .bool (f k).1.i][j]? = some u → w'.cell? ⟨b, off + k * 3 + j, none⟩ = some u := fun j u hj hu => by
        have h1 := (hfi k hk).1 j hj
        rw [add_none, add_none, hu] at h1
        exact (hb'.cell (p := ⟨b, off + k * 3 + j, none⟩) (P.lt_of_cell h1)).trans h1
      exact ⟨hq 0 _ (by omega) rfl, hq 1 _ (by omega) rfl, hq 2 _ (by omega) rfl⟩
    · obtain ⟨i, hi, rfl⟩ := List.mem_map.1 hd
      have h := hfi i (List.mem_range.1 hi)
      exact ⟨h.2.2.1, h.2.2.2.1, h.2.2.2.2⟩
end Go.Proofs.YtlhdapckenjigaaGreatDoor.S
