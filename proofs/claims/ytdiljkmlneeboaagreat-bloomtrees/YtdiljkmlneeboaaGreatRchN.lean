/- Acts that came in as arguments. The strings of acts that came in are within reach. -/
import Derived.Test.YtdiljkmlneeboaaGreatLivN
import Derived.ProofKit
import Derived.OpenShut
import Derived.ChangeOld
import Derived.SizedLaws
namespace Go.Proofs.YtdiljkmlneeboaaGreat.N
open Go.RowKit Go.ChangeAt Go.WideShapes Go.ChangeShapes
set_option maxRecDepth 100000

/-- An act: its kind, three numbers, two texts. -/
structure Act6 where
  k : Int
  x : Int
  y : Int
  z : Int
  nm : ByteArray
  v : ByteArray
def Act6.cells (a : Act6) : List Value := [.int .i64 a.k, .int .i64 a.x, .int .i64 a.y, .int .i64 a.z, .string a.nm, .string a.v]
/-- The slice holds the acts. -/
def ActsAt (W : World) (v : Value) (xs : List Act6) : Prop :=
  ∃ a cap, v = .slice a xs.length cap ∧ xs.length ≤ cap ∧ cap ≤ 9223372036854775807 ∧ (0 < xs.length → ∃ b off, a = some ⟨b, off, none⟩ ∧ b < W.heap.size ∧ ∀ i (h : i < xs.length), (∀ j, j < 6 → W.cell? ⟨b, off + i * 6 + j, none⟩ = (xs[i]'h).cells[j]?) ∧ (xs[i]'h).nm.size ≤ maxLen ∧ (xs[i]'h).v.size ≤ maxLen)
theorem cells_each {w : World} {base n : Nat} {a : Addr} {cs : List Value} (h : w.cells? base a n = some cs) : base ≤ a.block ∧ cs.length = n ∧ ∀ i, i < n → w.cell? (a.add i) = cs[i]? := by
  unfold World.cells? at h
  split at h
  · rename_i hb
    refine ⟨hb, ?_, fun i hi => ?_⟩
    · have := mapM_some_length h
      simpa using this
    · exact mapM_some_get h i i (by simp [hi])
  · cases h
theorem add_none (b off j : Nat) : (⟨b, off, none⟩ : Addr).add j = ⟨b, off + j, none⟩ := by unfold Addr.add; split <;> simp_all
theorem c3 : Tryz.prog.cellsOf 3 = 1 := by kernel_rfl
theorem c9 : Tryz.prog.cellsOf 9 = 1 := by kernel_rfl
theorem c33 : Tryz.prog.cellsOf 53 = 6 := by kernel_rfl
theorem head_of {a b : Value} (h : [a] = [b]) : a = b := by simpa using h
set_option maxRecDepth 100000 in
/-- What an act that came in holds. -/
theorem trod_act {H : Type} {enc : TypeId × Value → H} {W : World} {base fuel : Nat} {sp : Nat → Bool} {held : Bool} {cs : List Value} {x : DataW H × List MemPlace}
    (hf : DataW.trod enc Tryz.prog W base sp held fuel 53 cs = some x) (hcl : cs.length = 6) : ∃ z : Act6, cs = z.cells ∧ z.nm.size ≤ maxLen ∧ z.v.size ≤ maxLen := by
  obtain ⟨y0, y1, y2, y3, y4, y5, rfl⟩ : ∃ y0 y1 y2 y3 y4 y5, cs = [y0, y1, y2, y3, y4, y5] := by
    match cs, hcl with
    | [a, b, c, d, e, f], _ => exact ⟨a, b, c, d, e, f, rfl⟩
  obtain ⟨xs, n, rfl, hx, hl, hxl, hel⟩ := DataW.trod_struct Tryz.underlying53 hf
  have h0 := hel 0 _ rfl
  have h1 := hel 1 _ rfl
  have h2 := hel 2 _ rfl
  have h3 := hel 3 _ rfl
  have h4 := hel 4 _ rfl
  have h5 := hel 5 _ rfl
  have hxl3 : xs.length = 6 := hxl
  obtain ⟨x0, x1, x2, x3, x4, x5, rfl⟩ : ∃ x0 x1 x2 x3 x4 x5, xs = [x0, x1, x2, x3, x4, x5] := by
    match xs, hxl3 with
    | [a, b, c, d, e, f], _ => exact ⟨a, b, c, d, e, f, rfl⟩
  obtain ⟨k0, a0, b0, _⟩ := DataW.trod_int Tryz.underlying3 h0
  obtain ⟨k1, a1, b1, _⟩ := DataW.trod_int Tryz.underlying3 h1
  obtain ⟨k2, a2, b2, _⟩ := DataW.trod_int Tryz.underlying3 h2
  obtain ⟨k3, a3, b3, _⟩ := DataW.trod_int Tryz.underlying3 h3
  obtain ⟨k4, a4, b4, m4⟩ := DataW.trod_string Tryz.underlying9 h4
  obtain ⟨k5, a5, b5, m5⟩ := DataW.trod_string Tryz.underlying9 h5
  refine ⟨⟨k0, k1, k2, k3, k4, k5⟩, ?_, m4, m5⟩
  have e0 : y0 = .int .i64 k0 := head_of (by rw [← a0]; show _ = List.take (Tryz.prog.cellsOf 3) _; rw [c3]; rfl)
  have e1 : y1 = .int .i64 k1 := head_of (by rw [← a1]; show _ = List.take (Tryz.prog.cellsOf 3) _; rw [c3]; rfl)
  have e2 : y2 = .int .i64 k2 := head_of (by rw [← a2]; show _ = List.take (Tryz.prog.cellsOf 3) _; rw [c3]; rfl)
  have e3 : y3 = .int .i64 k3 := head_of (by rw [← a3]; show _ = List.take (Tryz.prog.cellsOf 3) _; rw [c3]; rfl)
  have e4 : y4 = .string k4 := head_of (by rw [← a4]; show _ = List.take (Tryz.prog.cellsOf 9) _; rw [c9]; rfl)
  have e5 : y5 = .string k5 := head_of (by rw [← a5]; show _ = List.take (Tryz.prog.cellsOf 9) _; rw [c9]; rfl)
  rw [e0, e1, e2, e3, e4, e5]
  rfl
/-- A lone act. -/
theorem open_act {H : Type} {enc : TypeId × Value → H} {W : World} {base : Nat} {v : Value} {d : DataW H} {ps : List MemPlace} (hval : Value.okWide Tryz.prog W .any base 53 v) (hd : DataW.Trod enc Tryz.prog W 0 (fun _ => true) true 53 v d ps) :
    ∃ z : Act6, v = .agg z.cells.toArray ∧ z.nm.size ≤ maxLen ∧ z.v.size ≤ maxLen := by
  obtain ⟨cs, rfl, hcs⟩ := okWide_struct Tryz.underlying53 hval
  obtain ⟨fuel, hf⟩ := hd
  rw [c33] at hcs
  obtain ⟨l⟩ := cs
  obtain ⟨z, hz, h1, h2⟩ := trod_act hf (by simpa [Value.cells] using hcs)
  refine ⟨z, ?_, h1, h2⟩
  have : l = z.cells := by simpa [Value.cells] using hz
  rw [this]
/-- What acts that came in are. -/
theorem open_acts {H : Type} {enc : TypeId × Value → H} {W : World} {base fuel : Nat} {sp : Nat → Bool} {held : Bool} {v : Value} {x : DataW H × List MemPlace}
    (hf : DataW.trod enc Tryz.prog W base sp held fuel 22 [v] = some x) : ∃ xs, ActsAt W v xs := by
  rcases DataW.trod_slice Tryz.underlying22 hf with ⟨hcs, _⟩ | ⟨a, len, cap, elems, rest, n, rfl, hcs, _, hb, hl, hcap, hel, hget, _⟩
  · refine ⟨[], none, 0, head_of hcs, Nat.le_refl _, by decide, fun h => absurd h (by simp)⟩
  · have key : ∀ i, i < len → ∃ (z : Act6), (∀ j, j < 6 → W.cell? ((a.add (i * 6)).add j) = z.cells[j]?) ∧ z.nm.size ≤ maxLen ∧ z.v.size ≤ maxLen := by
      intro i hi
      have h1 := hget i hi
      rw [c33] at h1
      have h2 : elems[i]? = some (elems[i]'(by omega)) := List.getElem?_eq_getElem (by omega)
      rw [h2, Option.bind_eq_some_iff] at h1
      obtain ⟨cs, hc, ht⟩ := h1
      obtain ⟨_, hcl, hce⟩ := cells_each hc
      obtain ⟨z, rfl, m1⟩ := trod_act ht hcl
      exact ⟨z, hce, m1⟩
    have hch : ∃ f : Nat → Act6, ∀ i, i < len → (∀ j, j < 6 → W.cell? ((a.add (i * 6)).add j) = (f i).cells[j]?) ∧ (f i).nm.size ≤ maxLen ∧ (f i).v.size ≤ maxLen := by
      refine ⟨fun i => if h : i < len then (key i h).choose else ⟨0, 0, 0, 0, ByteArray.empty, ByteArray.empty⟩, fun i hi => ?_⟩
      simp only [hi, dif_pos]
      exact (key i hi).choose_spec
    obtain ⟨f, hfi⟩ := hch
    have hll : ((List.range len).map f).length = len := by simp
    refine ⟨(List.range len).map f, some a, cap, by rw [hll]; exact head_of hcs, by rw [hll]; exact hl, Nat.le_trans hcap (by decide), fun h0 => ?_⟩
    rw [hll] at h0
    obtain ⟨b, off, spot⟩ := a
    have hc' : W.cell? ((⟨b, off, spot⟩ : Addr).add (0 * 6) |>.add 0) = some (.int .i64 (f 0).k) := (hfi 0 h0).1 0 (by omega)
    have hspot : spot = none := by simpa [Addr.add] using World.cell?_spot hc'
    subst hspot
    refine ⟨b, off, rfl, ?_, fun i hi => ?_⟩
    · have := World.block_lt_of_cell? W _ hc'
      simpa [add_none] using this
    · rw [hll] at hi
      have e : ((List.range len).map f)[i]'(by rw [hll]; exact hi) = f i := by simp
      rw [e]
      obtain ⟨h1, h2⟩ := hfi i hi
      refine ⟨fun j hj => ?_, h2⟩
      have k0 := h1 j hj
      rw [add_none, add_none] at k0
      exact k0

end Go.Proofs.YtdiljkmlneeboaaGreat.N
namespace Go.Proofs.YtdiljkmlneeboaaGreat.N
open Go.RowKit
set_option maxRecDepth 100000

/-- Each weight is within reach. -/
def Rch {H : Type} (t : TypeId) (d : DataW H) : Prop := ∀ n ∈ d.weights Tryz.prog t, n ≤ reachBytes
theorem rch_at {H : Type} {ts : List TypeId} {ds : List (DataW H)} (h : (DataW.weightsEach Tryz.prog ts ds).all (· ≤ reachBytes) = true) {j : Nat} {t : TypeId} {d : DataW H} (ht : ts[j]? = some t) (hd : ds[j]? = some d) : Rch t d := fun n hn => by
  have := List.all_eq_true.1 h _ (DataW.weights_mem_each ht hd n hn)
  simpa using this
theorem reach_act {H : Type} {enc : TypeId × Value → H} {W : World} {base fuel : Nat} {sp : Nat → Bool} {held : Bool} {z : Act6} {x : DataW H × List MemPlace}
    (hf : DataW.trod enc Tryz.prog W base sp held fuel 53 z.cells = some x) (hr : Rch 53 x.1) : z.nm.size ≤ reachBytes ∧ z.v.size ≤ reachBytes := by
  obtain ⟨k, a, b, c, nm, v⟩ := z
  obtain ⟨xs, n, rfl, hx, hl, hxl, hel⟩ := DataW.trod_struct Tryz.underlying53 hf
  have h4 := hel 4 _ rfl
  have h5 := hel 5 _ rfl
  have hxl6 : xs.length = 6 := hxl
  obtain ⟨x0, x1, x2, x3, x4, x5, rfl⟩ : ∃ x0 x1 x2 x3 x4 x5, xs = [x0, x1, x2, x3, x4, x5] := by
    match xs, hxl6 with
    | [a, b, c, d, e, f], _ => exact ⟨a, b, c, d, e, f, rfl⟩
  obtain ⟨nm', a4, b4, m4⟩ := DataW.trod_string Tryz.underlying9 h4
  obtain ⟨v', a5, b5, m5⟩ := DataW.trod_string Tryz.underlying9 h5
  have e4 : Value.string nm = .string nm' := head_of (by rw [← a4]; show _ = List.take (Tryz.prog.cellsOf 9) _; rw [c9]; rfl)
  have e5 : Value.string v = .string v' := head_of (by rw [← a5]; show _ = List.take (Tryz.prog.cellsOf 9) _; rw [c9]; rfl)
  cases e4
  cases e5
  have hx1 : x.1 = DataW.agg ([x0, x1, x2, x3, x4, x5].map (·.1)) := congrArg Prod.fst hx
  have q4 : x4.1 = .lit (.string nm.data.toList) := by rw [b4]
  have q5 : x5.1 = .lit (.string v.data.toList) := by rw [b5]
  unfold Rch at hr
  rw [hx1] at hr
  have hw : DataW.weights Tryz.prog 53 (DataW.agg ([x0, x1, x2, x3, x4, x5].map (·.1))) = x0.1.weights Tryz.prog 3 ++ (x1.1.weights Tryz.prog 3 ++ (x2.1.weights Tryz.prog 3 ++ (x3.1.weights Tryz.prog 3 ++ (x4.1.weights Tryz.prog 9 ++ (x5.1.weights Tryz.prog 9 ++ []))))) := by
    simp only [DataW.weights, Tryz.underlying53, DataW.weightsEach, List.map]
  rw [hw] at hr
  refine ⟨?_, ?_⟩
  · have := hr nm.data.toList.length (by rw [q4]; simp [DataW.weights])
    simpa using this
  · have := hr v.data.toList.length (by rw [q5]; simp [DataW.weights])
    simpa using this
theorem weightsAll_mem {H : Type} {e : TypeId} : ∀ {ds : List (DataW H)} {d : DataW H}, d ∈ ds → ∀ m ∈ d.weights Tryz.prog e, m ∈ DataW.weightsAll Tryz.prog e ds
  | [], _, h, _, _ => by cases h
  | y :: r, d, h, m, hm => by
    rw [DataW.weightsAll]
    rcases List.mem_cons.1 h with rfl | h
    · exact List.mem_append_left _ hm
    · exact List.mem_append_right _ (weightsAll_mem h m hm)
/-- Acts whose texts are within reach. -/
def ActsIn (W : World) (v : Value) (xs : List Act6) : Prop := ActsAt W v xs ∧ ∀ z ∈ xs, z.nm.size ≤ 140737488355328 ∧ z.v.size ≤ 140737488355328
theorem reach_acts {H : Type} {enc : TypeId × Value → H} {W : World} {base fuel : Nat} {sp : Nat → Bool} {held : Bool} {v : Value} {x : DataW H × List MemPlace}
    (hf : DataW.trod enc Tryz.prog W base sp held fuel 22 [v] = some x) (hr : Rch 22 x.1) : ∃ xs, ActsIn W v xs := by
  have hf' := hf
  obtain ⟨ts, hv⟩ := open_acts hf
  refine ⟨ts, hv, fun t ht => ?_⟩
  rcases DataW.trod_slice Tryz.underlying22 hf' with ⟨hcs, _⟩ | ⟨a, len, cap, elems, rest, n, rfl, hcs, hx, hb, hl, hcap, hel, hget, _⟩
  · obtain ⟨a, cap, hv1, _⟩ := hv
    have := head_of hcs
    rw [hv1] at this
    have h0 : ts.length = 0 := by injection this
    rw [List.length_eq_zero_iff.1 h0] at ht
    cases ht
  · obtain ⟨i, hi, rfl⟩ := List.getElem_of_mem ht
    obtain ⟨a', cap', hv1, _, _, hc⟩ := hv
    have e0 := head_of hcs
    rw [hv1] at e0
    have ea : a' = some a := by injection e0
    have elen : ts.length = len := by injection e0
    obtain ⟨b, off, ha, _, hcell⟩ := hc (by omega)
    rw [ea] at ha
    cases ha
    have h1 := hget i (by omega)
    rw [c33] at h1
    have hie : i < elems.length := by omega
    have h2 : elems[i]? = some (elems[i]'hie) := List.getElem?_eq_getElem hie
    rw [h2, Option.bind_eq_some_iff] at h1
    obtain ⟨cs, hcs2, ht2⟩ := h1
    have hx1 : x.1 = DataW.slice (elems.map (·.1)) (rest.map (·.1)) := congrArg Prod.fst hx
    have hr2 : Rch 53 (elems[i]'hie).1 := by
      intro m hm
      refine hr m ?_
      rw [hx1]
      have : DataW.weights Tryz.prog 22 (DataW.slice (elems.map (·.1)) (rest.map (·.1))) = ((elems.map (·.1)).length + (rest.map (·.1)).length) * Tryz.prog.bytesOf 53 :: (DataW.weightsAll Tryz.prog 53 (elems.map (·.1)) ++ DataW.weightsAll Tryz.prog 53 (rest.map (·.1))) := by
        rw [DataW.weights, Tryz.underlying22]
      rw [this]
      exact List.mem_cons_of_mem _ (List.mem_append_left _ (weightsAll_mem (List.mem_map.2 ⟨_, List.getElem_mem hie, rfl⟩) m hm))
    obtain ⟨_, hcl, hce⟩ := cells_each hcs2
    obtain ⟨t', rfl, _⟩ := trod_act ht2 hcl
    obtain ⟨r1, r2⟩ := reach_act ht2 hr2
    have t4 := (hcell i hi).1 4 (by omega)
    have t5 := (hcell i hi).1 5 (by omega)
    have u4 := hce 4 (by omega)
    have u5 := hce 5 (by omega)
    rw [add_none, add_none, t4] at u4
    rw [add_none, add_none, t5] at u5
    have v4 : (ts[i]'hi).nm = t'.nm := by simpa [Act6.cells] using u4
    have v5 : (ts[i]'hi).v = t'.v := by simpa [Act6.cells] using u5
    rw [v4, v5]
    exact ⟨Nat.le_trans r1 (by decide), Nat.le_trans r2 (by decide)⟩
theorem ActsAt.keep {W W' : World} {v : Value} {xs : List Act6} (h : ActsAt W v xs) (hb : Below W.heap.size W W') : ActsAt W' v xs := by
  obtain ⟨a, cap, e, h1, h2, h3⟩ := h
  refine ⟨a, cap, e, h1, h2, fun h0 => ?_⟩
  obtain ⟨b, off, e2, hl, hc⟩ := h3 h0
  exact ⟨b, off, e2, Nat.lt_of_lt_of_le hl hb.size, fun i hi => ⟨fun j hj => (hb.cell (p := ⟨b, off + i * 6 + j, none⟩) hl).trans ((hc i hi).1 j hj), (hc i hi).2⟩⟩
/-- What an act's cells are. -/
theorem ActsAt.cells {W : World} {v : Value} {xs : List Act6} (h : ActsAt W v xs) {i : Nat} (hi : i < xs.length) : ∃ b off cap, v = .slice (some ⟨b, off, none⟩) xs.length cap ∧ xs.length ≤ cap ∧ b < W.heap.size ∧ W.cell? ⟨b, off + i * 6, none⟩ = some (.int .i64 xs[i].k) ∧ W.cell? ⟨b, off + i * 6 + 1, none⟩ = some (.int .i64 xs[i].x) ∧ W.cell? ⟨b, off + i * 6 + 2, none⟩ = some (.int .i64 xs[i].y) ∧ W.cell? ⟨b, off + i * 6 + 3, none⟩ = some (.int .i64 xs[i].z) ∧ W.cell? ⟨b, off + i * 6 + 4, none⟩ = some (.string xs[i].nm) ∧ W.cell? ⟨b, off + i * 6 + 5, none⟩ = some (.string xs[i].v) := by
  obtain ⟨a, cap, e, h1, h2, h3⟩ := h
  obtain ⟨b, off, rfl, hl, hc⟩ := h3 (by omega)
  have := (hc i hi).1
  exact ⟨b, off, cap, e, h1, hl, this 0 (by omega), this 1 (by omega), this 2 (by omega), this 3 (by omega), this 4 (by omega), this 5 (by omega)⟩

end Go.Proofs.YtdiljkmlneeboaaGreat.N
