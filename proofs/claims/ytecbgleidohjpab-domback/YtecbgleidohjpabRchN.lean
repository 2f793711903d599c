/- The strings of acts that came in are within reach. -/
import Derived.Test.YtecbgleidohjpabOpnN
import Derived.SizedLaws
namespace Go.Proofs.Ytecbgleidohjpab.N
open Go.RowKit
set_option maxRecDepth 100000

/-- Each weight is within reach. -/
def Rch {H : Type} (t : TypeId) (d : DataW H) : Prop := ∀ n ∈ d.weights Try.prog t, n ≤ reachBytes
theorem rch_at {H : Type} {ts : List TypeId} {ds : List (DataW H)} (h : (DataW.weightsEach Try.prog ts ds).all (· ≤ reachBytes) = true) {j : Nat} {t : TypeId} {d : DataW H} (ht : ts[j]? = some t) (hd : ds[j]? = some d) : Rch t d := fun n hn => by
  have := List.all_eq_true.1 h _ (DataW.weights_mem_each ht hd n hn)
  simpa using this
theorem reach_act {H : Type} {enc : TypeId × Value → H} {W : World} {base fuel : Nat} {sp : Nat → Bool} {held : Bool} {z : Act6} {x : DataW H × List MemPlace}
    (hf : DataW.trod enc Try.prog W base sp held fuel 30 z.cells = some x) (hr : Rch 30 x.1) : z.nm.size ≤ reachBytes ∧ z.v.size ≤ reachBytes := by
  obtain ⟨k, a, b, c, nm, v⟩ := z
  obtain ⟨xs, n, rfl, hx, hl, hxl, hel⟩ := DataW.trod_struct Try.underlying30 hf
  have h4 := hel 4 _ rfl
  have h5 := hel 5 _ rfl
  have hxl6 : xs.length = 6 := hxl
  obtain ⟨x0, x1, x2, x3, x4, x5, rfl⟩ : ∃ x0 x1 x2 x3 x4 x5, xs = [x0, x1, x2, x3, x4, x5] := by
    match xs, hxl6 with
    | [a, b, c, d, e, f], _ => exact ⟨a, b, c, d, e, f, rfl⟩
  obtain ⟨nm', a4, b4, m4⟩ := DataW.trod_string Try.underlying9 h4
  obtain ⟨v', a5, b5, m5⟩ := DataW.trod_string Try.underlying9 h5
  have e4 : Value.string nm = .string nm' := head_of (by rw [← a4]; show _ = List.take (Try.prog.cellsOf 9) _; rw [c9]; rfl)
  have e5 : Value.string v = .string v' := head_of (by rw [← a5]; show _ = List.take (Try.prog.cellsOf 9) _; rw [c9]; rfl)
  cases e4
  cases e5
  have hx1 : x.1 = DataW.agg ([x0, x1, x2, x3, x4, x5].map (·.1)) := congrArg Prod.fst hx
  have q4 : x4.1 = .lit (.string nm.data.toList) := by rw [b4]
  have q5 : x5.1 = .lit (.string v.data.toList) := by rw [b5]
  unfold Rch at hr
  rw [hx1] at hr
  have hw : DataW.weights Try.prog 30 (DataW.agg ([x0, x1, x2, x3, x4, x5].map (·.1))) = x0.1.weights Try.prog 3 ++ (x1.1.weights Try.prog 3 ++ (x2.1.weights Try.prog 3 ++ (x3.1.weights Try.prog 3 ++ (x4.1.weights Try.prog 9 ++ (x5.1.weights Try.prog 9 ++ []))))) := by
    simp only [DataW.weights, Try.underlying30, DataW.weightsEach, List.map]
  rw [hw] at hr
  refine ⟨?_, ?_⟩
  · have := hr nm.data.toList.length (by rw [q4]; simp [DataW.weights])
    simpa using this
  · have := hr v.data.toList.length (by rw [q5]; simp [DataW.weights])
    simpa using this
theorem weightsAll_mem {H : Type} {e : TypeId} : ∀ {ds : List (DataW H)} {d : DataW H}, d ∈ ds → ∀ m ∈ d.weights Try.prog e, m ∈ DataW.weightsAll Try.prog e ds
  | [], _, h, _, _ => by cases h
  | y :: r, d, h, m, hm => by
    rw [DataW.weightsAll]
    rcases List.mem_cons.1 h with rfl | h
    · exact List.mem_append_left _ hm
    · exact List.mem_append_right _ (weightsAll_mem h m hm)
/-- Acts whose texts are within reach. -/
def ActsIn (W : World) (v : Value) (xs : List Act6) : Prop := ActsAt W v xs ∧ ∀ z ∈ xs, z.nm.size ≤ 140737488355328 ∧ z.v.size ≤ 140737488355328
theorem reach_acts {H : Type} {enc : TypeId × Value → H} {W : World} {base fuel : Nat} {sp : Nat → Bool} {held : Bool} {v : Value} {x : DataW H × List MemPlace}
    (hf : DataW.trod enc Try.prog W base sp held fuel 22 [v] = some x) (hr : Rch 22 x.1) : ∃ xs, ActsIn W v xs := by
  have hf' := hf
  obtain ⟨ts, hv⟩ := open_acts hf
  refine ⟨ts, hv, fun t ht => ?_⟩
  rcases DataW.trod_slice Try.underlying22 hf' with ⟨hcs, _⟩ | ⟨a, len, cap, elems, rest, n, rfl, hcs, hx, hb, hl, hcap, hel, hget, _⟩
  · obtain ⟨a, cap, hv1, _⟩ := hv
    have := head_of hcs
    rw [hv1] at this
    have h0 : ts.length = 0 := by injection this
    rw [List.length_eq_zero_iff.1 h0] at ht
    cases ht
  · obtain ⟨i, hi, rfl⟩ := List.getElem_of_mem ht
    obtain ⟨a', cap', hv1, _, _, hc⟩ := hv
    have e0 := head_of hcs
    rw [hv1] at e0
    have ea : a' = some a := by injection e0
    have elen : ts.length = len := by injection e0
    obtain ⟨b, off, ha, _, hcell⟩ := hc (by omega)
    rw [ea] at ha
    cases ha
    have h1 := hget i (by omega)
    rw [c33] at h1
    have hie : i < elems.length := by omega
    have h2 : elems[i]? = some (elems[i]'hie) := List.getElem?_eq_getElem hie
    rw [h2, Option.bind_eq_some_iff] at h1
    obtain ⟨cs, hcs2, ht2⟩ := h1
    have hx1 : x.1 = DataW.slice (elems.map (·.1)) (rest.map (·.1)) := congrArg Prod.fst hx
    have hr2 : Rch 30 (elems[i]'hie).1 := by
      intro m hm
      refine hr m ?_
      rw [hx1]
      have : DataW.weights Try.prog 22 (DataW.slice (elems.map (·.1)) (rest.map (·.1))) = ((elems.map (·.1)).length + (rest.map (·.1)).length) * Try.prog.bytesOf 30 :: (DataW.weightsAll Try.prog 30 (elems.map (·.1)) ++ DataW.weightsAll Try.prog 30 (rest.map (·.1))) := by
        rw [DataW.weights, Try.underlying22]
      rw [this]
      exact List.mem_cons_of_mem _ (List.mem_append_left _ (weightsAll_mem (List.mem_map.2 ⟨_, List.getElem_mem hie, rfl⟩) m hm))
    obtain ⟨_, hcl, hce⟩ := cells_each hcs2
    obtain ⟨t', rfl, _⟩ := trod_act ht2 hcl
    obtain ⟨r1, r2⟩ := reach_act ht2 hr2
    have t4 := (hcell i hi).1 4 (by omega)
    have t5 := (hcell i hi).1 5 (by omega)
    have u4 := hce 4 (by omega)
    have u5 := hce 5 (by omega)
    rw [add_none, add_none, t4] at u4
    rw [add_none, add_none, t5] at u5
    have v4 : (ts[i]'hi).nm = t'.nm := by simpa [Act6.cells] using u4
    have v5 : (ts[i]'hi).v = t'.v := by simpa [Act6.cells] using u5
    rw [v4, v5]
    exact ⟨Nat.le_trans r1 (by decide), Nat.le_trans r2 (by decide)⟩
theorem ActsAt.keep {W W' : World} {v : Value} {xs : List Act6} (h : ActsAt W v xs) (hb : Below W.heap.size W W') : ActsAt W' v xs := by
  obtain ⟨a, cap, e, h1, h2, h3⟩ := h
  refine ⟨a, cap, e, h1, h2, fun h0 => ?_⟩
  obtain ⟨b, off, e2, hl, hc⟩ := h3 h0
  exact ⟨b, off, e2, Nat.lt_of_lt_of_le hl hb.size, fun i hi => ⟨fun j hj => (hb.cell (p := ⟨b, off + i * 6 + j, none⟩) hl).trans ((hc i hi).1 j hj), (hc i hi).2⟩⟩
/-- What an act's cells are. -/
theorem ActsAt.cells {W : World} {v : Value} {xs : List Act6} (h : ActsAt W v xs) {i : Nat} (hi : i < xs.length) : ∃ b off cap, v = .slice (some ⟨b, off, none⟩) xs.length cap ∧ xs.length ≤ cap ∧ b < W.heap.size ∧ W.cell? ⟨b, off + i * 6, none⟩ = some (.int .i64 xs[i].k) ∧ W.cell? ⟨b, off + i * 6 + 1, none⟩ = some (.int .i64 xs[i].x) ∧ W.cell? ⟨b, off + i * 6 + 2, none⟩ = some (.int .i64 xs[i].y) ∧ W.cell? ⟨b, off + i * 6 + 3, none⟩ = some (.int .i64 xs[i].z) ∧ W.cell? ⟨b, off + i * 6 + 4, none⟩ = some (.string xs[i].nm) ∧ W.cell? ⟨b, off + i * 6 + 5, none⟩ = some (.string xs[i].v) := by
  obtain ⟨a, cap, e, h1, h2, h3⟩ := h
  obtain ⟨b, off, rfl, hl, hc⟩ := h3 (by omega)
  have := (hc i hi).1
  exact ⟨b, off, cap, e, h1, hl, this 0 (by omega), this 1 (by omega), this 2 (by omega), this 3 (by omega), this 4 (by omega), this 5 (by omega)⟩

end Go.Proofs.Ytecbgleidohjpab.N
