/- The strings of values that came in are within reach. -/
import Derived.Test.YtpflliophellgaaDoorWritten
import Derived.SizedLaws
namespace Go.Proofs.YtpflliophellgaaDoor
open Go.RowKit

/-- Each weight is within reach. -/
def Rch {H : Type} (t : TypeId) (d : DataW H) : Prop := ∀ n ∈ d.weights Tryd.prog t, n ≤ reachBytes
set_option maxRecDepth 100000 in
theorem reach_tok {H : Type} {enc : TypeId × Value → H} {W : World} {base fuel : Nat} {sp : Nat → Bool} {held : Bool} {k : Int} {tx un : ByteArray} {wh fl : Bool} {x : DataW H × List MemPlace}
    (hf : DataW.trod enc Tryd.prog W base sp held fuel 26 [.int .i64 k, .string tx, .string un, .bool wh, .bool fl] = some x) (hr : Rch 26 x.1) : tx.size ≤ reachBytes ∧ un.size ≤ reachBytes := by
  obtain ⟨xs, n, rfl, hx, hl, hxl, hel⟩ := DataW.trod_struct Tryd.underlying26 hf
  have h1 := hel 1 _ rfl
  have h2 := hel 2 _ rfl
  have hxl5 : xs.length = 5 := hxl
  obtain ⟨x0, x1, x2, x3, x4, rfl⟩ : ∃ x0 x1 x2 x3 x4, xs = [x0, x1, x2, x3, x4] := by
    match xs, hxl5 with
    | [a, b, c, d, e], _ => exact ⟨a, b, c, d, e, rfl⟩
  obtain ⟨tx', a1, b1, m1⟩ := DataW.trod_string Tryd.underlying9 h1
  obtain ⟨un', a2, b2, m2⟩ := DataW.trod_string Tryd.underlying9 h2
  have e1 : Value.string tx = .string tx' := head_of (by rw [← a1]; show _ = List.take (Tryd.prog.cellsOf 9) _; rw [c9]; rfl)
  have e2 : Value.string un = .string un' := head_of (by rw [← a2]; show _ = List.take (Tryd.prog.cellsOf 9) _; rw [c9]; rfl)
  cases e1
  cases e2
  have hx1 : x.1 = DataW.agg ([x0, x1, x2, x3, x4].map (·.1)) := congrArg Prod.fst hx
  have q1 : x1.1 = .lit (.string tx.data.toList) := by rw [b1]
  have q2 : x2.1 = .lit (.string un.data.toList) := by rw [b2]
  unfold Rch at hr
  rw [hx1] at hr
  have hw : DataW.weights Tryd.prog 26 (DataW.agg ([x0, x1, x2, x3, x4].map (·.1))) = x0.1.weights Tryd.prog 3 ++ (x1.1.weights Tryd.prog 9 ++ (x2.1.weights Tryd.prog 9 ++ (x3.1.weights Tryd.prog 4 ++ (x4.1.weights Tryd.prog 4 ++ [])))) := by
    simp only [DataW.weights, Tryd.underlying26, DataW.weightsEach, List.map]
  rw [hw] at hr
  refine ⟨?_, ?_⟩
  · have := hr tx.data.toList.length (by rw [q1]; simp [DataW.weights])
    simpa using this
  · have := hr un.data.toList.length (by rw [q2]; simp [DataW.weights])
    simpa using this
set_option maxRecDepth 100000 in
theorem reach_val {H : Type} {enc : TypeId × Value → H} {W : World} {base fuel : Nat} {sp : Nat → Bool} {held : Bool} {cs : List Value} {x : DataW H × List MemPlace}
    (hf : DataW.trod enc Tryd.prog W base sp held fuel 28 cs = some x) (hr : Rch 28 x.1) : ∃ (k : Int) (tx un : ByteArray) (wh fl : Bool) (kid : Value) (m : Nat) (z : DataW H × List MemPlace), cs = [.int .i64 k, .string tx, .string un, .bool wh, .bool fl, kid] ∧ m < fuel ∧ DataW.trod enc Tryd.prog W base sp held m 22 [kid] = some z ∧ tx.size ≤ reachBytes ∧ un.size ≤ reachBytes ∧ Rch 22 z.1 := by
  obtain ⟨xs, n, rfl, hx, hl, hxl, hel⟩ := DataW.trod_struct Tryd.underlying28 hf
  have h0 := hel 0 _ rfl
  have h1 := hel 1 _ rfl
  have hxl2 : xs.length = 2 := hxl
  obtain ⟨x0, x1, rfl⟩ : ∃ x0 x1, xs = [x0, x1] := by
    match xs, hxl2 with
    | [a, b], _ => exact ⟨a, b, rfl⟩
  rw [c28] at hl
  obtain ⟨y0, y1, y2, y3, y4, kid, rfl⟩ : ∃ y0 y1 y2 y3 y4 y5, cs = [y0, y1, y2, y3, y4, y5] := by
    match cs, hl with
    | [a, b, c, d, e, f], _ => exact ⟨a, b, c, d, e, f, rfl⟩
  have h0' : DataW.trod enc Tryd.prog W base sp held n 26 [y0, y1, y2, y3, y4] = some x0 := by
    have e : List.take (Tryd.prog.cellsOf 26) (List.drop 0 [y0, y1, y2, y3, y4, kid]) = [y0, y1, y2, y3, y4] := by rw [c26]; rfl
    rw [← e]
    exact h0
  have h1' : DataW.trod enc Tryd.prog W base sp held n 22 [kid] = some x1 := by
    have e : List.take (Tryd.prog.cellsOf 22) (List.drop 5 [y0, y1, y2, y3, y4, kid]) = [kid] := by rw [c22]; rfl
    rw [← e]
    exact h1
  obtain ⟨k, tx, un, wh, fl, rfl, rfl, rfl, rfl, rfl, _, _⟩ := trod_tok h0'
  have hx1 : x.1 = DataW.agg ([x0, x1].map (·.1)) := congrArg Prod.fst hx
  unfold Rch at hr
  rw [hx1] at hr
  have hw : DataW.weights Tryd.prog 28 (DataW.agg ([x0, x1].map (·.1))) = x0.1.weights Tryd.prog 26 ++ (x1.1.weights Tryd.prog 22 ++ []) := by
    simp only [DataW.weights, Tryd.underlying28, DataW.weightsEach, List.map]
  rw [hw] at hr
  have hs := reach_tok h0' (fun n hn => hr n (by simp [hn]))
  exact ⟨k, tx, un, wh, fl, kid, n, x1, rfl, by omega, h1', hs.1, hs.2, fun n hn => hr n (by simp [hn])⟩
theorem weightsAll_mem {H : Type} {e : TypeId} : ∀ {l : List (DataW H)} {d : DataW H}, d ∈ l → ∀ n ∈ d.weights Tryd.prog e, n ∈ DataW.weightsAll Tryd.prog e l
  | x :: r, d, h, n, hn => by
    rw [DataW.weightsAll]
    rcases List.mem_cons.1 h with rfl | h
    · exact List.mem_append_left _ hn
    · exact List.mem_append_right _ (weightsAll_mem h n hn)
/-- As ValsAt of what came in, with the strings within reach. -/
theorem reach_vals {H : Type} {enc : TypeId × Value → H} {W : World} {base fuel : Nat} {sp : Nat → Bool} {held : Bool} {v : Value} {x : DataW H × List MemPlace}
    (hf : DataW.trod enc Tryd.prog W base sp held fuel 22 [v] = some x) (hr : Rch 22 x.1) : ∃ ts, ValsAt W v ts ∧ ∀ t ∈ ts, t.tx.size ≤ reachBytes ∧ t.un.size ≤ reachBytes := by
  have hf' := hf
  obtain ⟨ts, hv⟩ := vals_of hf
  refine ⟨ts, hv, fun t ht => ?_⟩
  rcases DataW.trod_slice Tryd.underlying22 hf' with ⟨hcs, _⟩ | ⟨a, len, cap, elems, rest, n, rfl, hcs, hx, hb, hl, hcap, hel, hget, _⟩
  · obtain ⟨a, cap, hv1, _⟩ := hv
    have := head_of hcs
    rw [hv1] at this
    have h0 : ts.length = 0 := by injection this
    rw [List.length_eq_zero_iff.1 h0] at ht
    cases ht
  · obtain ⟨i, hi, rfl⟩ := List.getElem_of_mem ht
    obtain ⟨a', cap', hv1, _, _, _, hc⟩ := hv
    have e0 := head_of hcs
    rw [hv1] at e0
    have ea : a' = some a := by injection e0
    have elen : ts.length = len := by injection e0
    obtain ⟨b, off, ha, _, hcell⟩ := hc (by omega)
    rw [ea] at ha
    cases ha
    have h1 := hget i (by omega)
    rw [c28] at h1
    have hie : i < elems.length := by omega
    have h2 : elems[i]? = some (elems[i]'hie) := List.getElem?_eq_getElem hie
    rw [h2, Option.bind_eq_some_iff] at h1
    obtain ⟨cs, hcs2, ht2⟩ := h1
    have hx1 : x.1 = DataW.slice (elems.map (·.1)) (rest.map (·.1)) := congrArg Prod.fst hx
    have hr2 : Rch 28 (elems[i]'hie).1 := by
      intro m hm
      refine hr m ?_
      rw [hx1]
      have : DataW.weights Tryd.prog 22 (DataW.slice (elems.map (·.1)) (rest.map (·.1))) = ((elems.map (·.1)).length + (rest.map (·.1)).length) * Tryd.prog.bytesOf 28 :: (DataW.weightsAll Tryd.prog 28 (elems.map (·.1)) ++ DataW.weightsAll Tryd.prog 28 (rest.map (·.1))) := by
        rw [DataW.weights, Tryd.underlying22]
      rw [this]
      exact List.mem_cons_of_mem _ (List.mem_append_left _ (weightsAll_mem (List.mem_map.2 ⟨_, List.getElem_mem hie, rfl⟩) m hm))
    obtain ⟨k, tx, un, wh, fl, kid, m, z, rfl, _, _, r1, r2, _⟩ := reach_val ht2 hr2
    obtain ⟨_, _, hce⟩ := cells_each hcs2
    have t1 := hcell i hi 1 _ rfl
    have t2 := hcell i hi 2 _ rfl
    have u1 := hce 1 (by omega)
    have u2 := hce 2 (by omega)
    rw [add_none, add_none, t1] at u1
    rw [add_none, add_none, t2] at u2
    have v1 : (ts[i]'hi).tx = tx := by simpa using u1
    have v2 : (ts[i]'hi).un = un := by simpa using u2
    rw [v1, v2]
    exact ⟨r1, r2⟩

end Go.Proofs.YtpflliophellgaaDoor
