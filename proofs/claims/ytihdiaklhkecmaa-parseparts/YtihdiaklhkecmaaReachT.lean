/- The strings of tokens that came in are within reach. -/
import Derived.Test.YtihdiaklhkecmaaOpenT
import Derived.SizedLaws
namespace Go.Proofs.Ytihdiaklhkecmaa
open Go.RowKit

/-- Each weight is within reach. -/
def Rch {H : Type} (t : TypeId) (d : DataW H) : Prop := ∀ n ∈ d.weights Try.prog t, n ≤ reachBytes
theorem rch_at {H : Type} {ts : List TypeId} {ds : List (DataW H)} (h : (DataW.weightsEach Try.prog ts ds).all (· ≤ reachBytes) = true) {j : Nat} {t : TypeId} {d : DataW H} (ht : ts[j]? = some t) (hd : ds[j]? = some d) : Rch t d := fun n hn => by
  have := List.all_eq_true.1 h _ (DataW.weights_mem_each ht hd n hn)
  simpa using this
set_option maxRecDepth 100000 in
theorem reach_tok {H : Type} {enc : TypeId × Value → H} {W : World} {base fuel : Nat} {sp : Nat → Bool} {held : Bool} {t : T5} {x : DataW H × List MemPlace}
    (hf : DataW.trod enc Try.prog W base sp held fuel 44 (t5Cells t) = some x) (hr : Rch 44 x.1) : t.tx.size ≤ reachBytes ∧ t.un.size ≤ reachBytes := by
  obtain ⟨k, tx, un, wh, fl⟩ := t
  obtain ⟨xs, n, rfl, hx, hl, hxl, hel⟩ := DataW.trod_struct Try.underlying44 hf
  have h1 := hel 1 _ rfl
  have h2 := hel 2 _ rfl
  have hxl5 : xs.length = 5 := hxl
  obtain ⟨x0, x1, x2, x3, x4, rfl⟩ : ∃ x0 x1 x2 x3 x4, xs = [x0, x1, x2, x3, x4] := by
    match xs, hxl5 with
    | [a, b, c, d, e], _ => exact ⟨a, b, c, d, e, rfl⟩
  obtain ⟨tx', a1, b1, m1⟩ := DataW.trod_string Try.underlying9 h1
  obtain ⟨un', a2, b2, m2⟩ := DataW.trod_string Try.underlying9 h2
  have e1 : Value.string tx = .string tx' := head_of (by rw [← a1]; show _ = List.take (Try.prog.cellsOf 9) _; rw [c9]; rfl)
  have e2 : Value.string un = .string un' := head_of (by rw [← a2]; show _ = List.take (Try.prog.cellsOf 9) _; rw [c9]; rfl)
  cases e1
  cases e2
  have hx1 : x.1 = DataW.agg ([x0, x1, x2, x3, x4].map (·.1)) := congrArg Prod.fst hx
  have q1 : x1.1 = .lit (.string tx.data.toList) := by rw [b1]
  have q2 : x2.1 = .lit (.string un.data.toList) := by rw [b2]
  unfold Rch at hr
  rw [hx1] at hr
  have hw : DataW.weights Try.prog 44 (DataW.agg ([x0, x1, x2, x3, x4].map (·.1))) = x0.1.weights Try.prog 3 ++ (x1.1.weights Try.prog 9 ++ (x2.1.weights Try.prog 9 ++ (x3.1.weights Try.prog 4 ++ (x4.1.weights Try.prog 4 ++ [])))) := by
    simp only [DataW.weights, Try.underlying44, DataW.weightsEach, List.map]
  rw [hw] at hr
  refine ⟨?_, ?_⟩
  · have := hr tx.data.toList.length (by rw [q1]; simp [DataW.weights])
    simpa using this
  · have := hr un.data.toList.length (by rw [q2]; simp [DataW.weights])
    simpa using this
theorem weightsAll_mem {H : Type} {e : TypeId} : ∀ {ds : List (DataW H)} {d : DataW H}, d ∈ ds → ∀ m ∈ d.weights Try.prog e, m ∈ DataW.weightsAll Try.prog e ds
  | [], _, h, _, _ => by cases h
  | y :: r, d, h, m, hm => by
    rw [DataW.weightsAll]
    rcases List.mem_cons.1 h with rfl | h
    · exact List.mem_append_left _ hm
    · exact List.mem_append_right _ (weightsAll_mem h m hm)
theorem reach_toks {H : Type} {enc : TypeId × Value → H} {W : World} {base fuel : Nat} {sp : Nat → Bool} {held : Bool} {v : Value} {x : DataW H × List MemPlace}
    (hf : DataW.trod enc Try.prog W base sp held fuel 22 [v] = some x) (hr : Rch 22 x.1) : ∃ ts, TsAt W v ts ∧ ∀ t ∈ ts, t.tx.size ≤ 140737488355328 := by
  have hf' := hf
  obtain ⟨ts, hv⟩ := open_toks hf
  refine ⟨ts, hv, fun t ht => ?_⟩
  rcases DataW.trod_slice Try.underlying22 hf' with ⟨hcs, _⟩ | ⟨a, len, cap, elems, rest, n, rfl, hcs, hx, hb, hl, hcap, hel, hget, _⟩
  · obtain ⟨a, cap, hv1, _⟩ := hv
    have := head_of hcs
    rw [hv1] at this
    have h0 : ts.length = 0 := by injection this
    rw [List.length_eq_zero_iff.1 h0] at ht
    cases ht
  · obtain ⟨i, hi, rfl⟩ := List.getElem_of_mem ht
    obtain ⟨a', cap', hv1, _, _, hc⟩ := hv
    have e0 := head_of hcs
    rw [hv1] at e0
    have ea : a' = some a := by injection e0
    have elen : ts.length = len := by injection e0
    obtain ⟨b, off, ha, _, hcell⟩ := hc (by omega)
    rw [ea] at ha
    cases ha
    have h1 := hget i (by omega)
    rw [c44] at h1
    have hie : i < elems.length := by omega
    have h2 : elems[i]? = some (elems[i]'hie) := List.getElem?_eq_getElem hie
    rw [h2, Option.bind_eq_some_iff] at h1
    obtain ⟨cs, hcs2, ht2⟩ := h1
    have hx1 : x.1 = DataW.slice (elems.map (·.1)) (rest.map (·.1)) := congrArg Prod.fst hx
    have hr2 : Rch 44 (elems[i]'hie).1 := by
      intro m hm
      refine hr m ?_
      rw [hx1]
      have : DataW.weights Try.prog 22 (DataW.slice (elems.map (·.1)) (rest.map (·.1))) = ((elems.map (·.1)).length + (rest.map (·.1)).length) * Try.prog.bytesOf 44 :: (DataW.weightsAll Try.prog 44 (elems.map (·.1)) ++ DataW.weightsAll Try.prog 44 (rest.map (·.1))) := by
        rw [DataW.weights, Try.underlying22]
      rw [this]
      exact List.mem_cons_of_mem _ (List.mem_append_left _ (weightsAll_mem (List.mem_map.2 ⟨_, List.getElem_mem hie, rfl⟩) m hm))
    obtain ⟨_, hcl, hce⟩ := cells_each hcs2
    obtain ⟨t', rfl⟩ := trod_tok ht2 hcl
    have r1 := (reach_tok ht2 hr2).1
    have t1 := hcell i hi 1 _ rfl
    have u1 := hce 1 (by omega)
    rw [add_none, add_none, t1] at u1
    have v1 : (ts[i]'hi).tx = t'.tx := by simpa [t5Cells] using u1
    rw [v1]
    exact Nat.le_trans r1 (by decide)
theorem reach_len {H : Type} {enc : TypeId × Value → H} {W : World} {base fuel : Nat} {sp : Nat → Bool} {held : Bool} {v : Value} {x : DataW H × List MemPlace}
    (hf : DataW.trod enc Try.prog W base sp held fuel 22 [v] = some x) (hr : Rch 22 x.1) {ts : List T5} (hv : TsAt W v ts) : ts.length ≤ 3000000000000 := by
  rcases DataW.trod_slice Try.underlying22 hf with ⟨hcs, _⟩ | ⟨a, len, cap, elems, rest, n, rfl, hcs, hx, hb, hl, hcap, hel, hget, _⟩
  · obtain ⟨a, cap, hv1, _⟩ := hv
    have := head_of hcs
    rw [hv1] at this
    have h0 : ts.length = 0 := by injection this
    omega
  · obtain ⟨a', cap', hv1, _⟩ := hv
    have e0 := head_of hcs
    rw [hv1] at e0
    have elen : ts.length = len := by injection e0
    have hx1 : x.1 = DataW.slice (elems.map (·.1)) (rest.map (·.1)) := congrArg Prod.fst hx
    have h := hr (((elems.map (·.1)).length + (rest.map (·.1)).length) * Try.prog.bytesOf 44) (by
      rw [hx1, DataW.weights, Try.underlying22]
      exact List.mem_cons_self ..)
    have hb44 : Try.prog.bytesOf 44 = 48 := by kernel_rfl
    rw [hb44, List.length_map, List.length_map] at h
    have hrb : reachBytes = 140737488351232 := rfl
    have : elems.length = len := by omega
    omega

end Go.Proofs.Ytihdiaklhkecmaa
