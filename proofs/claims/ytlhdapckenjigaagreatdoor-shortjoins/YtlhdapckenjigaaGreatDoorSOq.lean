/- Texts and a pair of numbers that came in. -/
import Derived.Test.YtlhdapckenjigaaGreatDoorYOp
import Derived.Test.YtlhdapckenjigaaGreatDoorSJw
import Derived.WideShapes
namespace Go.Proofs.YtlhdapckenjigaaGreatDoor.S
open Go.RowKit
open Go.Proofs.YtlhdapckenjigaaGreatDoor.Y (cells_each all_part head_of)
set_option maxRecDepth 100000

theorem kk9 : Tryz.prog.cellsOf 9 = 1 := by kernel_rfl
theorem kk3 : Tryz.prog.cellsOf 3 = 1 := by kernel_rfl
theorem kk37 : Tryz.prog.cellsOf 37 = 2 := by kernel_rfl
theorem open_pair {H : Type} {enc : TypeId × Value → H} {W : World} {base : Nat} {v : Value} {d : DataW H} {ps : List MemPlace} (hval : Value.okWide Tryz.prog W .any base 37 v) (hd : DataW.Trod enc Tryz.prog W 0 (fun _ => true) true 37 v d ps) :
    ∃ a b : Int, v = .agg #[.int .i64 a, .int .i64 b] := by
  obtain ⟨cs, rfl, hsz, _⟩ : ∃ cs, v = .agg cs ∧ cs.size = Tryz.prog.cellsOf 37 ∧ Row.okWide Tryz.prog W .any base 37 cs := by
    simpa [Value.okWide, Tryz.underlying37] using hval
  rw [kk37] at hsz
  obtain ⟨l⟩ := cs
  have hsz2 : l.length = 2 := hsz
  obtain ⟨c0, c1, rfl⟩ : ∃ c0 c1, l = [c0, c1] := by
    match l, hsz2 with
    | [a, b], _ => exact ⟨a, b, rfl⟩
  obtain ⟨fuel, hf⟩ := hd
  obtain ⟨xs, m, _, hx, hl, hxl, hel⟩ := DataW.trod_array Tryz.underlying37 hf
  have hxl2 : xs.length = 2 := hxl
  obtain ⟨x0, x1, rfl⟩ : ∃ x0 x1, xs = [x0, x1] := by
    match xs, hxl2 with
    | [a, b], _ => exact ⟨a, b, rfl⟩
  have h0 := hel 0 (by omega)
  have h1 := hel 1 (by omega)
  rw [kk3] at h0 h1
  obtain ⟨n0, a0, _⟩ := DataW.trod_int Tryz.underlying3 h0
  obtain ⟨n1, a1, _⟩ := DataW.trod_int Tryz.underlying3 h1
  have e0 : c0 = .int .i64 n0 := head_of (by rw [← a0]; rfl)
  have e1 : c1 = .int .i64 n1 := head_of (by rw [← a1]; rfl)
  exact ⟨n0, n1, by rw [e0, e1]⟩
theorem str_weight {H : Type} {s : List UInt8} (h : ((DataW.lit (.string s) : DataW H).weights Tryz.prog 9).all (· ≤ reachBytes) = true) : s.length ≤ 140737488351232 := by
  have hr : reachBytes = 140737488351232 := rfl
  simp only [DataW.weights, List.all_cons, List.all_nil, Bool.and_true, decide_eq_true_eq] at h
  rw [hr] at h
  omega
theorem open_strs {H : Type} {enc : TypeId × Value → H} {W : World} {base : Nat} {sp : Nat → Bool} {held : Bool} (fuel : Nat) (v : Value) (x : DataW H × List MemPlace) (hf : DataW.trod enc Tryz.prog W base sp held fuel 36 [v] = some x) (hM : (x.1.weights Tryz.prog 36).all (· ≤ reachBytes) = true) :
    ∃ l, SsAt W v l ∧ ∀ y ∈ l, y.size ≤ 140737488351232 := by
  rcases DataW.trod_slice Tryz.underlying36 hf with ⟨hcs, _⟩ | ⟨a, len, cap, elems, rest, n, rfl, hcs, hx, hb, hl, hcap, hel, hget, _⟩
  · have e := head_of hcs
    subst e
    exact ⟨[], ⟨none, 0, 0, 0, rfl, by simp, by simp, fun h => by simp at h, fun k s h => by simp at h⟩, fun d hd => by cases hd⟩
  · have hx1 : x.1 = DataW.slice (elems.map (·.1)) (rest.map (·.1)) := congrArg Prod.fst hx
    have hle : elems.length = len := by omega
    rw [hx1] at hM
    simp only [DataW.weights, Tryz.underlying36, List.all_cons, List.all_append, Bool.and_eq_true, decide_eq_true_eq, List.length_map] at hM
    have hel2 : ∀ i (hi : i < len), ((elems[i]'(by omega)).1.weights Tryz.prog 9).all (· ≤ reachBytes) = true := fun i hi => all_part hM.2.1 _ (List.mem_map.2 ⟨_, List.getElem_mem _, rfl⟩)
    have key : ∀ i (hi : i < len), ∃ q : ByteArray, W.cell? ((a.add (i * 1)).add 0) = some (.string q) ∧ q.size ≤ 140737488351232 := by
      intro i hi
      have h1 := hget i hi
      rw [kk9] at h1
      have h2 : elems[i]? = some (elems[i]'(by omega)) := List.getElem?_eq_getElem (by omega)
      rw [h2, Option.bind_eq_some_iff] at h1
      obtain ⟨cs, hc, ht⟩ := h1
      obtain ⟨_, _, hce⟩ := cells_each hc
      obtain ⟨s, rfl, hs, _⟩ := DataW.trod_string Tryz.underlying9 ht
      have hwi := hel2 i hi
      rw [hs] at hwi
      exact ⟨s, hce 0 (by omega), str_weight hwi⟩
    obtain ⟨f, hfi⟩ : ∃ f : Nat → ByteArray, ∀ i (hi : i < len), W.cell? ((a.add (i * 1)).add 0) = some (.string (f i)) ∧ (f i).size ≤ 140737488351232 := by
      refine ⟨fun i => if h : i < len then (key i h).choose else ⟨#[]⟩, fun i hi => ?_⟩
      simp only [hi, dif_pos]
      exact (key i hi).choose_spec
    have hll : ((List.range len).map f).length = len := by simp
    have e := head_of hcs
    subst e
    obtain ⟨b, off, spot⟩ := a
    have hsp : 0 < len → spot = none ∧ b < W.heap.size := fun h0 => by
      have hc' : W.cell? ((⟨b, off, spot⟩ : Addr).add (0 * 1) |>.add 0) = some (.string (f 0)) := (hfi 0 h0).1
      have hspot : spot = none := by simpa [Addr.add] using World.cell?_spot hc'
      subst hspot
      have := World.block_lt_of_cell? W _ hc'
      exact ⟨rfl, by simpa [add_none] using this⟩
    refine ⟨(List.range len).map f, ⟨some ⟨b, off, spot⟩, cap, b, off, by rw [hll], by rw [hll]; exact hl, Nat.le_trans hcap (by decide), fun h0 => ?_, fun k s hs => ?_⟩, fun y hy => ?_⟩
    · rw [hll] at h0
      obtain ⟨h1, h2⟩ := hsp h0
      subst h1
      exact ⟨rfl, h2⟩
    · have hk : k < len := by
        have := (List.getElem?_eq_some_iff.1 hs).1
        rw [hll] at this
        exact this
      have es : s = f k := by
        rw [List.getElem?_map, List.getElem?_range hk] at hs
        simpa using hs.symm
      subst es
      obtain ⟨h1, _⟩ := hsp (by omega)
      subst h1
      have h3 := (hfi k hk).1
      rw [add_none, add_none, Nat.mul_one, Nat.add_zero] at h3
      exact h3
    · obtain ⟨i, hi, rfl⟩ := List.mem_map.1 hy
      exact (hfi i (List.mem_range.1 hi)).2
end Go.Proofs.YtlhdapckenjigaaGreatDoor.S
