/- Acts that came in as an argument. -/
import Derived.Test.YtnmpakjklbamiaaActs
import Derived.ProofKit
import Derived.OpenShut
namespace Go.Proofs.Ytnmpakjklbamiaa
open Go.RowKit

theorem cells_each {w : World} {base n : Nat} {a : Addr} {cs : List Value} (h : w.cells? base a n = some cs) : base ≤ a.block ∧ cs.length = n ∧ ∀ i, i < n → w.cell? (a.add i) = cs[i]? := by
  unfold World.cells? at h
  split at h
  · rename_i hb
    refine ⟨hb, ?_, fun i hi => ?_⟩
    · have := mapM_some_length h
      simpa using this
    · exact mapM_some_get h i i (by simp [hi])
  · cases h
theorem add_none (b off j : Nat) : (⟨b, off, none⟩ : Addr).add j = ⟨b, off + j, none⟩ := by unfold Addr.add; split <;> simp_all
theorem c3 : Try.prog.cellsOf 3 = 1 := by kernel_rfl
theorem c4 : Try.prog.cellsOf 4 = 1 := by kernel_rfl
theorem c9 : Try.prog.cellsOf 9 = 1 := by kernel_rfl
theorem c29 : Try.prog.cellsOf 29 = 3 := by kernel_rfl
theorem head_of {a b : Value} (h : [a] = [b]) : a = b := by simpa using h
set_option maxRecDepth 100000 in
/-- What an act that came in holds. -/
theorem trod_act {H : Type} {enc : TypeId × Value → H} {W : World} {base fuel : Nat} {sp : Nat → Bool} {held : Bool} {cs : List Value} {x : DataW H × List MemPlace}
    (hf : DataW.trod enc Try.prog W base sp held fuel 29 cs = some x) (hcl : cs.length = 3) : ∃ (d : Bool) (n : Int) (s : ByteArray), cs = [.bool d, .int .i64 n, .string s] ∧ s.size ≤ maxLen := by
  obtain ⟨y0, y1, y2, rfl⟩ : ∃ y0 y1 y2, cs = [y0, y1, y2] := by
    match cs, hcl with
    | [a, b, c], _ => exact ⟨a, b, c, rfl⟩
  obtain ⟨xs, n, rfl, hx, hl, hxl, hel⟩ := DataW.trod_struct Try.underlying29 hf
  have h0 := hel 0 _ rfl
  have h1 := hel 1 _ rfl
  have h2 := hel 2 _ rfl
  have hxl3 : xs.length = 3 := hxl
  obtain ⟨x0, x1, x2, rfl⟩ : ∃ x0 x1 x2, xs = [x0, x1, x2] := by
    match xs, hxl3 with
    | [a, b, c], _ => exact ⟨a, b, c, rfl⟩
  obtain ⟨d, a0, b0⟩ := DataW.trod_bool Try.underlying4 h0
  obtain ⟨k, a1, b1, _⟩ := DataW.trod_int Try.underlying3 h1
  obtain ⟨s, a2, b2, m2⟩ := DataW.trod_string Try.underlying9 h2
  refine ⟨d, k, s, ?_, m2⟩
  have e0 : y0 = .bool d := head_of (by rw [← a0]; show _ = List.take (Try.prog.cellsOf 4) _; rw [c4]; rfl)
  have e1 : y1 = .int .i64 k := head_of (by rw [← a1]; show _ = List.take (Try.prog.cellsOf 3) _; rw [c3]; rfl)
  have e2 : y2 = .string s := head_of (by rw [← a2]; show _ = List.take (Try.prog.cellsOf 9) _; rw [c9]; rfl)
  rw [e0, e1, e2]
/-- What acts that came in are. -/
theorem open_acts {H : Type} {enc : TypeId × Value → H} {W : World} {base fuel : Nat} {sp : Nat → Bool} {held : Bool} {v : Value} {x : DataW H × List MemPlace}
    (hf : DataW.trod enc Try.prog W base sp held fuel 22 [v] = some x) : ∃ xs, ActsAt W v xs := by
  rcases DataW.trod_slice Try.underlying22 hf with ⟨hcs, _⟩ | ⟨a, len, cap, elems, rest, n, rfl, hcs, _, hb, hl, hcap, hel, hget, _⟩
  · refine ⟨[], none, 0, head_of hcs, Nat.le_refl _, by decide, fun h => absurd h (by simp)⟩
  · have key : ∀ i, i < len → ∃ (z : Act3), (∀ j, j < 3 → W.cell? ((a.add (i * 3)).add j) = [Value.bool z.d, .int .i64 z.n, .string z.s][j]?) ∧ z.s.size ≤ maxLen := by
      intro i hi
      have h1 := hget i hi
      rw [c29] at h1
      have h2 : elems[i]? = some (elems[i]'(by omega)) := List.getElem?_eq_getElem (by omega)
      rw [h2, Option.bind_eq_some_iff] at h1
      obtain ⟨cs, hc, ht⟩ := h1
      obtain ⟨_, hcl, hce⟩ := cells_each hc
      obtain ⟨d, k, s, rfl, m1⟩ := trod_act ht hcl
      exact ⟨⟨d, k, s⟩, hce, m1⟩
    have hch : ∃ f : Nat → Act3, ∀ i, i < len → (∀ j, j < 3 → W.cell? ((a.add (i * 3)).add j) = [Value.bool (f i).d, .int .i64 (f i).n, .string (f i).s][j]?) ∧ (f i).s.size ≤ maxLen := by
      refine ⟨fun i => if h : i < len then (key i h).choose else ⟨false, 0, ByteArray.empty⟩, fun i hi => ?_⟩
      simp only [hi, dif_pos]
      exact (key i hi).choose_spec
    obtain ⟨f, hfi⟩ := hch
    have hll : ((List.range len).map f).length = len := by simp
    refine ⟨(List.range len).map f, some a, cap, by rw [hll]; exact head_of hcs, by rw [hll]; exact hl, Nat.le_trans hcap (by decide), fun h0 => ?_⟩
    rw [hll] at h0
    obtain ⟨b, off, spot⟩ := a
    have hc' : W.cell? ((⟨b, off, spot⟩ : Addr).add (0 * 3) |>.add 0) = some (.bool (f 0).d) := (hfi 0 h0).1 0 (by omega)
    have hspot : spot = none := by simpa [Addr.add] using World.cell?_spot hc'
    subst hspot
    refine ⟨b, off, rfl, ?_, fun i hi => ?_⟩
    · have := World.block_lt_of_cell? W _ hc'
      simpa [add_none] using this
    · rw [hll] at hi
      have e : ((List.range len).map f)[i]'(by rw [hll]; exact hi) = f i := by simp
      rw [e]
      obtain ⟨h1, h2⟩ := hfi i hi
      have k0 := h1 0 (by omega)
      have k1 := h1 1 (by omega)
      have k2 := h1 2 (by omega)
      rw [add_none, add_none] at k0 k1 k2
      exact ⟨k0, k1, k2, h2⟩

end Go.Proofs.Ytnmpakjklbamiaa
