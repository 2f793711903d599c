/- Tokens that came in as an argument. -/
import Derived.Test.YtihdiaklhkecmabPValues
import Derived.ProofKit
import Derived.OpenShut
namespace Go.Proofs.Ytihdiaklhkecmab
open Go.RowKit

theorem cells_each {w : World} {base n : Nat} {a : Addr} {cs : List Value} (h : w.cells? base a n = some cs) : base ≤ a.block ∧ cs.length = n ∧ ∀ i, i < n → w.cell? (a.add i) = cs[i]? := by
  unfold World.cells? at h
  split at h
  · rename_i hb
    refine ⟨hb, ?_, fun i hi => ?_⟩
    · have := mapM_some_length h
      simpa using this
    · exact mapM_some_get h i i (by simp [hi])
  · cases h
theorem add_none (b off j : Nat) : (⟨b, off, none⟩ : Addr).add j = ⟨b, off + j, none⟩ := by unfold Addr.add; split <;> simp_all
theorem c3 : Try.prog.cellsOf 3 = 1 := by kernel_rfl
theorem c4 : Try.prog.cellsOf 4 = 1 := by kernel_rfl
theorem c9 : Try.prog.cellsOf 9 = 1 := by kernel_rfl
theorem c44 : Try.prog.cellsOf 27 = 5 := by kernel_rfl
theorem head_of {a b : Value} (h : [a] = [b]) : a = b := by simpa using h
set_option maxRecDepth 100000 in
/-- What a token that came in holds. -/
theorem trod_tok {H : Type} {enc : TypeId × Value → H} {W : World} {base fuel : Nat} {sp : Nat → Bool} {held : Bool} {cs : List Value} {x : DataW H × List MemPlace}
    (hf : DataW.trod enc Try.prog W base sp held fuel 27 cs = some x) (hcl : cs.length = 5) : ∃ t : T5, cs = t5Cells t := by
  obtain ⟨y0, y1, y2, y3, y4, rfl⟩ : ∃ y0 y1 y2 y3 y4, cs = [y0, y1, y2, y3, y4] := by
    match cs, hcl with
    | [a, b, c, d, e], _ => exact ⟨a, b, c, d, e, rfl⟩
  obtain ⟨xs, n, rfl, hx, hl, hxl, hel⟩ := DataW.trod_struct Try.underlying27 hf
  have h0 := hel 0 _ rfl
  have h1 := hel 1 _ rfl
  have h2 := hel 2 _ rfl
  have h3 := hel 3 _ rfl
  have h4 := hel 4 _ rfl
  have hxl3 : xs.length = 5 := hxl
  obtain ⟨x0, x1, x2, x3, x4, rfl⟩ : ∃ x0 x1 x2 x3 x4, xs = [x0, x1, x2, x3, x4] := by
    match xs, hxl3 with
    | [a, b, c, d, e], _ => exact ⟨a, b, c, d, e, rfl⟩
  obtain ⟨k, a0, b0, _⟩ := DataW.trod_int Try.underlying3 h0
  obtain ⟨s1, a1, b1, m1⟩ := DataW.trod_string Try.underlying9 h1
  obtain ⟨s2, a2, b2, m2⟩ := DataW.trod_string Try.underlying9 h2
  obtain ⟨d3, a3, b3⟩ := DataW.trod_bool Try.underlying4 h3
  obtain ⟨d4, a4, b4⟩ := DataW.trod_bool Try.underlying4 h4
  refine ⟨⟨k, s1, s2, d3, d4⟩, ?_⟩
  have e0 : y0 = .int .i64 k := head_of (by rw [← a0]; show _ = List.take (Try.prog.cellsOf 3) _; rw [c3]; rfl)
  have e1 : y1 = .string s1 := head_of (by rw [← a1]; show _ = List.take (Try.prog.cellsOf 9) _; rw [c9]; rfl)
  have e2 : y2 = .string s2 := head_of (by rw [← a2]; show _ = List.take (Try.prog.cellsOf 9) _; rw [c9]; rfl)
  have e3 : y3 = .bool d3 := head_of (by rw [← a3]; show _ = List.take (Try.prog.cellsOf 4) _; rw [c4]; rfl)
  have e4 : y4 = .bool d4 := head_of (by rw [← a4]; show _ = List.take (Try.prog.cellsOf 4) _; rw [c4]; rfl)
  rw [e0, e1, e2, e3, e4]
  rfl
/-- What tokens that came in are. -/
theorem open_toks {H : Type} {enc : TypeId × Value → H} {W : World} {base fuel : Nat} {sp : Nat → Bool} {held : Bool} {v : Value} {x : DataW H × List MemPlace}
    (hf : DataW.trod enc Try.prog W base sp held fuel 47 [v] = some x) : ∃ ts, TsAt W v ts := by
  rcases DataW.trod_slice Try.underlying47 hf with ⟨hcs, _⟩ | ⟨a, len, cap, elems, rest, n, rfl, hcs, _, hb, hl, hcap, hel, hget, _⟩
  · refine ⟨[], none, 0, head_of hcs, Nat.le_refl _, by decide, fun h => absurd h (by simp)⟩
  · have key : ∀ i, i < len → ∃ (z : T5), ∀ j, j < 5 → W.cell? ((a.add (i * 5)).add j) = (t5Cells z)[j]? := by
      intro i hi
      have h1 := hget i hi
      rw [c44] at h1
      have h2 : elems[i]? = some (elems[i]'(by omega)) := List.getElem?_eq_getElem (by omega)
      rw [h2, Option.bind_eq_some_iff] at h1
      obtain ⟨cs, hc, ht⟩ := h1
      obtain ⟨_, hcl, hce⟩ := cells_each hc
      obtain ⟨t, rfl⟩ := trod_tok ht hcl
      exact ⟨t, hce⟩
    have hch : ∃ f : Nat → T5, ∀ i, i < len → ∀ j, j < 5 → W.cell? ((a.add (i * 5)).add j) = (t5Cells (f i))[j]? := by
      refine ⟨fun i => if h : i < len then (key i h).choose else ⟨0, ByteArray.empty, ByteArray.empty, false, false⟩, fun i hi => ?_⟩
      simp only [hi, dif_pos]
      exact (key i hi).choose_spec
    obtain ⟨f, hfi⟩ := hch
    have hll : ((List.range len).map f).length = len := by simp
    refine ⟨(List.range len).map f, some a, cap, by rw [hll]; exact head_of hcs, by rw [hll]; exact hl, Nat.le_trans hcap (by decide), fun h0 => ?_⟩
    rw [hll] at h0
    obtain ⟨b, off, spot⟩ := a
    have hc' : W.cell? ((⟨b, off, spot⟩ : Addr).add (0 * 5) |>.add 0) = some (.int .i64 (f 0).k) := hfi 0 h0 0 (by omega)
    have hspot : spot = none := by simpa [Addr.add] using World.cell?_spot hc'
    subst hspot
    refine ⟨b, off, rfl, ?_, fun i hi j y hy => ?_⟩
    · have := World.block_lt_of_cell? W _ hc'
      simpa [add_none] using this
    · have hi' : i < len := by rw [hll] at hi; exact hi
      have e : ((List.range len).map f)[i]'hi = f i := by simp
      rw [e] at hy
      have hj : j < 5 := by
        have := (List.getElem?_eq_some_iff.1 hy).1
        simpa [t5Cells] using this
      have h1 := hfi i hi' j hj
      rw [add_none, add_none] at h1
      rw [h1]
      exact hy

end Go.Proofs.Ytihdiaklhkecmab
