/- Acts in a slice. -/
import Derived.Test.YtlnpiadjnjdfiaaELv
import Derived.ProofKit
import Derived.OpenShut
import Derived.ChangeOld
namespace Go.Proofs.Ytlnpiadjnjdfiaa.E
open Go.RowKit Go.ChangeAt Go.WideShapes Go.ChangeShapes
set_option maxRecDepth 100000

theorem cells_each {w : World} {base n : Nat} {a : Addr} {cs : List Value} (h : w.cells? base a n = some cs) : base ≤ a.block ∧ cs.length = n ∧ ∀ i, i < n → w.cell? (a.add i) = cs[i]? := by
  unfold World.cells? at h
  split at h
  · rename_i hb
    refine ⟨hb, ?_, fun i hi => ?_⟩
    · have := mapM_some_length h
      simpa using this
    · exact mapM_some_get h i i (by simp [hi])
  · cases h
theorem add_none (b off j : Nat) : (⟨b, off, none⟩ : Addr).add j = ⟨b, off + j, none⟩ := by unfold Addr.add; split <;> simp_all
theorem head_of {a b : Value} (h : [a] = [b]) : a = b := by simpa using h
theorem lt_of_cell {w : World} {a : Addr} {v : Value} (h : w.cell? a = some v) : a.block < w.heap.size := by
  obtain ⟨b, off, sp⟩ := a
  unfold World.cell? at h
  rcases hb : w.heap[b]? with _ | o
  · simp [hb] at h
  · exact (Array.getElem?_eq_some_iff.1 hb).1
theorem cz3 : Try.prog.cellsOf 3 = 1 := by kernel_rfl
theorem cz29 : Try.prog.cellsOf 29 = 2 := by kernel_rfl
/-- Acts in a slice: what is done, and its number. -/
def ActsAt (w : World) (v : Value) (zs : List (Int × Int)) : Prop := ∃ a c b off, v = .slice a zs.length c ∧ zs.length ≤ 9223372036854775807 ∧ (0 < zs.length → a = some ⟨b, off, none⟩) ∧ ∀ (i : Nat) (z : Int × Int), zs[i]? = some z → w.cell? ⟨b, off + i * 2, none⟩ = some (.int .i64 z.1) ∧ w.cell? ⟨b, off + i * 2 + 1, none⟩ = some (.int .i64 z.2)
theorem ActsAt.keep {w w' : World} {v : Value} {zs : List (Int × Int)} (h : ActsAt w v zs) (hb : Below w.heap.size w w') : ActsAt w' v zs := by
  obtain ⟨a, c, b, off, h1, h2, h3, h4⟩ := h
  refine ⟨a, c, b, off, h1, h2, h3, fun i z hz => ?_⟩
  obtain ⟨c1, c2⟩ := h4 i z hz
  exact ⟨(hb.cell (p := ⟨b, off + i * 2, none⟩) (lt_of_cell c1)).trans c1, (hb.cell (p := ⟨b, off + i * 2 + 1, none⟩) (lt_of_cell c2)).trans c2⟩
theorem trod_act {H : Type} {enc : TypeId × Value → H} {W : World} {base fuel : Nat} {sp : Nat → Bool} {held : Bool} {cs : List Value} {x : DataW H × List MemPlace}
    (hf : DataW.trod enc Try.prog W base sp held fuel 29 cs = some x) (hcl : cs.length = 2) : ∃ p q : Int, cs = [.int .i64 p, .int .i64 q] := by
  obtain ⟨y0, y1, rfl⟩ : ∃ y0 y1, cs = [y0, y1] := by
    match cs, hcl with
    | [a, b], _ => exact ⟨a, b, rfl⟩
  obtain ⟨xs, n, rfl, hx, hl, hxl, hel⟩ := DataW.trod_struct Try.underlying29 hf
  have h0 := hel 0 _ rfl
  have h1 := hel 1 _ rfl
  have hxl3 : xs.length = 2 := hxl
  obtain ⟨x0, x1, rfl⟩ : ∃ x0 x1, xs = [x0, x1] := by
    match xs, hxl3 with
    | [a, b], _ => exact ⟨a, b, rfl⟩
  obtain ⟨k0, a0, _, _⟩ := DataW.trod_int Try.underlying3 h0
  obtain ⟨k1, a1, _, _⟩ := DataW.trod_int Try.underlying3 h1
  have e0 : y0 = .int .i64 k0 := head_of (by rw [← a0]; show _ = List.take (Try.prog.cellsOf 3) _; rw [cz3]; rfl)
  have e1 : y1 = .int .i64 k1 := head_of (by rw [← a1]; show _ = List.take (Try.prog.cellsOf 3) _; rw [cz3]; rfl)
  exact ⟨k0, k1, by rw [e0, e1]⟩
theorem open_acts {H : Type} {enc : TypeId × Value → H} {W : World} {base fuel : Nat} {sp : Nat → Bool} {held : Bool} {v : Value} {x : DataW H × List MemPlace}
    (hf : DataW.trod enc Try.prog W base sp held fuel 22 [v] = some x) : ∃ zs : List (Int × Int), ActsAt W v zs := by
  rcases DataW.trod_slice Try.underlying22 hf with ⟨hcs, _⟩ | ⟨a, len, cap, elems, rest, n, rfl, hcs, hx, hb, hl, hcap, hel, hget, _⟩
  · have e := head_of hcs
    subst e
    exact ⟨[], none, 0, 0, 0, rfl, Nat.zero_le _, fun h => absurd h (Nat.lt_irrefl 0), fun i z hz => by rw [List.getElem?_nil] at hz; cases hz⟩
  · have e := head_of hcs
    subst e
    have key : ∀ i, i < len → ∃ p q : Int, ∀ j, j < 2 → W.cell? ((a.add (i * 2)).add j) = [Value.int .i64 p, .int .i64 q][j]? := by
      intro i hi
      have h1 := hget i hi
      rw [cz29] at h1
      have hie : i < elems.length := by omega
      have h2 : elems[i]? = some (elems[i]'hie) := List.getElem?_eq_getElem hie
      rw [h2, Option.bind_eq_some_iff] at h1
      obtain ⟨cs, hc, ht⟩ := h1
      obtain ⟨_, hcl, hce⟩ := cells_each hc
      obtain ⟨p, q, rfl⟩ := trod_act ht hcl
      exact ⟨p, q, hce⟩
    obtain ⟨f, hfi⟩ : ∃ f : Nat → Int × Int, ∀ i, i < len → ∀ j, j < 2 → W.cell? ((a.add (i * 2)).add j) = [Value.int .i64 (f i).1, .int .i64 (f i).2][j]? := by
      refine ⟨fun i => if h : i < len then ((key i h).choose, (key i h).choose_spec.choose) else (0, 0), fun i hi => ?_⟩
      simp only [hi, dif_pos]
      exact (key i hi).choose_spec.choose_spec
    have hll : ((List.range len).map f).length = len := by simp
    obtain ⟨b, off, spot⟩ := a
    have hsp : 0 < len → spot = none := fun h0 => by
      have hc' : W.cell? ((⟨b, off, spot⟩ : Addr).add (0 * 2) |>.add 0) = some (.int .i64 (f 0).1) := hfi 0 h0 0 (by omega)
      simpa [Addr.add] using World.cell?_spot hc'
    refine ⟨(List.range len).map f, some ⟨b, off, spot⟩, cap, b, off, by rw [hll], by rw [hll]; exact Nat.le_trans hl (Nat.le_trans hcap (by decide)), fun h0 => ?_, fun i z hz => ?_⟩
    · rw [hll] at h0
      rw [hsp h0]
    · have hk : i < len := by
        have := (List.getElem?_eq_some_iff.1 hz).1
        rw [hll] at this
        exact this
      have es : z = f i := by
        rw [List.getElem?_map, List.getElem?_range hk] at hz
        simpa using hz.symm
      rw [es]
      have h3 := hfi i hk
      have hs := hsp (by omega)
      subst hs
      refine ⟨?_, ?_⟩
      · simpa [add_none] using h3 0 (by omega)
      · simpa [add_none] using h3 1 (by omega)
end Go.Proofs.Ytlnpiadjnjdfiaa.E
