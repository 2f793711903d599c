/- gouacheref03.Count ends, whatever values came in, and leaves what was there. -/
import Derived.Test.YtpflliophellgaaDoorLives
import Derived.ProofKit
import Derived.OpenShut
namespace Go.Proofs.YtpflliophellgaaDoor
open Go.RowKit

theorem cells_each {w : World} {base n : Nat} {a : Addr} {cs : List Value} (h : w.cells? base a n = some cs) : base ≤ a.block ∧ cs.length = n ∧ ∀ i, i < n → w.cell? (a.add i) = cs[i]? := by
  unfold World.cells? at h
  split at h
  · rename_i hb
    refine ⟨hb, ?_, fun i hi => ?_⟩
    · have := mapM_some_length h
      simpa using this
    · exact mapM_some_get h i i (by simp [hi])
  · cases h
theorem add_none (b off j : Nat) : (⟨b, off, none⟩ : Addr).add j = ⟨b, off + j, none⟩ := by unfold Addr.add; split <;> simp_all

theorem c22 : Tryd.prog.cellsOf 22 = 1 := by kernel_rfl
theorem c3 : Tryd.prog.cellsOf 3 = 1 := by kernel_rfl
theorem c4 : Tryd.prog.cellsOf 4 = 1 := by kernel_rfl
theorem c9 : Tryd.prog.cellsOf 9 = 1 := by kernel_rfl
theorem c26 : Tryd.prog.cellsOf 26 = 5 := by kernel_rfl
theorem c28 : Tryd.prog.cellsOf 28 = 6 := by kernel_rfl
theorem head_of {a b : Value} (h : [a] = [b]) : a = b := by simpa using h

set_option maxRecDepth 100000 in
/-- What a token that came in holds. -/
theorem trod_tok {H : Type} {enc : TypeId × Value → H} {W : World} {base fuel : Nat} {sp : Nat → Bool} {held : Bool} {y0 y1 y2 y3 y4 : Value} {x : DataW H × List MemPlace}
    (hf : DataW.trod enc Tryd.prog W base sp held fuel 26 [y0, y1, y2, y3, y4] = some x) : ∃ (k : Int) (tx un : ByteArray) (wh fl : Bool), y0 = .int .i64 k ∧ y1 = .string tx ∧ y2 = .string un ∧ y3 = .bool wh ∧ y4 = .bool fl ∧ tx.size ≤ maxLen ∧ un.size ≤ maxLen := by
  obtain ⟨xs, n, rfl, hx, hl, hxl, hel⟩ := DataW.trod_struct Tryd.underlying26 hf
  have h0 := hel 0 _ rfl
  have h1 := hel 1 _ rfl
  have h2 := hel 2 _ rfl
  have h3 := hel 3 _ rfl
  have h4 := hel 4 _ rfl
  have hxl5 : xs.length = 5 := hxl
  obtain ⟨x0, x1, x2, x3, x4, rfl⟩ : ∃ x0 x1 x2 x3 x4, xs = [x0, x1, x2, x3, x4] := by
    match xs, hxl5 with
    | [a, b, c, d, e], _ => exact ⟨a, b, c, d, e, rfl⟩
  obtain ⟨k, a0, b0, _⟩ := DataW.trod_int Tryd.underlying3 h0
  obtain ⟨tx, a1, b1, m1⟩ := DataW.trod_string Tryd.underlying9 h1
  obtain ⟨un, a2, b2, m2⟩ := DataW.trod_string Tryd.underlying9 h2
  obtain ⟨wh, a3, b3⟩ := DataW.trod_bool Tryd.underlying4 h3
  obtain ⟨fl, a4, b4⟩ := DataW.trod_bool Tryd.underlying4 h4
  refine ⟨k, tx, un, wh, fl, ?_, ?_, ?_, ?_, ?_, m1, m2⟩
  · exact head_of (by rw [← a0]; show _ = List.take (Tryd.prog.cellsOf 3) _; rw [c3]; rfl)
  · exact head_of (by rw [← a1]; show _ = List.take (Tryd.prog.cellsOf 9) _; rw [c9]; rfl)
  · exact head_of (by rw [← a2]; show _ = List.take (Tryd.prog.cellsOf 9) _; rw [c9]; rfl)
  · exact head_of (by rw [← a3]; show _ = List.take (Tryd.prog.cellsOf 4) _; rw [c4]; rfl)
  · exact head_of (by rw [← a4]; show _ = List.take (Tryd.prog.cellsOf 4) _; rw [c4]; rfl)
set_option maxRecDepth 100000 in
/-- What a value that came in holds. -/
theorem trod_val {H : Type} {enc : TypeId × Value → H} {W : World} {base fuel : Nat} {sp : Nat → Bool} {held : Bool} {cs : List Value} {x : DataW H × List MemPlace}
    (hf : DataW.trod enc Tryd.prog W base sp held fuel 28 cs = some x) : ∃ (k : Int) (tx un : ByteArray) (wh fl : Bool) (kid : Value) (m : Nat) (z : DataW H × List MemPlace), cs = [.int .i64 k, .string tx, .string un, .bool wh, .bool fl, kid] ∧ m < fuel ∧ DataW.trod enc Tryd.prog W base sp held m 22 [kid] = some z ∧ tx.size ≤ maxLen ∧ un.size ≤ maxLen := by
  obtain ⟨xs, n, rfl, hx, hl, hxl, hel⟩ := DataW.trod_struct Tryd.underlying28 hf
  have h0 := hel 0 _ rfl
  have h1 := hel 1 _ rfl
  have hxl2 : xs.length = 2 := hxl
  obtain ⟨x0, x1, rfl⟩ : ∃ x0 x1, xs = [x0, x1] := by
    match xs, hxl2 with
    | [a, b], _ => exact ⟨a, b, rfl⟩
  rw [c28] at hl
  obtain ⟨y0, y1, y2, y3, y4, kid, rfl⟩ : ∃ y0 y1 y2 y3 y4 y5, cs = [y0, y1, y2, y3, y4, y5] := by
    match cs, hl with
    | [a, b, c, d, e, f], _ => exact ⟨a, b, c, d, e, f, rfl⟩
  have h0' : DataW.trod enc Tryd.prog W base sp held n 26 [y0, y1, y2, y3, y4] = some x0 := by
    have e : List.take (Tryd.prog.cellsOf 26) (List.drop 0 [y0, y1, y2, y3, y4, kid]) = [y0, y1, y2, y3, y4] := by rw [c26]; rfl
    rw [← e]
    exact h0
  have h1' : DataW.trod enc Tryd.prog W base sp held n 22 [kid] = some x1 := by
    have e : List.take (Tryd.prog.cellsOf 22) (List.drop 5 [y0, y1, y2, y3, y4, kid]) = [kid] := by rw [c22]; rfl
    rw [← e]
    exact h1
  obtain ⟨k, tx, un, wh, fl, rfl, rfl, rfl, rfl, rfl, m1, m2⟩ := trod_tok h0'
  exact ⟨k, tx, un, wh, fl, kid, n, x1, rfl, by omega, h1', m1, m2⟩
/-- What a slice of values that came in holds, value by value. -/
theorem trod_vals {H : Type} {enc : TypeId × Value → H} {W : World} {base fuel : Nat} {sp : Nat → Bool} {held : Bool} {v : Value} {x : DataW H × List MemPlace}
    (hf : DataW.trod enc Tryd.prog W base sp held fuel 22 [v] = some x) : v = .slice none 0 0 ∨ ∃ (a : Addr) (len cap : Nat), v = .slice (some a) len cap ∧ len ≤ cap ∧ cap ≤ maxLen ∧
      (0 < len → ∃ b off, a = ⟨b, off, none⟩ ∧ b < W.heap.size ∧ ∀ i, i < len → ∃ (k : Int) (tx un : ByteArray) (wh fl : Bool) (kid : Value) (m : Nat) (z : DataW H × List MemPlace), m < fuel ∧ DataW.trod enc Tryd.prog W base sp held m 22 [kid] = some z ∧ tx.size ≤ maxLen ∧ un.size ≤ maxLen ∧
        ∀ j y, [Value.int .i64 k, .string tx, .string un, .bool wh, .bool fl, kid][j]? = some y → W.cell? ⟨b, off + i * 6 + j, none⟩ = some y) := by
  rcases DataW.trod_slice Tryd.underlying22 hf with ⟨hcs, _⟩ | ⟨a, len, cap, elems, rest, n, rfl, hcs, _, hb, hl, hcap, hel, hget, _⟩
  · left
    exact head_of hcs
  · right
    refine ⟨a, len, cap, head_of hcs, hl, hcap, fun h0 => ?_⟩
    have key : ∀ i, i < len → ∃ (k : Int) (tx un : ByteArray) (wh fl : Bool) (kid : Value) (m : Nat) (z : DataW H × List MemPlace), m < n + 1 ∧ DataW.trod enc Tryd.prog W base sp held m 22 [kid] = some z ∧ tx.size ≤ maxLen ∧ un.size ≤ maxLen ∧
        ∀ j, j < 6 → W.cell? ((a.add (i * 6)).add j) = [Value.int .i64 k, .string tx, .string un, .bool wh, .bool fl, kid][j]? := by
      intro i hi
      have h1 := hget i hi
      rw [c28] at h1
      have h2 : elems[i]? = some (elems[i]'(by omega)) := List.getElem?_eq_getElem (by omega)
      rw [h2, Option.bind_eq_some_iff] at h1
      obtain ⟨cs, hc, ht⟩ := h1
      obtain ⟨_, _, hce⟩ := cells_each hc
      obtain ⟨k, tx, un, wh, fl, kid, m, z, rfl, hm, hz, m1, m2⟩ := trod_val ht
      exact ⟨k, tx, un, wh, fl, kid, m, z, by omega, hz, m1, m2, hce⟩
    obtain ⟨b, off, spot⟩ := a
    obtain ⟨k, tx, un, wh, fl, kid, m, z, _, _, _, _, hc0⟩ := key 0 h0
    have hc := hc0 0 (by omega)
    have hc' : W.cell? ((⟨b, off, spot⟩ : Addr).add (0 * 6) |>.add 0) = some (.int .i64 k) := hc
    have hspot : spot = none := by simpa [Addr.add] using World.cell?_spot hc'
    subst hspot
    refine ⟨b, off, rfl, ?_, fun i hi => ?_⟩
    · have := World.block_lt_of_cell? W _ hc'
      simpa [add_none] using this
    · obtain ⟨k, tx, un, wh, fl, kid, m, z, hm, hz, m1, m2, hce⟩ := key i hi
      refine ⟨k, tx, un, wh, fl, kid, m, z, hm, hz, m1, m2, fun j y hy => ?_⟩
      have hj : j < 6 := by
        have := (List.getElem?_eq_some_iff.1 hy).1
        simpa using this
      have := hce j hj
      rw [add_none, add_none, hy] at this
      exact this

end Go.Proofs.YtpflliophellgaaDoor
