/- Acts that came in as arguments. -/
import Derived.Test.YtecbgleidohjpabLivN
import Derived.ProofKit
import Derived.OpenShut
import Derived.ChangeOld
namespace Go.Proofs.Ytecbgleidohjpab.N
open Go.RowKit Go.ChangeAt Go.WideShapes Go.ChangeShapes
set_option maxRecDepth 100000

/-- An act: its kind, three numbers, two texts. -/
structure Act6 where
  k : Int
  x : Int
  y : Int
  z : Int
  nm : ByteArray
  v : ByteArray
def Act6.cells (a : Act6) : List Value := [.int .i64 a.k, .int .i64 a.x, .int .i64 a.y, .int .i64 a.z, .string a.nm, .string a.v]
/-- The slice holds the acts. -/
def ActsAt (W : World) (v : Value) (xs : List Act6) : Prop :=
  ∃ a cap, v = .slice a xs.length cap ∧ xs.length ≤ cap ∧ cap ≤ 9223372036854775807 ∧ (0 < xs.length → ∃ b off, a = some ⟨b, off, none⟩ ∧ b < W.heap.size ∧ ∀ i (h : i < xs.length), (∀ j, j < 6 → W.cell? ⟨b, off + i * 6 + j, none⟩ = (xs[i]'h).cells[j]?) ∧ (xs[i]'h).nm.size ≤ maxLen ∧ (xs[i]'h).v.size ≤ maxLen)
theorem cells_each {w : World} {base n : Nat} {a : Addr} {cs : List Value} (h : w.cells? base a n = some cs) : base ≤ a.block ∧ cs.length = n ∧ ∀ i, i < n → w.cell? (a.add i) = cs[i]? := by
  unfold World.cells? at h
  split at h
  · rename_i hb
    refine ⟨hb, ?_, fun i hi => ?_⟩
    · have := mapM_some_length h
      simpa using this
    · exact mapM_some_get h i i (by simp [hi])
  · cases h
theorem add_none (b off j : Nat) : (⟨b, off, none⟩ : Addr).add j = ⟨b, off + j, none⟩ := by unfold Addr.add; split <;> simp_all
theorem c3 : Try.prog.cellsOf 3 = 1 := by kernel_rfl
theorem c9 : Try.prog.cellsOf 9 = 1 := by kernel_rfl
theorem c33 : Try.prog.cellsOf 30 = 6 := by kernel_rfl
theorem head_of {a b : Value} (h : [a] = [b]) : a = b := by simpa using h
set_option maxRecDepth 100000 in
/-- What an act that came in holds. -/
theorem trod_act {H : Type} {enc : TypeId × Value → H} {W : World} {base fuel : Nat} {sp : Nat → Bool} {held : Bool} {cs : List Value} {x : DataW H × List MemPlace}
    (hf : DataW.trod enc Try.prog W base sp held fuel 30 cs = some x) (hcl : cs.length = 6) : ∃ z : Act6, cs = z.cells ∧ z.nm.size ≤ maxLen ∧ z.v.size ≤ maxLen := by
  obtain ⟨y0, y1, y2, y3, y4, y5, rfl⟩ : ∃ y0 y1 y2 y3 y4 y5, cs = [y0, y1, y2, y3, y4, y5] := by
    match cs, hcl with
    | [a, b, c, d, e, f], _ => exact ⟨a, b, c, d, e, f, rfl⟩
  obtain ⟨xs, n, rfl, hx, hl, hxl, hel⟩ := DataW.trod_struct Try.underlying30 hf
  have h0 := hel 0 _ rfl
  have h1 := hel 1 _ rfl
  have h2 := hel 2 _ rfl
  have h3 := hel 3 _ rfl
  have h4 := hel 4 _ rfl
  have h5 := hel 5 _ rfl
  have hxl3 : xs.length = 6 := hxl
  obtain ⟨x0, x1, x2, x3, x4, x5, rfl⟩ : ∃ x0 x1 x2 x3 x4 x5, xs = [x0, x1, x2, x3, x4, x5] := by
    match xs, hxl3 with
    | [a, b, c, d, e, f], _ => exact ⟨a, b, c, d, e, f, rfl⟩
  obtain ⟨k0, a0, b0, _⟩ := DataW.trod_int Try.underlying3 h0
  obtain ⟨k1, a1, b1, _⟩ := DataW.trod_int Try.underlying3 h1
  obtain ⟨k2, a2, b2, _⟩ := DataW.trod_int Try.underlying3 h2
  obtain ⟨k3, a3, b3, _⟩ := DataW.trod_int Try.underlying3 h3
  obtain ⟨k4, a4, b4, m4⟩ := DataW.trod_string Try.underlying9 h4
  obtain ⟨k5, a5, b5, m5⟩ := DataW.trod_string Try.underlying9 h5
  refine ⟨⟨k0, k1, k2, k3, k4, k5⟩, ?_, m4, m5⟩
  have e0 : y0 = .int .i64 k0 := head_of (by rw [← a0]; show _ = List.take (Try.prog.cellsOf 3) _; rw [c3]; rfl)
  have e1 : y1 = .int .i64 k1 := head_of (by rw [← a1]; show _ = List.take (Try.prog.cellsOf 3) _; rw [c3]; rfl)
  have e2 : y2 = .int .i64 k2 := head_of (by rw [← a2]; show _ = List.take (Try.prog.cellsOf 3) _; rw [c3]; rfl)
  have e3 : y3 = .int .i64 k3 := head_of (by rw [← a3]; show _ = List.take (Try.prog.cellsOf 3) _; rw [c3]; rfl)
  have e4 : y4 = .string k4 := head_of (by rw [← a4]; show _ = List.take (Try.prog.cellsOf 9) _; rw [c9]; rfl)
  have e5 : y5 = .string k5 := head_of (by rw [← a5]; show _ = List.take (Try.prog.cellsOf 9) _; rw [c9]; rfl)
  rw [e0, e1, e2, e3, e4, e5]
  rfl
/-- A lone act. -/
theorem open_act {H : Type} {enc : TypeId × Value → H} {W : World} {base : Nat} {v : Value} {d : DataW H} {ps : List MemPlace} (hval : Value.okWide Try.prog W .any base 30 v) (hd : DataW.Trod enc Try.prog W 0 (fun _ => true) true 30 v d ps) :
    ∃ z : Act6, v = .agg z.cells.toArray ∧ z.nm.size ≤ maxLen ∧ z.v.size ≤ maxLen := by
  obtain ⟨cs, rfl, hcs⟩ := okWide_struct Try.underlying30 hval
  obtain ⟨fuel, hf⟩ := hd
  rw [c33] at hcs
  obtain ⟨l⟩ := cs
  obtain ⟨z, hz, h1, h2⟩ := trod_act hf (by simpa [Value.cells] using hcs)
  refine ⟨z, ?_, h1, h2⟩
  have : l = z.cells := by simpa [Value.cells] using hz
  rw [this]
/-- What acts that came in are. -/
theorem open_acts {H : Type} {enc : TypeId × Value → H} {W : World} {base fuel : Nat} {sp : Nat → Bool} {held : Bool} {v : Value} {x : DataW H × List MemPlace}
    (hf : DataW.trod enc Try.prog W base sp held fuel 22 [v] = some x) : ∃ xs, ActsAt W v xs := by
  rcases DataW.trod_slice Try.underlying22 hf with ⟨hcs, _⟩ | ⟨a, len, cap, elems, rest, n, rfl, hcs, _, hb, hl, hcap, hel, hget, _⟩
  · refine ⟨[], none, 0, head_of hcs, Nat.le_refl _, by decide, fun h => absurd h (by simp)⟩
  · have key : ∀ i, i < len → ∃ (z : Act6), (∀ j, j < 6 → W.cell? ((a.add (i * 6)).add j) = z.cells[j]?) ∧ z.nm.size ≤ maxLen ∧ z.v.size ≤ maxLen := by
      intro i hi
      have h1 := hget i hi
      rw [c33] at h1
      have h2 : elems[i]? = some (elems[i]'(by omega)) := List.getElem?_eq_getElem (by omega)
      rw [h2, Option.bind_eq_some_iff] at h1
      obtain ⟨cs, hc, ht⟩ := h1
      obtain ⟨_, hcl, hce⟩ := cells_each hc
      obtain ⟨z, rfl, m1⟩ := trod_act ht hcl
      exact ⟨z, hce, m1⟩
    have hch : ∃ f : Nat → Act6, ∀ i, i < len → (∀ j, j < 6 → W.cell? ((a.add (i * 6)).add j) = (f i).cells[j]?) ∧ (f i).nm.size ≤ maxLen ∧ (f i).v.size ≤ maxLen := by
      refine ⟨fun i => if h : i < len then (key i h).choose else ⟨0, 0, 0, 0, ByteArray.empty, ByteArray.empty⟩, fun i hi => ?_⟩
      simp only [hi, dif_pos]
      exact (key i hi).choose_spec
    obtain ⟨f, hfi⟩ := hch
    have hll : ((List.range len).map f).length = len := by simp
    refine ⟨(List.range len).map f, some a, cap, by rw [hll]; exact head_of hcs, by rw [hll]; exact hl, Nat.le_trans hcap (by decide), fun h0 => ?_⟩
    rw [hll] at h0
    obtain ⟨b, off, spot⟩ := a
    have hc' : W.cell? ((⟨b, off, spot⟩ : Addr).add (0 * 6) |>.add 0) = some (.int .i64 (f 0).k) := (hfi 0 h0).1 0 (by omega)
    have hspot : spot = none := by simpa [Addr.add] using World.cell?_spot hc'
    subst hspot
    refine ⟨b, off, rfl, ?_, fun i hi => ?_⟩
    · have := World.block_lt_of_cell? W _ hc'
      simpa [add_none] using this
    · rw [hll] at hi
      have e : ((List.range len).map f)[i]'(by rw [hll]; exact hi) = f i := by simp
      rw [e]
      obtain ⟨h1, h2⟩ := hfi i hi
      refine ⟨fun j hj => ?_, h2⟩
      have k0 := h1 j hj
      rw [add_none, add_none] at k0
      exact k0

end Go.Proofs.Ytecbgleidohjpab.N
