/- Texts and acts that came in as arguments. -/
import Derived.Test.YtdgbebgjenfmbaaMLi
import Derived.ProofKit
import Derived.OpenShut
import Derived.ChangeOld
import Derived.SizedLaws
namespace Go.Proofs.Ytdgbebgjenfmbaa.M
open Go.RowKit Go.ChangeAt Go.WideShapes Go.ChangeShapes
set_option maxRecDepth 100000

theorem cells_each {w : World} {base n : Nat} {a : Addr} {cs : List Value} (h : w.cells? base a n = some cs) : base ≤ a.block ∧ cs.length = n ∧ ∀ i, i < n → w.cell? (a.add i) = cs[i]? := by
  unfold World.cells? at h
  split at h
  · rename_i hb
    refine ⟨hb, ?_, fun i hi => ?_⟩
    · have := mapM_some_length h
      simpa using this
    · exact mapM_some_get h i i (by simp [hi])
  · cases h
theorem add_none (b off j : Nat) : (⟨b, off, none⟩ : Addr).add j = ⟨b, off + j, none⟩ := by unfold Addr.add; split <;> simp_all
theorem cz3 : Try.prog.cellsOf 3 = 1 := by kernel_rfl
theorem cz9 : Try.prog.cellsOf 9 = 1 := by kernel_rfl
theorem cz29 : Try.prog.cellsOf 29 = 1 := by kernel_rfl
theorem cz31 : Try.prog.cellsOf 31 = 3 := by kernel_rfl
theorem cz33 : Try.prog.cellsOf 33 = 5 := by kernel_rfl
theorem head_of {a b : Value} (h : [a] = [b]) : a = b := by simpa using h
/-- Each weight is within reach. -/
def Rch {H : Type} (t : TypeId) (d : DataW H) : Prop := ∀ n ∈ d.weights Try.prog t, n ≤ reachBytes
theorem rch_at {H : Type} {ts : List TypeId} {ds : List (DataW H)} (h : (DataW.weightsEach Try.prog ts ds).all (· ≤ reachBytes) = true) {j : Nat} {t : TypeId} {d : DataW H} (ht : ts[j]? = some t) (hd : ds[j]? = some d) : Rch t d := fun n hn => by
  have := List.all_eq_true.1 h _ (DataW.weights_mem_each ht hd n hn)
  simpa using this
theorem weightsAll_mem {H : Type} {e : TypeId} : ∀ {ds : List (DataW H)} {d : DataW H}, d ∈ ds → ∀ m ∈ d.weights Try.prog e, m ∈ DataW.weightsAll Try.prog e ds
  | [], _, h, _, _ => by cases h
  | y :: r, d, h, m, hm => by
    rw [DataW.weightsAll]
    rcases List.mem_cons.1 h with rfl | h
    · exact List.mem_append_left _ hm
    · exact List.mem_append_right _ (weightsAll_mem h m hm)
/-- Anywhere. -/
def Any : Nat → Prop := fun _ => True
/-- Texts that came in. -/
theorem open_strs {H : Type} {enc : TypeId × Value → H} {W : World} {base : Nat} {sp : Nat → Bool} {held : Bool} (fuel : Nat) (v : Value) (x : DataW H × List MemPlace) (hf : DataW.trod enc Try.prog W base sp held fuel 29 [v] = some x) (hr : Rch 29 x.1) :
    ∃ l, SsAt Any W v l ∧ (∀ y ∈ l, y.size ≤ 140737488351232) ∧ l.length * 16 ≤ 140737488351232 := by
  rcases DataW.trod_slice Try.underlying29 hf with ⟨hcs, _⟩ | ⟨a, len, cap, elems, rest, n, rfl, hcs, hx, hb, hl, hcap, hel, hget, _⟩
  · have e := head_of hcs
    subst e
    exact ⟨[], SsAt.nil _ _, (fun y hy => absurd hy (List.not_mem_nil)), Nat.zero_le _⟩
  · have hx1 : x.1 = DataW.slice (elems.map (·.1)) (rest.map (·.1)) := congrArg Prod.fst hx
    have hwt : DataW.weights Try.prog 29 (DataW.slice (elems.map (·.1)) (rest.map (·.1))) = ((elems.map (·.1)).length + (rest.map (·.1)).length) * Try.prog.bytesOf 9 :: (DataW.weightsAll Try.prog 9 (elems.map (·.1)) ++ DataW.weightsAll Try.prog 9 (rest.map (·.1))) := by
      rw [DataW.weights, Try.underlying29]
    unfold Rch at hr
    rw [hx1, hwt] at hr
    have hb16 : Try.prog.bytesOf 9 = 16 := by kernel_rfl
    have key : ∀ i (hi : i < len), ∃ q : ByteArray, W.cell? ((a.add (i * 1)).add 0) = some (.string q) ∧ q.size ≤ 140737488351232 := by
      intro i hi
      have h1 := hget i hi
      rw [cz9] at h1
      have hie : i < elems.length := by omega
      have h2 : elems[i]? = some (elems[i]'hie) := List.getElem?_eq_getElem hie
      rw [h2, Option.bind_eq_some_iff] at h1
      obtain ⟨cs, hc, ht⟩ := h1
      obtain ⟨_, _, hce⟩ := cells_each hc
      obtain ⟨s, rfl, hs, _⟩ := DataW.trod_string Try.underlying9 ht
      refine ⟨s, hce 0 (by omega), ?_⟩
      have := hr s.data.toList.length (List.mem_cons_of_mem _ (List.mem_append_left _ (weightsAll_mem (List.mem_map.2 ⟨_, List.getElem_mem hie, rfl⟩) _ (by rw [hs]; simp [DataW.weights]))))
      have hrb : reachBytes = 140737488351232 := rfl
      rw [hrb] at this
      simpa using this
    obtain ⟨f, hfi⟩ : ∃ f : Nat → ByteArray, ∀ i (hi : i < len), W.cell? ((a.add (i * 1)).add 0) = some (.string (f i)) ∧ (f i).size ≤ 140737488351232 := by
      refine ⟨fun i => if h : i < len then (key i h).choose else ⟨#[]⟩, fun i hi => ?_⟩
      simp only [hi, dif_pos]
      exact (key i hi).choose_spec
    have hll : ((List.range len).map f).length = len := by simp
    have e := head_of hcs
    subst e
    obtain ⟨b, off, spot⟩ := a
    have hsp : 0 < len → spot = none ∧ b < W.heap.size := fun h0 => by
      have hc' : W.cell? ((⟨b, off, spot⟩ : Addr).add (0 * 1) |>.add 0) = some (.string (f 0)) := (hfi 0 h0).1
      have hspot : spot = none := by simpa [Addr.add] using World.cell?_spot hc'
      subst hspot
      have := World.block_lt_of_cell? W _ hc'
      exact ⟨rfl, by simpa [add_none] using this⟩
    refine ⟨(List.range len).map f, ⟨some ⟨b, off, spot⟩, cap, b, off, by rw [hll], by rw [hll]; exact hl, by unfold maxLen; exact Nat.le_trans hcap (by decide), fun h0 => ?_, fun k s hs => ?_⟩, fun y hy => ?_, ?_⟩
    · rw [hll] at h0
      obtain ⟨h1, h2⟩ := hsp h0
      subst h1
      exact ⟨rfl, h2, trivial⟩
    · have hk : k < len := by
        have := (List.getElem?_eq_some_iff.1 hs).1
        rw [hll] at this
        exact this
      have es : s = f k := by
        rw [List.getElem?_map, List.getElem?_range hk] at hs
        simpa using hs.symm
      obtain ⟨h1, _⟩ := hsp (by omega)
      subst h1
      have h2 := (hfi k hk).1
      rw [es]
      simpa [add_none] using h2
    · obtain ⟨k, hk, rfl⟩ := List.mem_map.1 hy
      exact (hfi k (List.mem_range.1 hk)).2
    · have h0 := hr _ List.mem_cons_self
      rw [hb16, List.length_map, List.length_map] at h0
      have hrb : reachBytes = 140737488351232 := rfl
      rw [hll]
      omega
/-- An act: its kind, a cell's number, an entry. -/
structure Ac where
  k : Int
  i : Int
  x : En
/-- An act's five cells. -/
def AcC (w : World) (z : Ac) (cs : List Value) : Prop := ∃ sv, cs = [.int .i64 z.k, .int .i64 z.i, .int .i64 z.x.e, .int .i64 z.x.d, sv] ∧ SsAt Any w sv z.x.l ∧ z.x.l.length ≤ 8796093021952
theorem AcC.keep {w w' : World} {z : Ac} {cs : List Value} (h : AcC w z cs) (hb : Below w.heap.size w w') : AcC w' z cs := by
  obtain ⟨sv, h1, h2, h3⟩ := h
  exact ⟨sv, h1, h2.keep (Kb.of_below hb), h3⟩
theorem trod_act {H : Type} {enc : TypeId × Value → H} {W : World} {base fuel : Nat} {sp : Nat → Bool} {held : Bool} {cs : List Value} {x : DataW H × List MemPlace}
    (hf : DataW.trod enc Try.prog W base sp held fuel 33 cs = some x) (hcl : cs.length = 5) (hr : Rch 33 x.1) : ∃ z : Ac, AcC W z cs := by
  obtain ⟨y0, y1, y2, y3, y4, rfl⟩ : ∃ y0 y1 y2 y3 y4, cs = [y0, y1, y2, y3, y4] := by
    match cs, hcl with
    | [a, b, c, d, e], _ => exact ⟨a, b, c, d, e, rfl⟩
  obtain ⟨xs, n, rfl, hx, hl, hxl, hel⟩ := DataW.trod_struct Try.underlying33 hf
  have h0 := hel 0 _ rfl
  have h1 := hel 1 _ rfl
  have h2 := hel 2 _ rfl
  have hxl3 : xs.length = 3 := hxl
  obtain ⟨x0, x1, x2, rfl⟩ : ∃ x0 x1 x2, xs = [x0, x1, x2] := by
    match xs, hxl3 with
    | [a, b, c], _ => exact ⟨a, b, c, rfl⟩
  obtain ⟨k0, a0, _, _⟩ := DataW.trod_int Try.underlying3 h0
  obtain ⟨k1, a1, _, _⟩ := DataW.trod_int Try.underlying3 h1
  obtain ⟨ys, n4, en4, hx4, hl4, hxl4, hel4⟩ := DataW.trod_struct Try.underlying31 h2
  have hxl43 : ys.length = 3 := hxl4
  obtain ⟨z0, z1, z2, rfl⟩ : ∃ z0 z1 z2, ys = [z0, z1, z2] := by
    match ys, hxl43 with
    | [a, b, c], _ => exact ⟨a, b, c, rfl⟩
  have g0 := hel4 0 _ rfl
  have g1 := hel4 1 _ rfl
  have g2 := hel4 2 _ rfl
  obtain ⟨j0, p0, _, _⟩ := DataW.trod_int Try.underlying3 g0
  obtain ⟨j1, p1, _, _⟩ := DataW.trod_int Try.underlying3 g1
  have e0 : y0 = .int .i64 k0 := head_of (by rw [← a0]; show _ = List.take (Try.prog.cellsOf 3) _; rw [cz3]; rfl)
  have e1 : y1 = .int .i64 k1 := head_of (by rw [← a1]; show _ = List.take (Try.prog.cellsOf 3) _; rw [cz3]; rfl)
  have e2 : y2 = .int .i64 j0 := head_of (by rw [← p0]; show _ = List.take (Try.prog.cellsOf 3) (List.drop _ (List.take (Try.prog.cellsOf 31) _)); rw [cz3, cz31]; rfl)
  have e3 : y3 = .int .i64 j1 := head_of (by rw [← p1]; show _ = List.take (Try.prog.cellsOf 3) (List.drop _ (List.take (Try.prog.cellsOf 31) _)); rw [cz3, cz31]; rfl)
  have g2 : DataW.trod enc Try.prog W base sp held _ 29 (List.take (Try.prog.cellsOf 29) (List.drop _ (List.take (Try.prog.cellsOf 31) _))) = some z2 := g2
  rw [cz29, cz31] at g2
  have g2 : DataW.trod enc Try.prog W base sp held _ 29 [y4] = some z2 := g2
  have hx1 : x.1 = DataW.agg ([x0, x1, x2].map (·.1)) := congrArg Prod.fst hx
  have hx41 : x2.1 = DataW.agg ([z0, z1, z2].map (·.1)) := congrArg Prod.fst hx4
  have hrs : Rch 29 z2.1 := fun m hm => by
    refine hr m ?_
    rw [hx1]
    have hw : DataW.weights Try.prog 33 (DataW.agg ([x0, x1, x2].map (·.1))) = x0.1.weights Try.prog 3 ++ (x1.1.weights Try.prog 3 ++ (x2.1.weights Try.prog 31 ++ [])) := by
      simp only [DataW.weights, Try.underlying33, DataW.weightsEach, List.map]
    rw [hw, hx41]
    have hw2 : DataW.weights Try.prog 31 (DataW.agg ([z0, z1, z2].map (·.1))) = z0.1.weights Try.prog 3 ++ (z1.1.weights Try.prog 3 ++ (z2.1.weights Try.prog 29 ++ [])) := by
      simp only [DataW.weights, Try.underlying31, DataW.weightsEach, List.map]
    rw [hw2]
    simp only [List.mem_append]
    exact .inr (.inr (.inl (.inr (.inr (.inl hm)))))
  obtain ⟨l, hS, _, hlen⟩ := open_strs _ _ _ g2 hrs
  exact ⟨⟨k0, k1, ⟨j0, j1, l⟩⟩, y4, by rw [e0, e1, e2, e3], hS, by show l.length ≤ _; omega⟩
/-- A lone act. -/
theorem open_act {H : Type} {enc : TypeId × Value → H} {W : World} {base : Nat} {v : Value} {d : DataW H} {ps : List MemPlace} (hval : Value.okWide Try.prog W .any base 33 v) (hd : DataW.Trod enc Try.prog W 0 (fun _ => true) true 33 v d ps) (hr : Rch 33 d) :
    ∃ z : Ac, ∃ sv, v = .agg #[.int .i64 z.k, .int .i64 z.i, .int .i64 z.x.e, .int .i64 z.x.d, sv] ∧ SsAt Any W sv z.x.l := by
  obtain ⟨cs, rfl, hcs⟩ := okWide_struct Try.underlying33 hval
  obtain ⟨fuel, hf⟩ := hd
  rw [cz33] at hcs
  obtain ⟨l⟩ := cs
  obtain ⟨z, sv, hz, hS, _⟩ := trod_act hf (by simpa [Value.cells] using hcs) hr
  refine ⟨z, sv, ?_, hS⟩
  have : l = [Value.int .i64 z.k, .int .i64 z.i, .int .i64 z.x.e, .int .i64 z.x.d, sv] := by simpa [Value.cells] using hz
  rw [this]
end Go.Proofs.Ytdgbebgjenfmbaa.M
