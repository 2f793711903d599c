/- Entries that came in as arguments. -/
import Derived.Test.YtmpppijgjbfolaaCFd
import Derived.ProofKit
import Derived.OpenShut
import Derived.ChangeOld
import Derived.SizedLaws
namespace Go.Proofs.Ytmpppijgjbfolaa.C
open Go.RowKit Go.ChangeAt Go.WideShapes Go.ChangeShapes
set_option maxRecDepth 100000

theorem cells_each {w : World} {base n : Nat} {a : Addr} {cs : List Value} (h : w.cells? base a n = some cs) : base ≤ a.block ∧ cs.length = n ∧ ∀ i, i < n → w.cell? (a.add i) = cs[i]? := by
  unfold World.cells? at h
  split at h
  · rename_i hb
    refine ⟨hb, ?_, fun i hi => ?_⟩
    · have := mapM_some_length h
      simpa using this
    · exact mapM_some_get h i i (by simp [hi])
  · cases h
theorem add_none (b off j : Nat) : (⟨b, off, none⟩ : Addr).add j = ⟨b, off + j, none⟩ := by unfold Addr.add; split <;> simp_all
theorem cz3 : Try.prog.cellsOf 3 = 1 := by kernel_rfl
theorem cz4 : Try.prog.cellsOf 4 = 1 := by kernel_rfl
theorem cz9 : Try.prog.cellsOf 9 = 1 := by kernel_rfl
theorem cz24 : Try.prog.cellsOf 24 = 3 := by kernel_rfl
theorem cz26 : Try.prog.cellsOf 26 = 8 := by kernel_rfl
theorem head_of {a b : Value} (h : [a] = [b]) : a = b := by simpa using h
/-- Each weight is within reach. -/
def Rch {H : Type} (t : TypeId) (d : DataW H) : Prop := ∀ n ∈ d.weights Try.prog t, n ≤ reachBytes
theorem rch_at {H : Type} {ts : List TypeId} {ds : List (DataW H)} (h : (DataW.weightsEach Try.prog ts ds).all (· ≤ reachBytes) = true) {j : Nat} {t : TypeId} {d : DataW H} (ht : ts[j]? = some t) (hd : ds[j]? = some d) : Rch t d := fun n hn => by
  have := List.all_eq_true.1 h _ (DataW.weights_mem_each ht hd n hn)
  simpa using this
theorem weightsAll_mem {H : Type} {e : TypeId} : ∀ {ds : List (DataW H)} {d : DataW H}, d ∈ ds → ∀ m ∈ d.weights Try.prog e, m ∈ DataW.weightsAll Try.prog e ds
  | [], _, h, _, _ => by cases h
  | y :: r, d, h, m, hm => by
    rw [DataW.weightsAll]
    rcases List.mem_cons.1 h with rfl | h
    · exact List.mem_append_left _ hm
    · exact List.mem_append_right _ (weightsAll_mem h m hm)
/-- What an entry that came in holds. -/
theorem trod_ent {H : Type} {enc : TypeId × Value → H} {W : World} {base fuel : Nat} {sp : Nat → Bool} {held : Bool} {cs : List Value} {x : DataW H × List MemPlace}
    (hf : DataW.trod enc Try.prog W base sp held fuel 26 cs = some x) (hcl : cs.length = 8) : ∃ z : E8, cs = c8 z ∧ (Rch 26 x.1 → z.n.size ≤ reachBytes ∧ z.v.size ≤ reachBytes) := by
  obtain ⟨y0, y1, y2, y3, y4, y5, y6, y7, rfl⟩ : ∃ y0 y1 y2 y3 y4 y5 y6 y7, cs = [y0, y1, y2, y3, y4, y5, y6, y7] := by
    match cs, hcl with
    | [a, b, c, d, e, f, g, h], _ => exact ⟨a, b, c, d, e, f, g, h, rfl⟩
  obtain ⟨xs, n, rfl, hx, hl, hxl, hel⟩ := DataW.trod_struct Try.underlying26 hf
  have h0 := hel 0 _ rfl
  have h1 := hel 1 _ rfl
  have h2 := hel 2 _ rfl
  have h3 := hel 3 _ rfl
  have h4 := hel 4 _ rfl
  have h5 := hel 5 _ rfl
  have hxl3 : xs.length = 6 := hxl
  obtain ⟨x0, x1, x2, x3, x4, x5, rfl⟩ : ∃ x0 x1 x2 x3 x4 x5, xs = [x0, x1, x2, x3, x4, x5] := by
    match xs, hxl3 with
    | [a, b, c, d, e, f], _ => exact ⟨a, b, c, d, e, f, rfl⟩
  obtain ⟨k0, a0, b0, m0⟩ := DataW.trod_string Try.underlying9 h0
  obtain ⟨k1, a1, b1, m1⟩ := DataW.trod_string Try.underlying9 h1
  obtain ⟨k2, a2, b2, _⟩ := DataW.trod_int Try.underlying3 h2
  obtain ⟨k3, a3, b3⟩ := DataW.trod_bool Try.underlying4 h3
  obtain ⟨ys, n4, en4, hx4, hl4, hxl4, hel4⟩ := DataW.trod_struct Try.underlying24 h4
  have hxl43 : ys.length = 3 := hxl4
  obtain ⟨z0, z1, z2, rfl⟩ : ∃ z0 z1 z2, ys = [z0, z1, z2] := by
    match ys, hxl43 with
    | [a, b, c], _ => exact ⟨a, b, c, rfl⟩
  have g0 := hel4 0 _ rfl
  have g1 := hel4 1 _ rfl
  have g2 := hel4 2 _ rfl
  obtain ⟨j0, p0, _, _⟩ := DataW.trod_int Try.underlying3 g0
  obtain ⟨j1, p1, _, _⟩ := DataW.trod_int Try.underlying3 g1
  obtain ⟨j2, p2, _, _⟩ := DataW.trod_int Try.underlying3 g2
  obtain ⟨k5, a5, b5, _⟩ := DataW.trod_int Try.underlying3 h5
  have e0 : y0 = .string k0 := head_of (by rw [← a0]; show _ = List.take (Try.prog.cellsOf 9) _; rw [cz9]; rfl)
  have e1 : y1 = .string k1 := head_of (by rw [← a1]; show _ = List.take (Try.prog.cellsOf 9) _; rw [cz9]; rfl)
  have e2 : y2 = .int .i64 k2 := head_of (by rw [← a2]; show _ = List.take (Try.prog.cellsOf 3) _; rw [cz3]; rfl)
  have e3 : y3 = .bool k3 := head_of (by rw [← a3]; show _ = List.take (Try.prog.cellsOf 4) _; rw [cz4]; rfl)
  have e4 : y4 = .int .i64 j0 := head_of (by rw [← p0]; show _ = List.take (Try.prog.cellsOf 3) (List.drop _ (List.take (Try.prog.cellsOf 24) _)); rw [cz3, cz24]; rfl)
  have e5 : y5 = .int .i64 j1 := head_of (by rw [← p1]; show _ = List.take (Try.prog.cellsOf 3) (List.drop _ (List.take (Try.prog.cellsOf 24) _)); rw [cz3, cz24]; rfl)
  have e6 : y6 = .int .i64 j2 := head_of (by rw [← p2]; show _ = List.take (Try.prog.cellsOf 3) (List.drop _ (List.take (Try.prog.cellsOf 24) _)); rw [cz3, cz24]; rfl)
  have e7 : y7 = .int .i64 k5 := head_of (by rw [← a5]; show _ = List.take (Try.prog.cellsOf 3) _; rw [cz3]; rfl)
  refine ⟨⟨k0, k1, k2, k3, j0, j1, j2, k5⟩, by rw [e0, e1, e2, e3, e4, e5, e6, e7]; rfl, fun hr => ?_⟩
  have hx1 : x.1 = DataW.agg ([x0, x1, x2, x3, x4, x5].map (·.1)) := congrArg Prod.fst hx
  have q0 : x0.1 = .lit (.string k0.data.toList) := by rw [b0]
  have q1 : x1.1 = .lit (.string k1.data.toList) := by rw [b1]
  unfold Rch at hr
  rw [hx1] at hr
  have hw : DataW.weights Try.prog 26 (DataW.agg ([x0, x1, x2, x3, x4, x5].map (·.1))) = x0.1.weights Try.prog 9 ++ (x1.1.weights Try.prog 9 ++ (x2.1.weights Try.prog 3 ++ (x3.1.weights Try.prog 4 ++ (x4.1.weights Try.prog 24 ++ (x5.1.weights Try.prog 3 ++ []))))) := by
    simp only [DataW.weights, Try.underlying26, DataW.weightsEach, List.map]
  rw [hw] at hr
  refine ⟨?_, ?_⟩
  · have := hr k0.data.toList.length (by rw [q0]; simp [DataW.weights])
    simpa using this
  · have := hr k1.data.toList.length (by rw [q1]; simp [DataW.weights])
    simpa using this
/-- Texts within reach. -/
def Szd (z : E8) : Prop := z.n.size ≤ 140737488351232 ∧ z.v.size ≤ 140737488351232
/-- A lone entry. -/
theorem open_ent {H : Type} {enc : TypeId × Value → H} {W : World} {base : Nat} {v : Value} {d : DataW H} {ps : List MemPlace} (hval : Value.okWide Try.prog W .any base 26 v) (hd : DataW.Trod enc Try.prog W 0 (fun _ => true) true 26 v d ps) (hr : Rch 26 d) :
    ∃ z : E8, v = z.val ∧ Szd z := by
  obtain ⟨cs, rfl, hcs⟩ := okWide_struct Try.underlying26 hval
  obtain ⟨fuel, hf⟩ := hd
  rw [cz26] at hcs
  obtain ⟨l⟩ := cs
  obtain ⟨z, hz, h1⟩ := trod_ent hf (by simpa [Value.cells] using hcs)
  refine ⟨z, ?_, ?_⟩
  · have : l = c8 z := by simpa [Value.cells] using hz
    rw [this]
    rfl
  · exact h1 hr
/-- What entries that came in are. -/
theorem open_ents {H : Type} {enc : TypeId × Value → H} {W : World} {base fuel : Nat} {sp : Nat → Bool} {held : Bool} {a0 : Option Addr} {len0 cap0 : Nat} {x : DataW H × List MemPlace}
    (hf : DataW.trod enc Try.prog W base sp held fuel 22 [.slice a0 len0 cap0] = some x) (hr : Rch 22 x.1) : ∃ xs : List E8, len0 = xs.length ∧ EsAt W a0 cap0 xs ∧ (∀ z ∈ xs, Szd z) ∧ xs.length * 80 ≤ 140737488351232 := by
  rcases DataW.trod_slice Try.underlying22 hf with ⟨hcs, _⟩ | ⟨a, len, cap, elems, rest, n, rfl, hcs, hx, hb, hl, hcap, hel, hget, _⟩
  · have e := head_of hcs
    cases e
    exact ⟨[], rfl, EsAt.of (RowAt.nil _ _), by simp, by simp⟩
  · have e := head_of hcs
    cases e
    have hx1 : x.1 = DataW.slice (elems.map (·.1)) (rest.map (·.1)) := congrArg Prod.fst hx
    have hwt : DataW.weights Try.prog 22 (DataW.slice (elems.map (·.1)) (rest.map (·.1))) = ((elems.map (·.1)).length + (rest.map (·.1)).length) * Try.prog.bytesOf 26 :: (DataW.weightsAll Try.prog 26 (elems.map (·.1)) ++ DataW.weightsAll Try.prog 26 (rest.map (·.1))) := by
      rw [DataW.weights, Try.underlying22]
    have key : ∀ i, i < len0 → ∃ (z : E8), (∀ j, j < 8 → W.cell? ((a.add (i * 8)).add j) = (c8 z)[j]?) ∧ Szd z := by
      intro i hi
      have h1 := hget i hi
      rw [cz26] at h1
      have hie : i < elems.length := by omega
      have h2 : elems[i]? = some (elems[i]'hie) := List.getElem?_eq_getElem hie
      rw [h2, Option.bind_eq_some_iff] at h1
      obtain ⟨cs, hc, ht⟩ := h1
      obtain ⟨_, hcl, hce⟩ := cells_each hc
      obtain ⟨z, rfl, m1⟩ := trod_ent ht hcl
      refine ⟨z, hce, m1 fun m hm => hr m ?_⟩
      rw [hx1, hwt]
      exact List.mem_cons_of_mem _ (List.mem_append_left _ (weightsAll_mem (List.mem_map.2 ⟨_, List.getElem_mem hie, rfl⟩) m hm))
    have hch : ∃ f : Nat → E8, ∀ i, i < len0 → (∀ j, j < 8 → W.cell? ((a.add (i * 8)).add j) = (c8 (f i))[j]?) ∧ Szd (f i) := by
      refine ⟨fun i => if h : i < len0 then (key i h).choose else ⟨⟨#[]⟩, ⟨#[]⟩, 0, false, 0, 0, 0, 0⟩, fun i hi => ?_⟩
      simp only [hi, dif_pos]
      exact (key i hi).choose_spec
    obtain ⟨f, hfi⟩ := hch
    have hll : ((List.range len0).map f).length = len0 := by simp
    refine ⟨(List.range len0).map f, hll.symm, ?_, ?_, ?_⟩
    · unfold EsAt
      rw [hll]
      refine ⟨⟨hl, by unfold maxLen; exact Nat.le_trans hcap (by decide)⟩, fun h0 => ⟨by rw [flat8_len, hll], hl, by unfold maxLen; exact Nat.le_trans hcap (by decide), flat8_one _, ?_⟩⟩
      obtain ⟨b, off, spot⟩ := a
      have hc' : W.cell? ((⟨b, off, spot⟩ : Addr).add (0 * 8) |>.add 0) = some (.string (f 0).n) := (hfi 0 h0).1 0 (by omega)
      have hspot : spot = none := by simpa [Addr.add] using World.cell?_spot hc'
      subst hspot
      refine .inr ⟨b, off, rfl, ?_, fun j u hu => ?_⟩
      · have := World.block_lt_of_cell? W _ hc'
        simpa [add_none] using this
      · have hjl := (List.getElem?_eq_some_iff.1 hu).1
        rw [flat8_len, hll] at hjl
        have hi : j / 8 < len0 := by omega
        have hj := flat8_at ((List.range len0).map f) (j / 8) (by rw [hll]; exact hi) (j % 8) (by omega)
        rw [show j / 8 * 8 + j % 8 = j by omega, hu] at hj
        have k0 := (hfi (j / 8) hi).1 (j % 8) (by omega)
        rw [add_none, add_none] at k0
        rw [show off + j = off + j / 8 * 8 + j % 8 by omega, k0]
        simpa using hj.symm
    · intro z hz
      obtain ⟨i, hi, rfl⟩ := List.mem_map.1 hz
      exact (hfi i (by simpa using hi)).2
    · rw [hll]
      have := hr _ (by rw [hx1, hwt]; exact List.mem_cons_self)
      have hb80 : Try.prog.bytesOf 26 = 80 := by kernel_rfl
      rw [hb80] at this
      simp only [List.length_map] at this
      have h3 : reachBytes = 140737488351232 := by decide
      omega
end Go.Proofs.Ytmpppijgjbfolaa.C
