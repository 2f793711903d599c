/- Acts in a slice; light tells some answer. -/
import Derived.Test.YtdgbebgjenfmbaaMTx
import Derived.Test.YtdgbebgjenfmbaaMNo
namespace Go.Proofs.Ytdgbebgjenfmbaa.M
open Go.RowKit Go.ChangeAt Go.WideShapes Go.ChangeShapes
set_option maxRecDepth 100000

/-- An act's cells in a row. -/
def Ac5 (w : World) (b o : Nat) (z : Ac) : Prop := ∃ sv, SsAt Any w sv z.x.l ∧ z.x.l.length ≤ 8796093021952 ∧ w.cell? ⟨b, o, none⟩ = some (.int .i64 z.k) ∧ w.cell? ⟨b, o + 1, none⟩ = some (.int .i64 z.i) ∧ w.cell? ⟨b, o + 2, none⟩ = some (.int .i64 z.x.e) ∧ w.cell? ⟨b, o + 3, none⟩ = some (.int .i64 z.x.d) ∧ w.cell? ⟨b, o + 4, none⟩ = some sv
theorem Ac5.keep {w w' : World} {b o : Nat} {z : Ac} (h : Ac5 w b o z) (hb : Below w.heap.size w w') : Ac5 w' b o z := by
  obtain ⟨sv, h1, h2, h3, h4, h5, h6, h7⟩ := h
  exact ⟨sv, h1.keep (Kb.of_below hb), h2, (hb.cell (p := ⟨b, o, none⟩) (lt_of_cell h3)).trans h3, (hb.cell (p := ⟨b, o + 1, none⟩) (lt_of_cell h4)).trans h4, (hb.cell (p := ⟨b, o + 2, none⟩) (lt_of_cell h5)).trans h5, (hb.cell (p := ⟨b, o + 3, none⟩) (lt_of_cell h6)).trans h6, (hb.cell (p := ⟨b, o + 4, none⟩) (lt_of_cell h7)).trans h7⟩
/-- Acts in a slice. -/
def AsAt (w : World) (v : Value) (zs : List Ac) : Prop := ∃ a c b off, v = .slice a zs.length c ∧ zs.length ≤ 9223372036854775807 ∧ (0 < zs.length → a = some ⟨b, off, none⟩) ∧ ∀ (i : Nat) (z : Ac), zs[i]? = some z → Ac5 w b (off + i * 5) z
theorem AsAt.keep {w w' : World} {v : Value} {zs : List Ac} (h : AsAt w v zs) (hb : Below w.heap.size w w') : AsAt w' v zs := by
  obtain ⟨a, c, b, off, h1, h2, h3, h4⟩ := h
  exact ⟨a, c, b, off, h1, h2, h3, fun i z hz => (h4 i z hz).keep hb⟩
theorem open_acts {H : Type} {enc : TypeId × Value → H} {W : World} {base fuel : Nat} {sp : Nat → Bool} {held : Bool} {v : Value} {x : DataW H × List MemPlace}
    (hf : DataW.trod enc Try.prog W base sp held fuel 22 [v] = some x) (hr : Rch 22 x.1) : ∃ zs : List Ac, AsAt W v zs := by
  rcases DataW.trod_slice Try.underlying22 hf with ⟨hcs, _⟩ | ⟨a, len, cap, elems, rest, n, rfl, hcs, hx, hb, hl, hcap, hel, hget, _⟩
  · have e := head_of hcs
    subst e
    exact ⟨[], none, 0, 0, 0, rfl, Nat.zero_le _, fun h => absurd h (Nat.lt_irrefl 0), fun i z hz => by rw [List.getElem?_nil] at hz; cases hz⟩
  · have e := head_of hcs
    subst e
    have hx1 : x.1 = DataW.slice (elems.map (·.1)) (rest.map (·.1)) := congrArg Prod.fst hx
    have hwt : DataW.weights Try.prog 22 (DataW.slice (elems.map (·.1)) (rest.map (·.1))) = ((elems.map (·.1)).length + (rest.map (·.1)).length) * Try.prog.bytesOf 33 :: (DataW.weightsAll Try.prog 33 (elems.map (·.1)) ++ DataW.weightsAll Try.prog 33 (rest.map (·.1))) := by
      rw [DataW.weights, Try.underlying22]
    unfold Rch at hr
    rw [hx1, hwt] at hr
    have key : ∀ i, i < len → ∃ z : Ac, ∃ sv, SsAt Any W sv z.x.l ∧ z.x.l.length ≤ 8796093021952 ∧ ∀ j, j < 5 → W.cell? ((a.add (i * 5)).add j) = [Value.int .i64 z.k, .int .i64 z.i, .int .i64 z.x.e, .int .i64 z.x.d, sv][j]? := by
      intro i hi
      have h1 := hget i hi
      rw [cz33] at h1
      have hie : i < elems.length := by omega
      have h2 : elems[i]? = some (elems[i]'hie) := List.getElem?_eq_getElem hie
      rw [h2, Option.bind_eq_some_iff] at h1
      obtain ⟨cs, hc, ht⟩ := h1
      obtain ⟨_, hcl, hce⟩ := cells_each hc
      obtain ⟨z, sv, rfl, hS, hlen⟩ := trod_act ht hcl fun m hm => hr m (List.mem_cons_of_mem _ (List.mem_append_left _ (weightsAll_mem (List.mem_map.2 ⟨_, List.getElem_mem hie, rfl⟩) _ hm)))
      exact ⟨z, sv, hS, hlen, hce⟩
    obtain ⟨f, hfi⟩ : ∃ f : Nat → Ac, ∀ i, i < len → ∃ sv, SsAt Any W sv (f i).x.l ∧ (f i).x.l.length ≤ 8796093021952 ∧ ∀ j, j < 5 → W.cell? ((a.add (i * 5)).add j) = [Value.int .i64 (f i).k, .int .i64 (f i).i, .int .i64 (f i).x.e, .int .i64 (f i).x.d, sv][j]? := by
      refine ⟨fun i => if h : i < len then (key i h).choose else ⟨0, 0, ⟨0, 0, []⟩⟩, fun i hi => ?_⟩
      simp only [hi, dif_pos]
      exact (key i hi).choose_spec
    have hll : ((List.range len).map f).length = len := by simp
    obtain ⟨b, off, spot⟩ := a
    have hsp : 0 < len → spot = none := fun h0 => by
      obtain ⟨sv, _, _, h5⟩ := hfi 0 h0
      have hc' : W.cell? ((⟨b, off, spot⟩ : Addr).add (0 * 5) |>.add 0) = some (.int .i64 (f 0).k) := h5 0 (by omega)
      simpa [Addr.add] using World.cell?_spot hc'
    refine ⟨(List.range len).map f, some ⟨b, off, spot⟩, cap, b, off, by rw [hll], by rw [hll]; exact Nat.le_trans hl (Nat.le_trans hcap (by decide)), fun h0 => ?_, fun i z hz => ?_⟩
    · rw [hll] at h0
      rw [hsp h0]
    · have hk : i < len := by
        have := (List.getElem?_eq_some_iff.1 hz).1
        rw [hll] at this
        exact this
      have es : z = f i := by
        rw [List.getElem?_map, List.getElem?_range hk] at hz
        simpa using hz.symm
      rw [es]
      obtain ⟨sv, h1, h2, h3⟩ := hfi i hk
      have hs := hsp (by omega)
      subst hs
      refine ⟨sv, h1, h2, ?_, ?_, ?_, ?_, ?_⟩
      · simpa [add_none] using h3 0 (by omega)
      · simpa [add_none] using h3 1 (by omega)
      · simpa [add_none] using h3 2 (by omega)
      · simpa [add_none] using h3 3 (by omega)
      · simpa [add_none] using h3 4 (by omega)
set_option maxHeartbeats 4000000 in
theorem light_some {w : World} {v : Value} {zs : List Ac} (h : AsAt w v zs) : Calls Try.prog 8 #[v] w fun e w' => ∃ b, e = .returned (.bool b) ∧ Below w.heap.size w w' := by
  obtain ⟨a, c, b, off, rfl, hln, ha, hz⟩ := h
  have HA := hid_mk ha
  have HZ : Hid (∀ i, i < zs.length → ∀ wq, Below w.heap.size w wq → ∃ z, Ac5 wq b (off + i * 5) z) := fun i hi wq hb => ⟨_, (hz i _ (List.getElem?_eq_getElem hi)).keep hb⟩
  clear ha hz
  generalize zs.length = N at *
  go_enter Try.func8, Try.ntmps8
  go_wp2
  go_loopw [3, 10] (fun a3 p wr => ∃ (m : Int) (i : Nat), a3 = .int .i64 m ∧ p = .int .i64 (i : Int) ∧ i ≤ N ∧ Hid (Below w.heap.size w wr)) (fun _ p _ => N + 1 - (intOf p).toNat)
  case atStart => exact ⟨0, 0, rfl, rfl, Nat.zero_le _, hid_mk (Below.refl _ _)⟩
  case round =>
    obtain ⟨m, i, rfl, rfl, hi, HB⟩ := hrel
    by_cases hlt : i < N
    · have ea := HA.out (by omega)
      subst ea
      obtain ⟨z, sv, hS, _, c0, c1, c2, c3, c4⟩ := HZ.out i hlt wr HB.out
      obtain ⟨sa, sc, g, o, rfl, _, _, hsa, hsc⟩ := hS
      have HSA : Hid (0 < z.x.l.length → sa = some ⟨g, o, none⟩) := fun h => (hsa h).1
      have HSC : Hid (∀ k, k < z.x.l.length → ∀ wq, Below wr.heap.size wr wq → ∃ s, wq.cell? ⟨g, o + k, none⟩ = some (.string s)) := fun k hk wq hb => by
        have := hsc k _ (List.getElem?_eq_getElem hk)
        exact ⟨_, (hb.cell (p := ⟨g, o + k, none⟩) (lt_of_cell this)).trans this⟩
      obtain ⟨w5, hw5⟩ : ∃ w5, w5 = wr.alloc (.cells #[.int .i64 z.k, .int .i64 z.i, .int .i64 z.x.e, .int .i64 z.x.d, .slice sa z.x.l.length sc] 33) := ⟨_, rfl⟩
      have HB5 : Hid (Below wr.heap.size wr w5) := by rw [hw5]; exact (Below.refl _ wr).alloc (Nat.le_refl _) _
      have HB0 : Hid (Below w.heap.size w w5) := HB.out.trans (HB5.out.mono HB.out.size)
      clear hsa hsc
      generalize z.x.l.length = n at *
      generalize z.k = zk at *
      generalize z.i = zi at *
      generalize z.x.e = ze at *
      generalize z.x.d = zd at *
      have hd : (i : Int) < (N : Int) := by omega
      have HW5 := hid_mk hw5
      clear hw5
      go_upto_region 5 with fail
      rw [← HW5.out]
      obtain ⟨d0, d1, d2, d3, d4⟩ : w5.cell? ⟨wr.heap.size, 0, none⟩ = some (.int .i64 zk) ∧ w5.cell? ⟨wr.heap.size, 1, none⟩ = some (.int .i64 zi) ∧ w5.cell? ⟨wr.heap.size, 2, none⟩ = some (.int .i64 ze) ∧ w5.cell? ⟨wr.heap.size, 3, none⟩ = some (.int .i64 zd) ∧ w5.cell? ⟨wr.heap.size, 4, none⟩ = some (.slice sa n sc) := by
        have hh := heap_alloc_last wr (.cells #[.int .i64 zk, .int .i64 zi, .int .i64 ze, .int .i64 zd, .slice sa n sc] 33)
        rw [← HW5.out] at hh
        exact box5 hh
      clear c0 c1 c2 c3 c4 HW5
      have HWR : Hid (∀ wq, Below w5.heap.size w5 wq → ∀ k, k < n → ∃ s, wq.cell? ⟨g, o + k, none⟩ = some (.string s)) := fun wq hb k hk => HSC.out k hk wq (HB5.out.trans (hb.mono HB5.out.size))
      clear HSC HB5
      generalize wr.heap.size = pw at d0 d1 d2 d3 d4 ⊢
      go_wp2
      go_loopw [3, 26] (fun a3 p wq => ∃ (m : Int) (k : Nat), a3 = .int .i64 m ∧ p = .int .i64 (k : Int) ∧ k ≤ n ∧ Hid (Below w5.heap.size w5 wq)) (fun _ p _ => n + 1 - (intOf p).toNat)
      case atStart => exact ⟨_, 0, rfl, rfl, Nat.zero_le _, hid_mk (Below.refl _ _)⟩
      case round =>
        obtain ⟨m2, k, rfl, rfl, hk, HBq⟩ := hrel
        by_cases hkn : k < n
        · have ea := HSA.out (by omega)
          subst ea
          obtain ⟨s, hs⟩ := HWR.out wr HBq.out k hkn
          have hd2 : (k : Int) < (n : Int) := by omega
          clear HWR HSA
          go_wp2
          refine ⟨⟨_, k + 1, rfl, by go_num, by omega, HBq⟩, ?_⟩
          simp only [intOf]
          omega
        · have hkn2 : k = n := by omega
          subst hkn2
          have HBO : Hid (Below w.heap.size w wr) := HB0.out.trans (HBq.out.mono HB0.out.size)
          clear HWR HSA HBq
          by_cases hm : (250 : Int) < m2
          · have hdm : decide ((250 : Int) < m2) = true := decide_eq_true hm
            go_wp2
            go_ret
            exact ⟨_, rfl, HBO.out⟩
          · have hdm : decide ((250 : Int) < m2) = false := decide_eq_false hm
            go_wp2
            refine ⟨⟨_, i + 1, rfl, by go_num, by omega, HBO⟩, ?_⟩
            simp only [intOf]
            omega
    · have HBo := HB.out
      have : i = N := by omega
      subst this
      go_wp2
      go_ret
      exact ⟨_, rfl, HBo⟩
end Go.Proofs.Ytdgbebgjenfmbaa.M
