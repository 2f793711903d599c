/- Stores of attributes and of a Parent into the row of a tree of one's own. The document's DropAttr: the walk. The document's DropAttr, by the elements' numbers. The document's SetAttr: what it refuses. The document's SetAttr: what its loop gathers (the walk is to come). -/
import Derived.Test.YtdiljkmlneeboaaGreatRfT
import Derived.Deep.RegionLaw
import Derived.Deep.DeepCutAuto
namespace Go.Proofs.YtdiljkmlneeboaaGreat.N
open Go.RowKit
set_option maxRecDepth 100000

theorem flat5_setA : ∀ (ss : List N5) (t : Nat) (h : t < ss.length) (a : Option Addr) (n c : Nat), (ss.flatMap c5).set (t * 5 + 4) (.slice a n c) = (ss.set t { ss[t] with aa := a, an := n, ac := c }).flatMap c5
  | s :: r, 0, _, a, n, c => by
    rw [List.flatMap_cons, List.set_cons_zero, List.flatMap_cons]
    rfl
  | s :: r, t + 1, h, a, n, c => by
    rw [List.flatMap_cons, List.set_cons_succ, List.flatMap_cons]
    have ih := flat5_setA r t (by simpa using h) a n c
    have e1 : (t + 1) * 5 + 4 = (c5 s).length + (t * 5 + 4) := by simp [c5]; omega
    rw [e1, List.set_append_right _ _ (by omega), Nat.add_sub_cancel_left, ih]
    rfl
/-- An element of a row of one's own gets another list of attributes. -/
theorem LOwn.attrs {B b g : Nat} {w : World} {v : Value} {L : List El} (h : LOwn B w b v L) {t : Nat} (ht : t < L.length) (hg : v.ownBlock = some g) {a : Option Addr} {n c : Nat} {us : Us} (hr : RowAt w 2 a n c (attrsV us)) (hb : ∀ x, a = some x → x.block ≠ b) (hag : ∀ x, a = some x → x.block ≠ g) : LOwn B (w.setCell ⟨g, t * 5 + 4, none⟩ (.slice a n c)) b v (L.set t { L[t] with us := us }) := by
  obtain ⟨ss, h1, h2, h3, h4, h5⟩ := h
  have hts : t < ss.length := by omega
  have hsz : w.heap.size ≤ (w.setCell ⟨g, t * 5 + 4, none⟩ (.slice a n c)).heap.size := by simp
  have hbl : ∀ k, k < w.heap.size → k ≠ g → (w.setCell ⟨g, t * 5 + 4, none⟩ (.slice a n c)).heap[k]? = w.heap[k]? := fun k _ hk => Below.heap_setCell w ⟨g, t * 5 + 4, none⟩ _ k hk
  have hoff : ∀ s ∈ ss.set t { ss[t] with aa := a, an := n, ac := c }, Off b s ∧ Off g s := fun s hs => by
    rcases List.mem_or_eq_of_mem_set hs with hm | rfl
    · exact ⟨(h4 s hm).1, (h4 s hm).2 g hg⟩
    · have := h4 _ (List.getElem_mem hts)
      exact ⟨⟨this.1.1, hb⟩, ⟨(this.2 g hg).1, hag⟩⟩
  refine ⟨ss.set t { ss[t] with aa := a, an := n, ac := c }, ?_, by simp [h2], fun i hi hi' => ?_, fun s hs => ⟨(hoff s hs).1, fun g' hg' => ?_⟩, h5⟩
  · rw [List.length_set, ← flat5_setA ss t hts]
    exact ownsRow_set h1 hg _ _
  · have hel : ElAt w ((ss.set t { ss[t] with aa := a, an := n, ac := c })[i]) ((L.set t { L[t] with us := us })[i]) := by
      by_cases hit : t = i
      · subst hit
        rw [List.getElem_set_self, List.getElem_set_self]
        have := h3 t ht hts
        exact ⟨this.1, this.2.1, this.2.2.1, this.2.2.2.1, hr⟩
      · rw [List.getElem_set_ne hit, List.getElem_set_ne hit]
        exact h3 i (by simpa using hi) (by simpa using hi')
    have := (hoff _ (List.getElem_mem hi')).2
    exact hel.stay (P := fun k => k ≠ g) hsz hbl ⟨this.1, this.2⟩
  · have : g' = g := Option.some.inj (hg'.symm.trans hg)
    subst this
    exact (hoff s hs).2
theorem flat5_setP : ∀ (ss : List N5) (t : Nat) (h : t < ss.length) (q : Int), (ss.flatMap c5).set (t * 5 + 2) (.int .i64 q) = (ss.set t { ss[t] with par := q }).flatMap c5
  | s :: r, 0, _, q => by
    rw [List.flatMap_cons, List.set_cons_zero, List.flatMap_cons]
    rfl
  | s :: r, t + 1, h, q => by
    rw [List.flatMap_cons, List.set_cons_succ, List.flatMap_cons]
    have ih := flat5_setP r t (by simpa using h) q
    have e1 : (t + 1) * 5 + 2 = (c5 s).length + (t * 5 + 2) := by simp [c5]; omega
    rw [e1, List.set_append_right _ _ (by omega), Nat.add_sub_cancel_left, ih]
    rfl
/-- An element of a row of one's own gets another Parent. -/
theorem LOwn.parent {B b g : Nat} {w : World} {v : Value} {L : List El} (h : LOwn B w b v L) {t : Nat} (ht : t < L.length) (hg : v.ownBlock = some g) (q : Int) : LOwn B (w.setCell ⟨g, t * 5 + 2, none⟩ (.int .i64 q)) b v (L.set t { L[t] with par := q }) := by
  obtain ⟨ss, h1, h2, h3, h4, h5⟩ := h
  have hts : t < ss.length := by omega
  have hsz : w.heap.size ≤ (w.setCell ⟨g, t * 5 + 2, none⟩ (.int .i64 q)).heap.size := by simp
  have hbl : ∀ k, k < w.heap.size → k ≠ g → (w.setCell ⟨g, t * 5 + 2, none⟩ (.int .i64 q)).heap[k]? = w.heap[k]? := fun k _ hk => Below.heap_setCell w ⟨g, t * 5 + 2, none⟩ _ k hk
  have hoff : ∀ s ∈ ss.set t { ss[t] with par := q }, Off b s ∧ Off g s := fun s hs => by
    rcases List.mem_or_eq_of_mem_set hs with hm | rfl
    · exact ⟨(h4 s hm).1, (h4 s hm).2 g hg⟩
    · have := h4 _ (List.getElem_mem hts)
      exact ⟨this.1, this.2 g hg⟩
  refine ⟨ss.set t { ss[t] with par := q }, ?_, by simp [h2], fun i hi hi' => ?_, fun s hs => ⟨(hoff s hs).1, fun g' hg' => ?_⟩, h5⟩
  · rw [List.length_set, ← flat5_setP ss t hts]
    exact ownsRow_set h1 hg _ _
  · have hel : ElAt w ((ss.set t { ss[t] with par := q })[i]) ((L.set t { L[t] with par := q })[i]) := by
      by_cases hit : t = i
      · subst hit
        rw [List.getElem_set_self, List.getElem_set_self]
        have := h3 t ht hts
        exact ⟨this.1, this.2.1, rfl, this.2.2.2.1, this.2.2.2.2⟩
      · rw [List.getElem_set_ne hit, List.getElem_set_ne hit]
        exact h3 i (by simpa using hi) (by simpa using hi')
    have := (hoff _ (List.getElem_mem hi')).2
    exact hel.stay (P := fun k => k ≠ g) hsz hbl ⟨this.1, this.2⟩
  · have : g' = g := Option.some.inj (hg'.symm.trans hg)
    subst this
    exact (hoff s hs).2

end Go.Proofs.YtdiljkmlneeboaaGreat.N
namespace Go.Proofs.YtdiljkmlneeboaaGreat.N
open Go.RowKit
set_option maxRecDepth 100000

def delU (us : Us) (nm : ByteArray) : Us := us.filter fun p => !(p.1 == nm)
theorem delU_no {us : Us} {p : ByteArray × ByteArray} {nm : ByteArray} (h : (p.1 == nm) = true) : delU (us ++ [p]) nm = delU us nm := by
  unfold delU
  rw [List.filter_append, List.filter_cons, h]
  simp
theorem delU_yes {us : Us} {p : ByteArray × ByteArray} {nm : ByteArray} (h : (p.1 == nm) = false) : delU (us ++ [p]) nm = delU us nm ++ [p] := by
  unfold delU
  rw [List.filter_append, List.filter_cons, h]
  simp
theorem row_two {W : World} {g : Nat} {x y : ByteArray} {t : TypeId} (h : W.heap[g]? = some (.cells #[.string x, .string y] t (0, 0))) : RowAt W 2 (some ⟨g, 0, none⟩) 1 1 (attrsV [(x, y)]) := by
  refine ⟨rfl, Nat.le_refl _, by decide, attrsV_one _, .inr ⟨g, 0, rfl, (Array.getElem?_eq_some_iff.1 h).1, fun j u hu => ?_⟩⟩
  rw [Nat.zero_add]
  simp only [World.cell?, h]
  simpa [attrsV] using hu

theorem RowAt.low {w : World} {sz n c : Nat} {a : Option Addr} {xs : List Value} (h : RowAt w sz a n c xs) : ∀ x, a = some x → x.block < w.heap.size := fun x hx => by
  rcases h.2.2.2.2 with ⟨h0, _⟩ | ⟨b, off, e, hl, _⟩
  · rw [h0] at hx
    cases hx
  · rw [e] at hx
    cases hx
    exact hl
set_option maxHeartbeats 8000000 in
theorem rdrop_walk {w : World} {b : Nat} {L : List El} {m : M} {nx : Int} (h : RTree w (.pointer (some ⟨b, 0, none⟩)) L m nx) (hnx : nx ≤ 100000) (id : Int) (nm : ByteArray) {t : Nat} (ht : t < L.length) (hat : atZ L id = t) (hm : m id = some L[t]) (hv : (attrZ m id nm).isSome = true) : Calls Tryz.prog 68 #[.pointer (some ⟨b, 0, none⟩), .int .i64 id, .string nm] w fun x w' => ∃ b', x = .returned (.tuple #[.pointer (some ⟨b', 0, none⟩), .int .i64 0]) ∧ RDoc w' (.pointer (some ⟨b', 0, none⟩)) (L.set t { L[t] with us := delU L[t].us nm }) nx ∧ Below w.heap.size w w' := by
  have hlen := h.len
  have hnd := rt_node h id
  rw [hm] at hnd
  have HAR : Hid (∀ w', Below w.heap.size w w' → _) := fun w' hw' => rattr_any (h.keep hw') id nm
  have HCP : Hid (∀ w', Below w.heap.size w w' → _) := fun w' hw' => rcopy_any (h.keep hw') (by omega)
  have hul : L[t].us.length ≤ 1000 := (h.small _ (List.getElem_mem ht)).2
  have HAT := hid_mk hat
  have HV := hid_mk hv
  obtain ⟨el, hel⟩ : ∃ el, el = L[t] := ⟨_, rfl⟩
  rw [← hel] at hnd hul
  have HEL := hid_mk hel
  obtain ⟨i5, z5, hi0, hz0, hz1, hz2, hz3⟩ := info56r
  have HI0 := hid_mk hi0
  have HZ0 := hid_mk hz0
  have HZ1 := hid_mk hz1
  have HZ2 := hid_mk hz2
  have HZ3 := hid_mk hz3
  clear h hm hat hv hel hi0 hz0 hz1 hz2 hz3
  go_enter Tryz.func68, Tryz.ntmps68
  go_wp2_with (go_at_call 33; fail)
  refine hnd.mono ?_
  rintro x w2 ⟨s, rfl, hE0, _, hB2⟩
  have hE : ElAt w2 s el := hE0
  have han : s.an = el.us.length := hE.an
  obtain ⟨w3, hw3⟩ : ∃ w3, w3 = w2.alloc (.cells #[.int .i64 s.id, .string s.tag, .int .i64 s.par, .slice s.ka s.kn s.kc, .slice s.aa s.an s.ac] 76) := ⟨_, rfl⟩
  have hB23 : Below w2.heap.size w2 w3 := by rw [hw3]; exact (Below.refl _ _).alloc (Nat.le_refl _) _
  have HB3 : Hid (Below w.heap.size w w3) := hB2.trans (hB23.mono hB2.size)
  have hN3 : NodeAt w3 w2.heap.size s := by rw [hw3]; exact heap_alloc_last w2 _
  obtain ⟨id0, tag0, par0, ka, kn, kc, aa, an, ac⟩ := s
  dsimp only at *
  subst han
  obtain ⟨⟨_, _, _, _, n4⟩, _, _, _, _, _, hgl⟩ := hN3.cells
  dsimp only at n4
  have hR3 := (hE.keep hB23).2.2.2.2
  have hcap1 := hR3.2.1
  have hcap2 := hR3.2.2.1
  dsimp only at hcap1 hcap2
  unfold maxLen at hcap2
  have HAC : Hid (∀ W', Below w3.heap.size w3 W' → ∀ i (hi : i < el.us.length), ∃ ab ao, aa = some ⟨ab, ao, none⟩ ∧ W'.cell? ⟨ab, ao + i * 2, none⟩ = some (.string el.us[i].1) ∧ W'.cell? ⟨ab, ao + i * 2 + 1, none⟩ = some (.string el.us[i].2)) := fun W' hW' i hi => by
    rcases (hR3.keep hW').2.2.2.2 with ⟨_, h0⟩ | ⟨ab, ao, e1, l1, g1⟩
    · have h0' : ac = 0 := h0
      omega
    · obtain ⟨q1, q2⟩ := attrsV_at hi
      refine ⟨ab, ao, e1, g1 _ _ q1, ?_⟩
      have := g1 _ _ q2
      rwa [← Nat.add_assoc] at this
  have HN4 : Hid (∀ W, Below w3.heap.size w3 W → W.cell? ⟨w2.heap.size, 4, none⟩ = some (.slice aa el.us.length ac)) := fun W hW => (hW.cell (p := ⟨w2.heap.size, 4, none⟩) hgl).trans n4
  have HW3 := hid_mk hw3
  have har := HAR.out w3 HB3.out
  rw [HV.out] at har
  clear hnd hE hE0 hB2 hw3 hN3 hB23 hgl hR3 HAR HV
  go_upto_region 2 with (fail)
  rw [← HW3.out]
  go_wp2_with (go_at_call 34; refine har.mono ?_; clear har; rintro e w4 ⟨rfl, hB4⟩; have y4 := HN4.out w4 hB4; have HB34 := hid_mk hB4; clear hB4)
  have HB4 := hid_mk (HB3.out.trans (HB34.out.mono HB3.out.size))
  go_loopw [12, 40] (fun a12 a40 wq => ∃ i : Nat, i ≤ el.us.length ∧ a40 = .int .i64 (i : Int) ∧ Hid (wq.ownsRow w4.heap.size 128 2 a12 (delU (el.us.take i) nm).length (attrsV (delU (el.us.take i) nm))) ∧ Hid (Below w4.heap.size w4 wq)) (fun _ a40 _ => el.us.length + 1 - (intOf a40).toNat)
  case atStart => exact ⟨0, Nat.zero_le _, rfl, ⟨by simp [delU, attrsV], .inl ⟨rfl, by simp [delU]⟩⟩, hid_mk (Below.refl _ _)⟩
  case round =>
    clear y4 n4
    obtain ⟨i, hi, rfl, HO, HB⟩ := hrel
    have HB3r : Hid (Below w3.heap.size w3 wr) := HB34.out.trans (HB.out.mono HB34.out.size)
    by_cases hil : i < el.us.length
    · obtain ⟨ab, ao, rfl, q1, q2⟩ := HAC.out wr HB3r.out i hil
      have htake : el.us.take (i + 1) = el.us.take i ++ [el.us[i]] := by rw [List.take_add_one, List.getElem?_eq_getElem hil]; rfl
      obtain ⟨w5, hw5⟩ : ∃ w5, w5 = wr.alloc (.cells #[.string el.us[i].1, .string el.us[i].2] 128) := ⟨_, rfl⟩
      have hA5 : Below wr.heap.size wr w5 := by rw [hw5]; exact (Below.refl _ _).alloc (Nat.le_refl _) _
      have hb5 : w5.heap[wr.heap.size]? = some (.cells #[.string el.us[i].1, .string el.us[i].2] 128 (0, 0)) := by rw [hw5]; exact heap_alloc_last wr _
      have HB5 := hid_mk (HB.out.trans (hA5.mono HB.out.size))
      have k0 : w5.cell? ⟨wr.heap.size, 0, none⟩ = some (.string el.us[i].1) := by simp [World.cell?, hb5]
      have k1 : w5.cell? ⟨wr.heap.size, 1, none⟩ = some (.string el.us[i].2) := by simp [World.cell?, hb5]
      have hO5 := ownsRow_below HO.out hA5
      have HW5 := hid_mk hw5
      have hl5 : wr.heap.size < w5.heap.size := (Array.getElem?_eq_some_iff.1 hb5).1
      cases hq : (el.us[i].1 == nm) with
      | true =>
        have hq2 : (el.us[i].1.toList == nm.toList) = true := by rw [← beq_toListBytes]; exact hq
        have hq3 : (el.us[i].1 != nm) = false := by simp [bne, hq]
        have HO2 : Hid (w5.ownsRow w4.heap.size 128 2 u12 (delU (el.us.take (i + 1)) nm).length (attrsV (delU (el.us.take (i + 1)) nm))) := by rw [htake, delU_no hq]; exact hO5
        generalize el.us[i] = pr at *
        obtain ⟨x1, x2⟩ := pr
        clear HAC htake HO hO5 hA5 hb5 hw5
        go_upto_region 11 with (fail)
        rw [← HW5.out]
        go_wp2
        exact ⟨⟨i + 1, hil, by go_num, HO2, HB5⟩, by simp only [intOf]; omega⟩
      | false =>
        have hq2 : (el.us[i].1.toList == nm.toList) = false := by rw [← beq_toListBytes]; exact hq
        have hq3 : (el.us[i].1 != nm) = true := by simp [bne, hq]
        have HE : Hid (delU (el.us.take (i + 1)) nm = delU (el.us.take i) nm ++ [el.us[i]]) := by rw [Hid, htake, delU_yes hq]
        have hln : (delU (el.us.take i) nm).length ≤ 1000 := by
          have : (delU (el.us.take i) nm).length ≤ (el.us.take i).length := List.length_filter_le _ _
          rw [List.length_take] at this
          omega
        generalize el.us[i] = pr at *
        obtain ⟨x1, x2⟩ := pr
        dsimp only at *
        have hA6 : Below w5.heap.size w5 (w5.alloc (.cells #[.string x1, .string x2] 128)) := (Below.refl _ _).alloc (Nat.le_refl _) _
        have hown := ownsRow_below hO5 hA6
        have hrow : RowAt (w5.alloc (.cells #[.string x1, .string x2] 128)) 2 (some ⟨w5.heap.size, 0, none⟩) 1 1 (attrsV [(x1, x2)]) := row_two (heap_alloc_last w5 _)
        have hBs : w4.heap.size ≤ (w5.alloc (.cells #[.string x1, .string x2] 128)).heap.size := Nat.le_trans HB5.out.size hA6.size
        have HBA := hid_mk (HB5.out.trans (hA6.mono HB5.out.size))
        have hi0 := HI0.out
        have hz0 := HZ0.out
        have hz1 := HZ1.out
        have hz2 := HZ2.out
        have hz3 := HZ3.out
        clear HAC htake HO hO5 hA5 hb5 hw5 hA6
        go_upto_region 11 with (fail)
        rw [← HW5.out]
        go_wp2_with (at_builtin; go_must (refine wpList_append_rowAt rfl _ _ 74 rfl (B := w4.heap.size) Tryz.underlying74 hi0 hz0 hz1 hz2 hz3 (by decide) (by decide) rfl rfl hown hrow (by omega) hBs ?_); intro v' w6 hown6 hgrow6 _; have HO6 := hid_mk hown6; have HB6 : Hid (Below w4.heap.size w4 w6) := HBA.out.grown hgrow6 HBA.out.size (fun k hk => (hown.lt k hk).1); clear hown6 hgrow6)
        have HO7 : Hid (w6.ownsRow w4.heap.size 128 2 v' (delU (el.us.take (i + 1)) nm).length (attrsV (delU (el.us.take (i + 1)) nm))) := by
          rw [HE.out, List.length_append, attrsV_app]
          exact HO6
        exact ⟨⟨i + 1, hil, by go_num, HO7, HB6⟩, by simp only [intOf]; omega⟩
    · obtain rfl : i = el.us.length := by omega
      have hO := HO.out
      rw [List.take_length] at hO
      obtain ⟨a9, c9, rfl, hr9, hn9⟩ := RowAt.of_owns hO (attrsV_one _)
      have HB0 := hid_mk (HB4.out.trans (HB.out.mono HB4.out.size))
      have hcp := HCP.out wr HB0.out
      have HR9 := hid_mk hr9
      clear HAC hO HO hr9 hn9 HCP HN4 hcap1 hcap2 hi
      go_upto_region 15 with (go_at_call 104; refine hcp.mono ?_; clear hcp; rintro e w6 ⟨bx, rfl, hO6, hB6⟩; have HO6 := hid_mk hO6; have HB6 := hid_mk hB6; clear hO6 hB6)
      have HD6 := hid_mk HO6.out.doc
      obtain ⟨hbx, v, hd6, hLO⟩ := HO6.out
      obtain ⟨va, vc, rfl, hls⟩ := hLO.ls
      obtain ⟨s1, ab, ao, e1, hgl, _, _, _, _, _, r4⟩ := hls.at ht
      subst e1
      obtain ⟨ss, h1, _, _, _, hob⟩ := hLO
      obtain ⟨rfl, hb4, cur, hcur⟩ : ao = 0 ∧ wr.heap.size ≤ ab ∧ ∃ cur, w6.heap[ab]? = some (.cells cur 128 (0, 0)) ∨ w6.heap[ab]? = some (.cells cur 76 (0, 0)) := by
        rcases h1.2 with ⟨e, _⟩ | ⟨g, cap, cur, e, hge, hg, _⟩
        · cases e
        · cases e
          exact ⟨rfl, hge, cur, .inr hg⟩
      have hLO2 := HO6.out.2
      rw [Nat.zero_add] at r4
      have hcap := hls.cap
      have hdl : bx < w6.heap.size := (Array.getElem?_eq_some_iff.1 hd6).1
      have hne1 : bx ≠ ab := fun e => hob (by rw [e]; rfl)
      have HF : Hid (∀ W, Below w6.heap.size w6 W → W.cell? ⟨bx, 0, none⟩ = some (.slice (some ⟨ab, 0, none⟩) L.length vc)) := fun W hW => by
        have h7 := (hW.block _ hdl).trans hd6
        simp [World.cell?, h7]
      have HFS : Hid (∀ W u, Below w6.heap.size w6 W → (W.setCell ⟨ab, t * 5 + 4, none⟩ u).cell? ⟨bx, 0, none⟩ = some (.slice (some ⟨ab, 0, none⟩) L.length vc)) := fun W u hW => (World.cell?_of_block (a := ⟨bx, 0, none⟩) (Below.heap_setCell W ⟨ab, t * 5 + 4, none⟩ u bx hne1)).trans (HF.out W hW)
      have HRW : Hid (∀ W, Below w6.heap.size w6 W → W.cell? ⟨ab, t * 5 + 4, none⟩ = some (.slice s1.aa s1.an s1.ac) ∧ W.frozen? ⟨ab, t * 5 + 4, none⟩ = false) := fun W hW => ⟨(hW.cell (p := ⟨ab, t * 5 + 4, none⟩) hgl).trans r4, by rcases hcur with hc | hc <;> simp [World.frozen?, (hW.block _ hgl).trans hc]⟩
      have HFIN : Hid (∀ W, Below w6.heap.size w6 W → Hid (ROwn wr.heap.size (W.setCell ⟨ab, t * 5 + 4, none⟩ (.slice a9 (delU el.us nm).length c9)) bx (L.set t { el with us := delU el.us nm }) nx) ∧ Hid (Below wr.heap.size wr (W.setCell ⟨ab, t * 5 + 4, none⟩ (.slice a9 (delU el.us nm).length c9)))) := fun W hW => by
        obtain ⟨v2, hd2, hLO3⟩ := hLO2
        have ev : v2 = .slice (some ⟨ab, 0, none⟩) L.length vc := by
          rw [hd6] at hd2
          injection hd2 with hd2
          injection hd2 with hd2
          have := congrArg (fun c : Array Value => c[0]?) hd2
          simpa using this.symm
        subst ev
        have hlow := HR9.out.low
        have hk := (hLO3.keep hW).attrs ht (g := ab) rfl (HR9.out.keep (HB6.out.trans (hW.mono HB6.out.size))) (fun x hx e => by have := hlow x hx; omega) (fun x hx e => by have := hlow x hx; omega)
        rw [← HEL.out] at hk
        exact ⟨⟨hbx, _, (Below.heap_setCell W ⟨ab, t * 5 + 4, none⟩ _ bx hne1).trans ((hW.block _ hdl).trans hd6), hk⟩, (HB6.out.trans (hW.mono HB6.out.size)).setCell (p := ⟨ab, t * 5 + 4, none⟩) hb4 _⟩
      have HATC : Hid (∀ W, Below w6.heap.size w6 W → Calls Tryz.prog 74 #[.pointer (some ⟨bx, 0, none⟩), .int .i64 id] W fun x w' => x = .returned (.int .i64 (t : Int)) ∧ (w'.cell? ⟨ab, t * 5 + 4, none⟩ = some (.slice s1.aa s1.an s1.ac) ∧ w'.frozen? ⟨ab, t * 5 + 4, none⟩ = false) ∧ Below w6.heap.size w6 w') := fun W hW => by
        have := rat_any (HD6.out.keep hW) id
        rw [HAT.out] at this
        refine this.mono ?_
        rintro x w' ⟨rfl, hB⟩
        have hb := hW.trans (hB.mono hW.size)
        exact ⟨rfl, HRW.out _ hb, hb⟩
      have HB0W := hid_mk HB0.out
      clear hls r4 h1 hcur hbx hdl hgl hd6 hob hb4 hne1 hLO2 HO6 HB6 HD6
      have gd : Below w6.heap.size w6 w6.drew := (Below.refl _ _).drew
      go_region_held3 (fun w' => w'.cell? ⟨bx, 0, none⟩ = some (.slice (some ⟨ab, 0, none⟩) L.length vc))
        (first | with_reducible exact HF.out _ gd | with_reducible exact HF.out _ ga | with_reducible exact HFS.out _ _ ga)
        (first
          | (go_at_call 74; with_reducible refine (HATC.out _ gd).mono ?_; rintro e wa ⟨rfl, ⟨i1, i2⟩, ga⟩))
      all_goals
        obtain ⟨HOE, HBE⟩ := HFIN.out _ ga
        have HDE := hid_mk HOE.out.doc
        have heq : L.set t { el with us := delU el.us nm } = L.set t { L[t] with us := delU L[t].us nm } := by rw [HEL.out]
        rw [heq] at HDE
        clear heq
        go_wp2
        go_ret2
        exact ⟨bx, rfl, HDE.out, HB0W.out.trans (HBE.out.mono HB0W.out.size)⟩

end Go.Proofs.YtdiljkmlneeboaaGreat.N
namespace Go.Proofs.YtdiljkmlneeboaaGreat.N
open Go.RowKit
set_option maxRecDepth 100000

theorem delU_drop {us : Us} (nm : ByteArray) (h : Srt us) : delU us nm = dropU us nm := by
  have hs := srt_split nm h
  have h1 : delU (loA us nm) nm = loA us nm := by
    unfold delU
    refine List.filter_eq_self.2 fun p hp => ?_
    have hp2 : cmpB p.1 nm < 0 := by simpa [loA] using (List.mem_filter.1 hp).2
    rw [← cmp_eq, Bool.not_eq_true', decide_eq_false_iff_not]
    omega
  have h2 : delU (hiA us nm) nm = hiA us nm := by
    unfold delU
    refine List.filter_eq_self.2 fun p hp => ?_
    have hp2 : 0 < cmpB p.1 nm := by simpa [hiA] using (List.mem_filter.1 hp).2
    rw [← cmp_eq, Bool.not_eq_true', decide_eq_false_iff_not]
    omega
  have h3 : delU (midA us nm) nm = [] := by
    unfold midA
    cases valA us nm with
    | none => rfl
    | some v =>
      have : (nm == nm) = true := by rw [beq_toListBytes]; simp
      simp [delU, this]
  have happ : ∀ a b : Us, delU (a ++ b) nm = delU a nm ++ delU b nm := fun a b => by simp [delU]
  rw [dropU]
  conv => lhs; rw [hs]
  rw [happ, happ, h1, h2, h3, List.append_nil]
theorem rdrop_ok {w : World} {b : Nat} {L : List El} {m : M} {nx : Int} (h : RTree w (.pointer (some ⟨b, 0, none⟩)) L m nx) (id : Int) (nm : ByteArray) (he : drpErr m id nm = 0) : Calls Tryz.prog 68 #[.pointer (some ⟨b, 0, none⟩), .int .i64 id, .string nm] w fun x w' => ∃ (b' : Nat) (L' : List El), x = .returned (.tuple #[.pointer (some ⟨b', 0, none⟩), .int .i64 0]) ∧ RTree w' (.pointer (some ⟨b', 0, none⟩)) L' (datM m id nm) nx ∧ Below w.heap.size w w' := by
  obtain ⟨e, hm, hv⟩ := ok_drpErr he
  rcases at_cases L id with ⟨_, e2⟩ | ⟨t, ht, e1, e2⟩
  · rw [h.2.1, hm] at e2
    cases e2
  · have e3 : e = L[t] := by
      rw [h.2.1, hm] at e2
      exact Option.some.inj e2
    subst e3
    have hh := h
    obtain ⟨_, hf, hnd, d, I⟩ := hh
    refine (rdrop_walk h I.nxb.2 id nm ht e1 hm (by unfold attrZ; rw [hm]; exact hv)).mono ?_
    rintro x w' ⟨b', rfl, hD, hB⟩
    have hid : L[t].id = id := I.id hm
    have hus := I.us hm
    refine ⟨b', _, rfl, ⟨hD, fun n => ?_, ?_, ?_⟩, hB⟩
    · rw [findL_set ht (e' := { L[t] with us := delU L[t].us nm }) hnd rfl, hid, hf, delU_drop nm hus.srt]
      unfold datM
      rw [hm]
      rfl
    · rw [ids_set ht (e' := { L[t] with us := delU L[t].us nm }) rfl]
      exact hnd
    · unfold datM
      rw [hm]
      exact ⟨d, I.attrs hm (uOk_drop nm hus)⟩
set_option maxHeartbeats 2000000 in
theorem rdrop_err {w : World} {b : Nat} {L : List El} {m : M} {nx : Int} (h : RTree w (.pointer (some ⟨b, 0, none⟩)) L m nx) (id : Int) (nm : ByteArray) (he : drpErr m id nm ≠ 0) : Calls Tryz.prog 68 #[.pointer (some ⟨b, 0, none⟩), .int .i64 id, .string nm] w fun x w' => x = .returned (.tuple #[.pointer (some ⟨b, 0, none⟩), .int .i64 (drpErr m id nm)]) ∧ Below w.heap.size w w' := by
  have hnd := rt_node h id
  have HAR : Hid (∀ w', Below w.heap.size w w' → _) := fun w' hw' => rattr_any (h.keep hw') id nm
  obtain ⟨bo, er, hbo, hsb, HE⟩ : ∃ (bo : Bool) (er : Int), (m id).isSome = bo ∧ (bo = true → (attrZ m id nm).isSome = false) ∧ Hid (drpErr m id nm = if bo then 7 else 1) ∧ er = 0 := by
    cases hm : m id with
    | none => exact ⟨false, 0, by simp, by simp, by rw [Hid, drpErr, hm]; rfl, rfl⟩
    | some e =>
      have hv : (valA e.us nm).isSome = false := by
        cases hv : (valA e.us nm).isSome with
        | false => rfl
        | true => exact absurd (by rw [drpErr, hm]; simp [hv]) he
      exact ⟨true, 0, by simp, fun _ => by unfold attrZ; rw [hm]; exact hv, by rw [Hid, drpErr, hm]; simp [hv], rfl⟩
  obtain ⟨HE, _⟩ := HE
  rw [hbo] at hnd
  clear h he hbo
  go_enter Tryz.func68, Tryz.ntmps68
  go_wp2_with (go_at_call 33; fail)
  refine hnd.mono ?_
  rintro x w2 ⟨s, rfl, _, _, hB2⟩
  obtain ⟨w3, hw3⟩ : ∃ w3, w3 = w2.alloc (.cells #[.int .i64 s.id, .string s.tag, .int .i64 s.par, .slice s.ka s.kn s.kc, .slice s.aa s.an s.ac] 76) := ⟨_, rfl⟩
  have HB3 : Hid (Below w.heap.size w w3) := by rw [hw3]; exact hB2.alloc hB2.size _
  have HW3 := hid_mk hw3
  have har := HAR.out w3 HB3.out
  clear hnd hB2 hw3 HAR
  go_upto_region 2 with (fail)
  rw [← HW3.out]
  cases bo with
  | false =>
    generalize (attrZ m id nm).isSome = q at *
    generalize (attrZ m id nm).getD ⟨#[]⟩ = q2 at *
    go_wp2_with (go_at_call 34; refine har.mono ?_; clear har; rintro e w4 ⟨rfl, hB4⟩)
    go_ret2
    exact ⟨ret2e HE.out, HB3.out.trans (hB4.mono HB3.out.size)⟩
  | true =>
    rw [hsb rfl] at har
    generalize (attrZ m id nm).getD ⟨#[]⟩ = q2 at *
    clear hsb
    go_wp2_with (go_at_call 34; refine har.mono ?_; clear har; rintro e w4 ⟨rfl, hB4⟩)
    go_ret2
    exact ⟨ret2e HE.out, HB3.out.trans (hB4.mono HB3.out.size)⟩

end Go.Proofs.YtdiljkmlneeboaaGreat.N
namespace Go.Proofs.YtdiljkmlneeboaaGreat.N
open Go.RowKit
set_option maxRecDepth 100000

set_option maxHeartbeats 4000000 in
theorem rset_err {w : World} {b : Nat} {L : List El} {m : M} {nx : Int} (h : RTree w (.pointer (some ⟨b, 0, none⟩)) L m nx) (id : Int) (nm v : ByteArray) (hs : nm.size ≤ 281474976710656) (hsv : v.size ≤ 281474976710656) (he : setErr m id nm v ≠ 0) : Calls Tryz.prog 67 #[.pointer (some ⟨b, 0, none⟩), .int .i64 id, .string nm, .string v] w fun x w' => x = .returned (.tuple #[.pointer (some ⟨b, 0, none⟩), .int .i64 (setErr m id nm v)]) ∧ Below w.heap.size w w' := by
  have hnd := rt_node h id
  have HAR : Hid (∀ w', Below w.heap.size w w' → _) := fun w' hw' => rattr_any (h.keep hw') id nm
  have HNM : Hid (∀ w', _) := fun w' => refName_any nm w' hs
  have HUL : Hid (∀ e, m id = some e → e.us.length ≤ 16) := fun e hm => by
    obtain ⟨_, _, _, d, I⟩ := h
    exact (I.us hm).1
  clear h
  cases hm : m id with
  | none =>
    rw [hm] at hnd
    have HE : Hid (setErr m id nm v = 1) := by rw [Hid, setErr, hm]
    clear hm he HNM HUL
    go_enter Tryz.func67, Tryz.ntmps67
    go_wp2_with (go_at_call 33; fail)
    refine hnd.mono ?_
    rintro x w2 ⟨s, rfl, _, _, hB2⟩
    obtain ⟨w3, hw3⟩ : ∃ w3, w3 = w2.alloc (.cells #[.int .i64 s.id, .string s.tag, .int .i64 s.par, .slice s.ka s.kn s.kc, .slice s.aa s.an s.ac] 76) := ⟨_, rfl⟩
    have HB3 : Hid (Below w.heap.size w w3) := by rw [hw3]; exact hB2.alloc hB2.size _
    have HW3 := hid_mk hw3
    have har := HAR.out w3 HB3.out
    clear hnd hB2 hw3 HAR
    go_upto_region 2 with (fail)
    rw [← HW3.out]
    generalize (attrZ m id nm).isSome = q at *
    generalize (attrZ m id nm).getD ⟨#[]⟩ = q2 at *
    go_wp2_with (go_at_call 34; refine har.mono ?_; clear har; rintro e w4 ⟨rfl, hB4⟩)
    go_ret2
    exact ⟨ret2e HE.out, HB3.out.trans (hB4.mono HB3.out.size)⟩
  | some el =>
    rw [hm] at hnd
    have hul := HUL.out el hm
    have hav : attrZ m id nm = valA el.us nm := by unfold attrZ; rw [hm]
    have HE : Hid (setErr m id nm v = if nameZ nm = false then 7 else if 1000 < v.size then 11 else if (valA el.us nm).isSome = false ∧ 16 ≤ el.us.length then 5 else 0) := by rw [Hid, setErr, hm]
    clear hm HUL
    go_enter Tryz.func67, Tryz.ntmps67
    go_wp2_with (go_at_call 33; fail)
    refine hnd.mono ?_
    rintro x w2 ⟨s, rfl, hE0, _, hB2⟩
    have han : s.an = el.us.length := ElAt.an (e := el) hE0
    obtain ⟨w3, hw3⟩ : ∃ w3, w3 = w2.alloc (.cells #[.int .i64 s.id, .string s.tag, .int .i64 s.par, .slice s.ka s.kn s.kc, .slice s.aa s.an s.ac] 76) := ⟨_, rfl⟩
    have HB3 : Hid (Below w.heap.size w w3) := by rw [hw3]; exact hB2.alloc hB2.size _
    have hN3 : NodeAt w3 w2.heap.size s := by rw [hw3]; exact heap_alloc_last w2 _
    obtain ⟨⟨_, _, _, _, n4⟩, _, _, _, _, _, hgl⟩ := hN3.cells
    rw [han] at n4
    have HN4 : Hid (∀ W, Below w3.heap.size w3 W → W.cell? ⟨w2.heap.size, 4, none⟩ = some (.slice s.aa el.us.length s.ac)) := fun W hW => (hW.cell (p := ⟨w2.heap.size, 4, none⟩) hgl).trans n4
    have HW3 := hid_mk hw3
    have har := HAR.out w3 HB3.out
    rw [hav] at har
    clear hnd hE0 hB2 hw3 hN3 han hgl n4 HAR hav
    go_upto_region 2 with (fail)
    rw [← HW3.out]
    generalize hq : (valA el.us nm).isSome = q at *
    generalize (valA el.us nm).getD ⟨#[]⟩ = q2 at *
    clear hq
    by_cases h1 : nameZ nm = false
    · have HE2 : Hid (setErr m id nm v = 7) := by rw [Hid, HE.out, if_pos h1]
      clear he HE
      go_wp2_with (first
        | (go_at_call 34; refine har.mono ?_; clear har; rintro e w4 ⟨rfl, hB4⟩; have hnm := HNM.out w4; rw [h1] at hnm)
        | (go_at_call 102; refine hnm.mono ?_; clear hnm; rintro e w5 ⟨rfl, rfl⟩))
      go_ret2
      exact ⟨ret2e HE2.out, HB3.out.trans (hB4.mono HB3.out.size)⟩
    · have h1' : nameZ nm = true := by simpa using h1
      by_cases h2 : 1000 < v.size
      · have HE2 : Hid (setErr m id nm v = 11) := by rw [Hid, HE.out, if_neg h1, if_pos h2]
        clear he HE h1
        go_wp2_with (first
          | (go_at_call 34; refine har.mono ?_; clear har; rintro e w4 ⟨rfl, hB4⟩; have hnm := HNM.out w4; rw [h1'] at hnm)
          | (go_at_call 102; refine hnm.mono ?_; clear hnm; rintro e w5 ⟨rfl, rfl⟩))
        go_ret2
        exact ⟨ret2e HE2.out, HB3.out.trans (hB4.mono HB3.out.size)⟩
      · by_cases h3 : q = false ∧ 16 ≤ el.us.length
        · have HE2 : Hid (setErr m id nm v = 5) := by rw [Hid, HE.out, if_neg h1, if_neg h2, if_pos h3]
          obtain ⟨rfl, h4⟩ := h3
          have h5 : (16 : Int) ≤ (el.us.length : Int) := by omega
          clear he HE h1
          go_wp2_with (first
            | (go_at_call 34; refine har.mono ?_; clear har; rintro e w4 ⟨rfl, hB4⟩; have hnm := HNM.out w4; rw [h1'] at hnm; have y4 := HN4.out w4 hB4)
            | (go_at_call 102; refine hnm.mono ?_; clear hnm; rintro e w5 ⟨rfl, rfl⟩))
          go_ret2
          exact ⟨ret2e HE2.out, HB3.out.trans (hB4.mono HB3.out.size)⟩
        · exact absurd (by rw [HE.out, if_neg h1, if_neg h2, if_neg h3]) he

end Go.Proofs.YtdiljkmlneeboaaGreat.N
namespace Go.Proofs.YtdiljkmlneeboaaGreat.N
open Go.RowKit
set_option maxRecDepth 100000

def geB (a nm : ByteArray) : Bool := !(Op.bytesLess a.toList nm.toList)
/-- What the loop has after an attribute. -/
def put1 (nm v : ByteArray) (st : Us × Bool) (a : ByteArray × ByteArray) : Us × Bool := if geB a.1 nm && !st.2 then (st.1 ++ [(nm, v)], true) else st
def put2 (nm : ByteArray) (st : Us × Bool) (a : ByteArray × ByteArray) : Us × Bool := if (a.1 == nm) then st else (st.1 ++ [a], st.2)
def accU (nm v : ByteArray) (us : Us) : Us × Bool := us.foldl (fun st a => put2 nm (put1 nm v st a) a) ([], false)
theorem accU_app (nm v : ByteArray) (us : Us) (a : ByteArray × ByteArray) : accU nm v (us ++ [a]) = put2 nm (put1 nm v (accU nm v us) a) a := by simp [accU]
theorem put1_len (nm v : ByteArray) (st : Us × Bool) (a : ByteArray × ByteArray) : (put1 nm v st a).1.length ≤ st.1.length + 1 := by
  unfold put1
  split <;> simp
theorem put2_len (nm : ByteArray) (st : Us × Bool) (a : ByteArray × ByteArray) : (put2 nm st a).1.length ≤ st.1.length + 1 := by
  unfold put2
  split <;> simp
theorem foldU_len (nm v : ByteArray) : ∀ (us : Us) (st : Us × Bool), (us.foldl (fun st a => put2 nm (put1 nm v st a) a) st).1.length ≤ st.1.length + 2 * us.length
  | [], st => by simp
  | a :: r, st => by
    rw [List.foldl_cons]
    have h0 := foldU_len nm v r (put2 nm (put1 nm v st a) a)
    have h1 := put2_len nm (put1 nm v st a) a
    have h2 := put1_len nm v st a
    rw [List.length_cons]
    omega
theorem accU_len (nm v : ByteArray) (us : Us) : (accU nm v us).1.length ≤ 2 * us.length := by
  have := foldU_len nm v us ([], false)
  simpa [accU] using this
def allU (nm v : ByteArray) (us : Us) : Us := if (accU nm v us).2 then (accU nm v us).1 else (accU nm v us).1 ++ [(nm, v)]

end Go.Proofs.YtdiljkmlneeboaaGreat.N
