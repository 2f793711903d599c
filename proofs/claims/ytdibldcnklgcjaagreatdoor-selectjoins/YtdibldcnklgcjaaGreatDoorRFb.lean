/- selector.Same of one and the same selectors without Lists: compounds, complexes. selector.Same of one and the same selectors without Lists: lists. selector.Same of one and the same selectors without Lists. Selectors without Lists in memory. append([]Complex{}, l...), and m... behind it: selectors without Lists, one row behind the other. How great the values of a text are. -/
import Derived.Test.YtdibldcnklgcjaaGreatDoorJSm
import Derived.Test.YtdibldcnklgcjaaGreatDoorLPw
import Derived.Maps.AppendAt
import Derived.Test.YtdibldcnklgcjaaGreatDoorLTx
namespace Go.Proofs.YtdibldcnklgcjaaGreatDoor.L
open Go.RowKit
set_option maxRecDepth 100000

theorem PtF.slice {w : World} {v : Value} {p : List (S6 × List Cx)} (h : PtF w v p) : ∃ a n c, v = .slice a n c := by
  obtain ⟨_, _, ⟨a, c, e, _⟩, _⟩ := h
  exact ⟨a, _, c, e⟩
theorem compounds_yes {w : World} {v1 v2 : Value} {p : List (S6 × List Cx)} (h1 : PtF w v1 p) (h2 : PtF w v2 p) (q : Option Addr) :
    Calls Tryz.prog 66 #[.pointer q, v1, v2] w fun e w' => e = .returned (.bool true) ∧ Below w.heap.size w w' := by
  have h := eqs_yes h1 h2 q
  obtain ⟨a1, n1, c1, rfl⟩ := h1.slice
  obtain ⟨a2, n2, c2, rfl⟩ := h2.slice
  clear h1 h2
  go_enter Tryz.func66, Tryz.ntmps66
  go_wp2_with (go_at_call 89; fail)
  refine h.mono ?_
  rintro e w1 ⟨rfl, hb⟩
  clear h
  go_wp2
  go_ret
  exact ⟨rfl, hb⟩
theorem IsAt.keep {W w : World} {v : Value} {ks : List Int} (h : IsAt W v ks) (hb : Below W.heap.size W w) : IsAt w v ks := by
  obtain ⟨b, off, h1, h2⟩ := h
  exact ⟨b, off, h1.keep hb, fun t ht => (h1.cell hb (by omega) _).trans (h2 t ht)⟩
/-- Compound selectors without Lists in a slice. -/
def PsF (w : World) (v : Value) (ps : List (List (S6 × List Cx))) : Prop := ∃ b off, Sl w v ps.length b off ∧ ∃ qv : Nat → Value, ∀ j (h : j < ps.length), w.cell? ⟨b, off + j, none⟩ = some (qv j) ∧ PtF w (qv j) (ps[j]'h)
theorem PsF.keep {W w : World} {v : Value} {ps : List (List (S6 × List Cx))} (h : PsF W v ps) (hb : Below W.heap.size W w) : PsF w v ps := by
  obtain ⟨b, off, h1, qv, h2⟩ := h
  exact ⟨b, off, h1.keep hb, qv, fun j hj => ⟨(h1.cell hb (by omega) _).trans (h2 j hj).1, (h2 j hj).2.keep hb⟩⟩
set_option maxHeartbeats 2000000 in
theorem eqp_yes {w : World} {v1 v2 : Value} {ps : List (List (S6 × List Cx))} (h1 : PsF w v1 ps) (h2 : PsF w v2 ps) (q : Option Addr) :
    Calls Tryz.prog 65 #[v1, v2, .func (.func 66) #[.pointer q] #[]] w fun e w' => e = .returned (.bool true) ∧ Below w.heap.size w w' := by
  have k1 := fun (w' : World) (hb : Below w.heap.size w w') => h1.keep hb
  obtain ⟨b1, o1, ⟨a1, c1, rfl, hb1, hm1, ha1⟩, l1, g1⟩ := h1
  obtain ⟨b2, o2, ⟨a2, c2, rfl, hb2, hm2, ha2⟩, l2, g2⟩ := h2
  have HC : Hid (∀ w', Below w.heap.size w w' → ∀ t (ht : t < ps.length), a1 = some ⟨b1, o1, none⟩ ∧ a2 = some ⟨b2, o2, none⟩ ∧ ∃ x1 m1 d1 x2 m2 d2, w'.cell? ⟨b1, o1 + t, none⟩ = some (.slice x1 m1 d1) ∧ w'.cell? ⟨b2, o2 + t, none⟩ = some (.slice x2 m2 d2) ∧ Calls Tryz.prog 66 #[.pointer q, .slice x1 m1 d1, .slice x2 m2 d2] w' fun e w'' => e = .returned (.bool true) ∧ Below w'.heap.size w' w'') := fun w' hw' t ht => by
    obtain ⟨e1, m1⟩ := ha1 (by omega)
    obtain ⟨e2, m2⟩ := ha2 (by omega)
    have hc := compounds_yes ((g1 t ht).2.keep hw') ((g2 t ht).2.keep hw') q
    have y1 := (hw'.cell (p := ⟨b1, o1 + t, none⟩) m1).trans (g1 t ht).1
    have y2 := (hw'.cell (p := ⟨b2, o2 + t, none⟩) m2).trans (g2 t ht).1
    obtain ⟨x1, n1, d1, f1⟩ := (g1 t ht).2.slice
    obtain ⟨x2, n2, d2, f2⟩ := (g2 t ht).2.slice
    rw [f1] at y1 hc
    rw [f2] at y2 hc
    exact ⟨e1, e2, x1, n1, d1, x2, n2, d2, y1, y2, hc⟩
  have hln : ps.length ≤ 9223372036854775807 := by omega
  clear ha1 ha2 g1 g2 k1
  go_enter Tryz.func65, Tryz.ntmps65
  go_wp2
  go_loopw [17] (fun a17 wq => ∃ t : Nat, t ≤ ps.length ∧ a17 = .int .i64 (t : Int) ∧ Hid (Below w.heap.size w wq)) (fun a17 _ => ps.length + 1 - (intOf a17).toNat)
  case atStart => exact ⟨0, Nat.zero_le _, rfl, hid_mk (Below.refl _ _)⟩
  case round =>
    obtain ⟨t, ht, rfl, HB⟩ := hrel
    by_cases htl : t < ps.length
    · obtain ⟨rfl, rfl, x1, m1, d1, x2, m2, d2, y1, y2, hc⟩ := HC.out wr HB.out t htl
      clear HC
      go_wp2_with (go_at_call 66; fail)
      refine hc.mono ?_
      rintro e w1 ⟨rfl, hb⟩
      have HB1 := hid_mk (HB.out.trans (hb.mono HB.out.size))
      clear hc hb y1 y2
      go_wp2
      exact ⟨⟨t + 1, htl, by go_num, HB1⟩, by simp only [intOf]; omega⟩
    · clear HC
      go_wp2
      go_ret
      exact ⟨rfl, HB.out⟩
set_option maxHeartbeats 1000000 in
theorem complexes_yes {w : World} {p1 p2 k1 k2 : Value} {ps : List (List (S6 × List Cx))} {ks : List Int} (h1 : PsF w p1 ps) (h2 : PsF w p2 ps) (i1 : IsAt w k1 ks) (i2 : IsAt w k2 ks) (q : Option Addr) :
    Calls Tryz.prog 32 #[.pointer q, .agg #[p1, k1], .agg #[p2, k2]] w fun e w' => e = .returned (.bool true) ∧ Below w.heap.size w w' := by
  have H1 : Hid (∀ w', Below w.heap.size w w' → Calls Tryz.prog 65 #[p1, p2, .func (.func 66) #[.pointer q] #[]] w' fun e w'' => e = .returned (.bool true) ∧ Below w'.heap.size w' w'') := fun w' hb => eqp_yes (h1.keep hb) (h2.keep hb) q
  have H2 : Hid (∀ w', Below w.heap.size w w' → Calls Tryz.prog 64 #[k1, k2] w' fun e w'' => e = .returned (.bool true) ∧ Below w'.heap.size w' w'') := fun w' hb => ints_yes (i1.keep hb) (i2.keep hb)
  obtain ⟨a1, c1, rfl⟩ : ∃ a c, p1 = .slice a ps.length c := by obtain ⟨b, o, ⟨a, c, e, _⟩, _⟩ := h1; exact ⟨a, c, e⟩
  obtain ⟨a2, c2, rfl⟩ : ∃ a c, p2 = .slice a ps.length c := by obtain ⟨b, o, ⟨a, c, e, _⟩, _⟩ := h2; exact ⟨a, c, e⟩
  obtain ⟨a3, c3, rfl⟩ : ∃ a c, k1 = .slice a ks.length c := by obtain ⟨b, o, ⟨a, c, e, _⟩, _⟩ := i1; exact ⟨a, c, e⟩
  obtain ⟨a4, c4, rfl⟩ : ∃ a c, k2 = .slice a ks.length c := by obtain ⟨b, o, ⟨a, c, e, _⟩, _⟩ := i2; exact ⟨a, c, e⟩
  clear h1 h2 i1 i2
  generalize ps.length = n at *
  generalize ks.length = m at *
  obtain ⟨w1, hw1⟩ : ∃ w1, w1 = w.alloc (.cells #[.slice a1 n c1, .slice a3 m c3] 38) := ⟨_, rfl⟩
  obtain ⟨w2, hw2⟩ : ∃ w2, w2 = w1.alloc (.cells #[.slice a2 n c2, .slice a4 m c4] 38) := ⟨_, rfl⟩
  have hB1 : Below w.heap.size w w1 := by rw [hw1]; exact (Below.refl _ _).alloc (Nat.le_refl _) _
  have hB2 : Below w1.heap.size w1 w2 := by rw [hw2]; exact (Below.refl _ _).alloc (Nat.le_refl _) _
  have hx1 : w1.heap[w.heap.size]? = some (.cells #[.slice a1 n c1, .slice a3 m c3] 38 (0, 0)) := by rw [hw1]; exact heap_alloc_last w _
  have hl1 : w.heap.size < w1.heap.size := (Array.getElem?_eq_some_iff.1 hx1).1
  have hs1 : w1.heap.size = w.heap.size + 1 := by rw [hw1]; simp
  have hx2 : w2.heap[w.heap.size + 1]? = some (.cells #[.slice a2 n c2, .slice a4 m c4] 38 (0, 0)) := by rw [hw2, ← hs1]; exact heap_alloc_last w1 _
  have hx1' : w2.heap[w.heap.size]? = some (.cells #[.slice a1 n c1, .slice a3 m c3] 38 (0, 0)) := (hB2.block _ hl1).trans hx1
  have hB : Below w.heap.size w w2 := hB1.trans (hB2.mono hB1.size)
  have HX : Hid (∀ w', Below w2.heap.size w2 w' → w'.cell? ⟨w.heap.size, 0, none⟩ = some (.slice a1 n c1) ∧ w'.cell? ⟨w.heap.size + 1, 0, none⟩ = some (.slice a2 n c2)) := fun w' hb => by
    have l1 := (Array.getElem?_eq_some_iff.1 hx1').1
    have l2 := (Array.getElem?_eq_some_iff.1 hx2).1
    rw [hb.cell (p := ⟨w.heap.size, 0, none⟩) l1, hb.cell (p := ⟨w.heap.size + 1, 0, none⟩) l2]
    exact ⟨cellAt hx1' 0, cellAt hx2 0⟩
  have hc2 := H2.out w2 hB
  have HB := hid_mk hB
  rw [hw2, hw1] at hc2
  have HW := hid_mk hw2
  have HW1 := hid_mk hw1
  clear hw2 hw1 hB1 hB2 hx1 hl1 hs1 hx2 hx1' hB H2
  go_enter Tryz.func32, Tryz.ntmps32
  go_wp2_with (go_at_call 64; fail)
  refine hc2.mono ?_
  rintro e w3 ⟨rfl, hb3⟩
  rw [← HW1.out, ← HW.out] at hb3
  have hc1 := H1.out w3 (HB.out.trans (hb3.mono HB.out.size))
  obtain ⟨x0, y0⟩ := HX.out w3 hb3
  have HB3 := hid_mk (HB.out.trans (hb3.mono HB.out.size))
  clear hc2 hb3 HX H1 HW HW1 HB
  go_wp2_with (go_at_call 65; fail)
  refine hc1.mono ?_
  rintro e w4 ⟨rfl, hb4⟩
  clear hc1 x0 y0
  go_wp2
  go_ret
  exact ⟨rfl, HB3.out.trans (hb4.mono HB3.out.size)⟩
end Go.Proofs.YtdibldcnklgcjaaGreatDoor.L
namespace Go.Proofs.YtdibldcnklgcjaaGreatDoor.L
open Go.RowKit
set_option maxRecDepth 100000

/-- Complex selectors without Lists in a slice. -/
def ClF (w : World) (v : Value) (L : List Cx) : Prop := ∃ b off, Sl w v L.length b off ∧ ∃ pv cv : Nat → Value, ∀ i (h : i < L.length), w.cell? ⟨b, off + i * 2, none⟩ = some (pv i) ∧ w.cell? ⟨b, off + i * 2 + 1, none⟩ = some (cv i) ∧ PsF w (pv i) (L[i]'h).parts ∧ IsAt w (cv i) (L[i]'h).combs
theorem ClF.keep {W w : World} {v : Value} {L : List Cx} (h : ClF W v L) (hb : Below W.heap.size W w) : ClF w v L := by
  obtain ⟨b, off, h1, pv, cv, h2⟩ := h
  exact ⟨b, off, h1.keep hb, pv, cv, fun i hi => ⟨(h1.cell hb (by omega) _).trans (h2 i hi).1, (h1.cell hb (by omega) _).trans (h2 i hi).2.1, (h2 i hi).2.2.1.keep hb, (h2 i hi).2.2.2.keep hb⟩⟩
theorem PsF.slice {w : World} {v : Value} {ps : List (List (S6 × List Cx))} (h : PsF w v ps) : ∃ a n c, v = .slice a n c := by
  obtain ⟨b, o, ⟨a, c, e, _⟩, _⟩ := h
  exact ⟨a, _, c, e⟩
theorem IsAt.slice {w : World} {v : Value} {ks : List Int} (h : IsAt w v ks) : ∃ a n c, v = .slice a n c := by
  obtain ⟨b, o, ⟨a, c, e, _⟩, _⟩ := h
  exact ⟨a, _, c, e⟩
set_option maxHeartbeats 2000000 in
theorem eqc_yes {w : World} {v1 v2 : Value} {L : List Cx} (h1 : ClF w v1 L) (h2 : ClF w v2 L) (q : Option Addr) :
    Calls Tryz.prog 31 #[v1, v2, .func (.func 32) #[.pointer q] #[]] w fun e w' => e = .returned (.bool true) ∧ Below w.heap.size w w' := by
  obtain ⟨b1, o1, ⟨a1, c1, rfl, hb1, hm1, ha1⟩, p1, k1, g1⟩ := h1
  obtain ⟨b2, o2, ⟨a2, c2, rfl, hb2, hm2, ha2⟩, p2, k2, g2⟩ := h2
  have HC : Hid (∀ w', Below w.heap.size w w' → ∀ t (ht : t < L.length), a1 = some ⟨b1, o1, none⟩ ∧ a2 = some ⟨b2, o2, none⟩ ∧ ∃ x1 m1 d1 x2 m2 d2 x3 m3 d3 x4 m4 d4, w'.cell? ⟨b1, o1 + t * 2, none⟩ = some (.slice x1 m1 d1) ∧ w'.cell? ⟨b1, o1 + t * 2 + 1, none⟩ = some (.slice x3 m3 d3) ∧ w'.cell? ⟨b2, o2 + t * 2, none⟩ = some (.slice x2 m2 d2) ∧ w'.cell? ⟨b2, o2 + t * 2 + 1, none⟩ = some (.slice x4 m4 d4) ∧ ∀ w2, Below w'.heap.size w' w2 → Calls Tryz.prog 32 #[.pointer q, .agg #[.slice x1 m1 d1, .slice x3 m3 d3], .agg #[.slice x2 m2 d2, .slice x4 m4 d4]] w2 fun e w'' => e = .returned (.bool true) ∧ Below w2.heap.size w2 w'') := fun w' hw' t ht => by
    obtain ⟨e1, m1⟩ := ha1 (by omega)
    obtain ⟨e2, m2⟩ := ha2 (by omega)
    obtain ⟨i1, j1, r1, s1⟩ := g1 t ht
    obtain ⟨i2, j2, r2, s2⟩ := g2 t ht
    have hc := fun w2 (hb : Below w'.heap.size w' w2) => complexes_yes ((r1.keep hw').keep hb) ((r2.keep hw').keep hb) ((s1.keep hw').keep hb) ((s2.keep hw').keep hb) q
    have y1 := (hw'.cell (p := ⟨b1, o1 + t * 2, none⟩) m1).trans i1
    have y2 := (hw'.cell (p := ⟨b2, o2 + t * 2, none⟩) m2).trans i2
    have y3 := (hw'.cell (p := ⟨b1, o1 + t * 2 + 1, none⟩) m1).trans j1
    have y4 := (hw'.cell (p := ⟨b2, o2 + t * 2 + 1, none⟩) m2).trans j2
    obtain ⟨x1, n1, d1, f1⟩ := r1.slice
    obtain ⟨x2, n2, d2, f2⟩ := r2.slice
    obtain ⟨x3, n3, d3, f3⟩ := s1.slice
    obtain ⟨x4, n4, d4, f4⟩ := s2.slice
    rw [f1] at y1 hc
    rw [f2] at y2 hc
    rw [f3] at y3 hc
    rw [f4] at y4 hc
    exact ⟨e1, e2, x1, n1, d1, x2, n2, d2, x3, n3, d3, x4, n4, d4, y1, y3, y2, y4, hc⟩
  have hln : L.length ≤ 9223372036854775807 := by omega
  clear ha1 ha2 g1 g2
  go_enter Tryz.func31, Tryz.ntmps31
  go_wp2
  go_loopw [17] (fun a17 wq => ∃ t : Nat, t ≤ L.length ∧ a17 = .int .i64 (t : Int) ∧ Hid (Below w.heap.size w wq)) (fun a17 _ => L.length + 1 - (intOf a17).toNat)
  case atStart => exact ⟨0, Nat.zero_le _, rfl, hid_mk (Below.refl _ _)⟩
  case round =>
    obtain ⟨t, ht, rfl, HB⟩ := hrel
    by_cases htl : t < L.length
    · obtain ⟨rfl, rfl, x1, m1, d1, x2, m2, d2, x3, m3, d3, x4, m4, d4, y1, y3, y2, y4, hc⟩ := HC.out wr HB.out t htl
      clear HC
      obtain ⟨w1, hw1⟩ : ∃ w1, w1 = wr.alloc (.cells #[.slice x1 m1 d1, .slice x3 m3 d3] 38) := ⟨_, rfl⟩
      have hB1 : Below wr.heap.size wr w1 := by rw [hw1]; exact (Below.refl _ _).alloc (Nat.le_refl _) _
      have hx1 : w1.heap[wr.heap.size]? = some (.cells #[.slice x1 m1 d1, .slice x3 m3 d3] 38 (0, 0)) := by rw [hw1]; exact heap_alloc_last wr _
      have hl1 : wr.heap.size < w1.heap.size := (Array.getElem?_eq_some_iff.1 hx1).1
      obtain ⟨w2, hw2⟩ : ∃ w2, w2 = w1.alloc (.cells #[.slice x2 m2 d2, .slice x4 m4 d4] 38) := ⟨_, rfl⟩
      have hB2 : Below w1.heap.size w1 w2 := by rw [hw2]; exact (Below.refl _ _).alloc (Nat.le_refl _) _
      have hx2 : w2.heap[w1.heap.size]? = some (.cells #[.slice x2 m2 d2, .slice x4 m4 d4] 38 (0, 0)) := by rw [hw2]; exact heap_alloc_last w1 _
      have hx1' : w2.heap[wr.heap.size]? = some (.cells #[.slice x1 m1 d1, .slice x3 m3 d3] 38 (0, 0)) := (hB2.block _ hl1).trans hx1
      have hlow : ∀ (bb oo : Nat) (u : Value), wr.cell? ⟨bb, oo, none⟩ = some u → w1.cell? ⟨bb, oo, none⟩ = some u := fun bb oo u h => (hB1.cell (p := ⟨bb, oo, none⟩) (World.block_lt_of_cell? wr _ h)).trans h
      have z2 := hlow _ _ _ y2
      have z4 := hlow _ _ _ y4
      have u0 : w2.cell? ⟨wr.heap.size, 0, none⟩ = _ := cellAt hx1' 0
      have u1 : w2.cell? ⟨wr.heap.size, 1, none⟩ = _ := cellAt hx1' 1
      have v0 : w2.cell? ⟨w1.heap.size, 0, none⟩ = _ := cellAt hx2 0
      have v1 : w2.cell? ⟨w1.heap.size, 1, none⟩ = _ := cellAt hx2 1
      simp only [List.getElem?_toArray, List.getElem?_cons_zero, List.getElem?_cons_succ] at u0 u1 v0 v1
      have hB12 : Below wr.heap.size wr w2 := hB1.trans (hB2.mono hB1.size)
      have hrec := hc w2 hB12
      have HBW2 := hid_mk (HB.out.trans (hB12.mono HB.out.size))
      have HW1 := hid_mk hw1
      have HW2 := hid_mk hw2
      clear hc hB1 hB2 hx1 hx2 hx1' hl1 hw1 hw2 hlow hB12 y2 y4
      go_upto_region 6 with (fail)
      rw [← HW1.out]
      clear y1 y3 HW1
      go_upto_region 7 with (fail)
      rw [← HW2.out]
      clear z2 z4 HW2
      go_wp2_with (go_at_call 32; fail)
      refine hrec.mono ?_
      rintro e w3 ⟨rfl, hb3⟩
      have HB3 := hid_mk (HBW2.out.trans (hb3.mono HBW2.out.size))
      clear hrec hb3 HBW2 u0 u1 v0 v1
      go_wp2
      exact ⟨⟨t + 1, htl, by go_num, HB3⟩, by simp only [intOf]; omega⟩
    · clear HC
      go_wp2
      go_ret
      exact ⟨rfl, HB.out⟩
theorem lists_yes {w : World} {v1 v2 : Value} {L : List Cx} (h1 : ClF w v1 L) (h2 : ClF w v2 L) (q : Option Addr) :
    Calls Tryz.prog 13 #[.pointer q, v1, v2] w fun e w' => e = .returned (.bool true) ∧ Below w.heap.size w w' := by
  have h := eqc_yes h1 h2 q
  obtain ⟨a1, c1, rfl⟩ : ∃ a c, v1 = .slice a L.length c := by obtain ⟨b, o, ⟨a, c, e, _⟩, _⟩ := h1; exact ⟨a, c, e⟩
  obtain ⟨a2, c2, rfl⟩ : ∃ a c, v2 = .slice a L.length c := by obtain ⟨b, o, ⟨a, c, e, _⟩, _⟩ := h2; exact ⟨a, c, e⟩
  clear h1 h2
  go_enter Tryz.func13, Tryz.ntmps13
  go_wp2_with (go_at_call 31; fail)
  refine h.mono ?_
  rintro e w1 ⟨rfl, hb⟩
  clear h
  go_wp2
  go_ret
  exact ⟨rfl, hb⟩
end Go.Proofs.YtdibldcnklgcjaaGreatDoor.L
namespace Go.Proofs.YtdibldcnklgcjaaGreatDoor.L
open Go.RowKit
set_option maxRecDepth 100000

set_option maxHeartbeats 2000000 in
theorem same_yes {w : World} {v1 v2 : Value} {L : List Cx} (h1 : ClF w v1 L) (h2 : ClF w v2 L) :
    Calls Tryz.prog 6 #[v1, v2] w fun e w' => e = .returned (.bool true) ∧ Below w.heap.size w w' := by
  have HC : Hid (∀ w', Below w.heap.size w w' → Calls Tryz.prog 13 #[.pointer (some ⟨w.heap.size + 1, 0, none⟩), v1, v2] w' fun e w'' => e = .returned (.bool true) ∧ Below w'.heap.size w' w'') := fun w' hb => lists_yes (h1.keep hb) (h2.keep hb) _
  obtain ⟨a1, c1, rfl⟩ : ∃ a c, v1 = .slice a L.length c := by obtain ⟨b, o, ⟨a, c, e, _⟩, _⟩ := h1; exact ⟨a, c, e⟩
  obtain ⟨a2, c2, rfl⟩ : ∃ a c, v2 = .slice a L.length c := by obtain ⟨b, o, ⟨a, c, e, _⟩, _⟩ := h2; exact ⟨a, c, e⟩
  clear h1 h2
  generalize L.length = n at *
  obtain ⟨W3, hW3⟩ : ∃ W3, W3 = ((w.alloc (.cells #[.slice a1 n c1, .slice a2 n c2] 52)).alloc (.cells #[.slice (some ⟨w.heap.size, 0, none⟩) 0 1] 55)).alloc (.cells #[.slice a1 n c1, .slice a2 n c2] 52) := ⟨_, rfl⟩
  have hb : Below w.heap.size w W3 := by
    rw [hW3]
    exact (((Below.refl _ _).alloc (Nat.le_refl _) _).alloc (by simp) _).alloc (by simp; omega) _
  have hx : W3.heap[w.heap.size + 1]? = some (.cells #[.slice (some ⟨w.heap.size, 0, none⟩) 0 1] 55 (0, 0)) := by
    have hB : Below (w.heap.size + 2) ((w.alloc (.cells #[.slice a1 n c1, .slice a2 n c2] 52)).alloc (.cells #[.slice (some ⟨w.heap.size, 0, none⟩) 0 1] 55)) W3 := by
      rw [hW3]
      exact (Below.refl _ _).alloc (by simp) _
    have hl := heap_alloc_last (w.alloc (.cells #[.slice a1 n c1, .slice a2 n c2] 52)) (.cells #[.slice (some ⟨w.heap.size, 0, none⟩) 0 1] 55)
    have hs : (w.alloc (.cells #[.slice a1 n c1, .slice a2 n c2] 52)).heap.size = w.heap.size + 1 := by simp
    rw [hs] at hl
    exact (hB.block _ (by omega)).trans hl
  have hc := HC.out W3 hb
  have HX : Hid (∀ w', Below W3.heap.size W3 w' → w'.cell? ⟨w.heap.size + 1, 0, none⟩ = some (.slice (some ⟨w.heap.size, 0, none⟩) 0 1)) := fun w' h => (h.cell (p := ⟨w.heap.size + 1, 0, none⟩) (Array.getElem?_eq_some_iff.1 hx).1).trans (cellAt hx 0)
  have HB := hid_mk hb
  have HW := hid_mk hW3
  rw [hW3] at hc
  clear HC hx hb hW3
  go_enter Tryz.func6, Tryz.ntmps6
  go_wp2
  refine wp_loop_rounds 2 ?_
  rw [rounds_succ]
  go_wp2_with (go_at_call 13; fail)
  refine hc.mono ?_
  rintro e w4 ⟨rfl, hb4⟩
  rw [← HW.out] at hb4
  have x0 := HX.out w4 hb4
  have HB4 := hid_mk (HB.out.trans (hb4.mono HB.out.size))
  clear hc hb4 HX HW HB
  go_wp2
  rw [rounds_succ]
  go_wp2
  go_ret
  exact ⟨rfl, HB4.out⟩
end Go.Proofs.YtdibldcnklgcjaaGreatDoor.L
namespace Go.Proofs.YtdibldcnklgcjaaGreatDoor.L
open Go.RowKit
set_option maxRecDepth 100000

theorem ClAt.flat {W : World} {v : Value} {L : List Cx} (h : ClAt W v L) (hn : NoL L) : ClF W v L := by
  cases h with
  | mk v l b off pv cv bc oc bp op qv bq oq lv hs hc h1 h2 h3 h4 h5 h6 hr =>
    refine ⟨b, off, hs, pv, cv, fun i hi => ⟨(hc i hi).1, (hc i hi).2, ⟨bp i, op i, h3 i hi, qv i, fun j hj => ⟨h4 i hi j hj, bq i j, oq i j, h5 i hi j hj, lv i j, h6 i hi j hj, fun t ht => ?_⟩⟩, ⟨bc i, oc i, h1 i hi, h2 i hi⟩⟩⟩
    have h0 : (((L[i]'hi).parts[j]'hj)[t]'ht).2 = [] := hn _ (List.getElem_mem _) _ (List.getElem_mem _) _ (List.getElem_mem _)
    have h7 := hr i hi j hj t ht
    rw [h0] at h7
    obtain ⟨_, _, ⟨la, lc, e, _⟩, _⟩ := h7.at
    exact ⟨la, lc, e⟩
end Go.Proofs.YtdibldcnklgcjaaGreatDoor.L
namespace Go.Proofs.YtdibldcnklgcjaaGreatDoor.L
open Go.RowKit
set_option maxRecDepth 100000

theorem info38 : ∃ i z, Tryz.prog.info? 38 = some i ∧ i.zero = some z ∧ i.size = 2 ∧ i.bytes = 48 ∧ z.cells.size = 2 := ⟨_, _, by rfl, by rfl, by rfl, by rfl, by rfl⟩
/-- The cells of a row of selectors. -/
structure RowF (w : World) (qs : List Value) (L : List Cx) : Prop where
  len : qs.length = L.length * 2
  one : ∀ u ∈ qs, u.oneCell' = true
  at_ : ∀ i (h : i < L.length), ∃ p q, qs[i * 2]? = some p ∧ qs[i * 2 + 1]? = some q ∧ PsF w p (L[i]'h).parts ∧ IsAt w q (L[i]'h).combs
theorem RowF.keep {w w' : World} {qs : List Value} {L : List Cx} (h : RowF w qs L) (hb : Below w.heap.size w w') : RowF w' qs L := ⟨h.len, h.one, fun i hi => by
  obtain ⟨p, q, h1, h2, h3, h4⟩ := h.at_ i hi
  exact ⟨p, q, h1, h2, h3.keep hb, h4.keep hb⟩⟩
theorem RowF.nil (w : World) : RowF w [] [] := ⟨rfl, (fun u h => by cases h), (fun i h => absurd h (Nat.not_lt_zero _))⟩
theorem RowF.app {w : World} {qs rs : List Value} {L M : List Cx} (h : RowF w qs L) (k : RowF w rs M) : RowF w (qs ++ rs) (L ++ M) := by
  refine ⟨by rw [List.length_append, List.length_append, h.len, k.len]; omega, fun u hu => ?_, fun i hi => ?_⟩
  · rcases List.mem_append.1 hu with hu | hu
    · exact h.one u hu
    · exact k.one u hu
  · by_cases hl : i < L.length
    · obtain ⟨p, q, h1, h2, h3, h4⟩ := h.at_ i hl
      have e : (L ++ M)[i]'hi = L[i]'hl := List.getElem_append_left hl
      rw [e]
      exact ⟨p, q, by rw [List.getElem?_append_left (by rw [h.len]; omega)]; exact h1, by rw [List.getElem?_append_left (by rw [h.len]; omega)]; exact h2, h3, h4⟩
    · have hm : i - L.length < M.length := by
        rw [List.length_append] at hi
        omega
      obtain ⟨p, q, h1, h2, h3, h4⟩ := k.at_ (i - L.length) hm
      have e : (L ++ M)[i]'hi = M[i - L.length]'hm := List.getElem_append_right (by omega)
      rw [e]
      refine ⟨p, q, ?_, ?_, h3, h4⟩
      · rw [List.getElem?_append_right (by rw [h.len]; omega), h.len, show i * 2 - L.length * 2 = (i - L.length) * 2 by omega]
        exact h1
      · rw [List.getElem?_append_right (by rw [h.len]; omega), h.len, show i * 2 + 1 - L.length * 2 = (i - L.length) * 2 + 1 by omega]
        exact h2
/-- Two cells an item. -/
def two (p q : Nat → Value) : Nat → Nat → List Value
  | _, 0 => []
  | i, n + 1 => p i :: q i :: two p q (i + 1) n
theorem two_len (p q : Nat → Value) : ∀ (n i : Nat), (two p q i n).length = n * 2
  | 0, _ => rfl
  | n + 1, i => by simp [two, two_len p q n (i + 1)]; omega
theorem two_at (p q : Nat → Value) : ∀ (n i j : Nat), j < n → (two p q i n)[j * 2]? = some (p (i + j)) ∧ (two p q i n)[j * 2 + 1]? = some (q (i + j))
  | 0, _, _, h => absurd h (Nat.not_lt_zero _)
  | n + 1, i, 0, _ => ⟨rfl, rfl⟩
  | n + 1, i, j + 1, h => by
    have := two_at p q n (i + 1) j (by omega)
    rw [show i + 1 + j = i + (j + 1) by omega] at this
    have e1 : (j + 1) * 2 = j * 2 + 1 + 1 := by omega
    rw [e1]
    simp only [two, List.getElem?_cons_succ]
    exact this
theorem two_mem (p q : Nat → Value) : ∀ (n i : Nat) (u : Value), u ∈ two p q i n → ∃ j, j < n ∧ (u = p (i + j) ∨ u = q (i + j))
  | 0, _, u, h => by cases h
  | n + 1, i, u, h => by
    simp only [two, List.mem_cons] at h
    rcases h with rfl | rfl | h
    · exact ⟨0, by omega, .inl rfl⟩
    · exact ⟨0, by omega, .inr rfl⟩
    · obtain ⟨j, hj, h⟩ := two_mem p q n (i + 1) u h
      refine ⟨j + 1, by omega, ?_⟩
      rw [show i + (j + 1) = i + 1 + j by omega]
      exact h
theorem ClF.row {w : World} {v : Value} {L : List Cx} (h : ClF w v L) : ∃ a c qs, v = .slice a L.length c ∧ RowF w qs L ∧ (0 < L.length → ∃ ad, a = some ad ∧ ∀ j u, qs[j]? = some u → w.cell? (ad.add j) = some u) := by
  obtain ⟨b, off, ⟨a, c, hv, _, _, hs⟩, pv, cv, hc⟩ := h
  refine ⟨a, c, two pv cv 0 L.length, hv, ⟨two_len _ _ _ _, fun u hu => ?_, fun i hi => ?_⟩, fun h0 => ⟨⟨b, off, none⟩, (hs h0).1, fun j u hu => ?_⟩⟩
  · obtain ⟨j, hj, hu⟩ := two_mem _ _ _ _ _ hu
    rw [Nat.zero_add] at hu
    obtain ⟨_, _, h3, h4⟩ := hc j hj
    rcases hu with rfl | rfl
    · obtain ⟨a1, n1, c1, e⟩ := h3.slice
      rw [e]
      rfl
    · obtain ⟨a1, n1, c1, e⟩ := h4.slice
      rw [e]
      rfl
  · obtain ⟨t1, t2⟩ := two_at pv cv L.length 0 i hi
    rw [Nat.zero_add] at t1 t2
    exact ⟨_, _, t1, t2, (hc i hi).2.2.1, (hc i hi).2.2.2⟩
  · have hjl := (List.getElem?_eq_some_iff.1 hu).1
    rw [two_len] at hjl
    have ea : (⟨b, off, none⟩ : Addr).add j = ⟨b, off + j, none⟩ := by unfold Addr.add; split <;> simp_all
    rw [ea]
    obtain ⟨t1, t2⟩ := two_at pv cv L.length 0 (j / 2) (by omega)
    rw [Nat.zero_add] at t1 t2
    obtain ⟨c1, c2, _, _⟩ := hc (j / 2) (by omega)
    rcases Nat.mod_two_eq_zero_or_one j with hm | hm
    · have ej : j / 2 * 2 = j := by omega
      rw [ej] at t1 c1
      rw [t1] at hu
      cases hu
      exact c1
    · have ej : j / 2 * 2 + 1 = j := by omega
      rw [ej] at t2
      rw [show off + j / 2 * 2 + 1 = off + j by omega] at c2
      rw [t2] at hu
      cases hu
      exact c2
theorem RowF.cl {w : World} {B n : Nat} {v : Value} {qs : List Value} {L : List Cx} (h : RowF w qs L) (hn : n = L.length) (hown : w.ownsRow B 38 2 v n qs) : ClF w v L := by
  subst hn
  rcases hown.2 with ⟨hv, h0⟩ | ⟨g, cap, cur, hv, _, hg, hm, hc, _, _⟩
  · have hq := h.len
    refine ⟨0, 0, ⟨none, 0, by rw [hv, h0], by omega, by omega, fun h => by omega⟩, fun _ => undef, fun _ => undef, fun i hi => by omega⟩
  · have hcl := fun j u (hu : qs[j]? = some u) => World.ownsRow.cells hown (g := g) (by rw [hv]; rfl) j u hu
    refine ⟨g, 0, ⟨some ⟨g, 0, none⟩, cap, hv, hm, by unfold maxLen at hc; omega, fun _ => ⟨rfl, (Array.getElem?_eq_some_iff.1 hg).1⟩⟩, fun i => (qs[i * 2]?).getD undef, fun i => (qs[i * 2 + 1]?).getD undef, fun i hi => ?_⟩
    obtain ⟨p, q, h1, h2, h3, h4⟩ := h.at_ i hi
    have k1 := hcl _ _ h1
    have k2 := hcl _ _ h2
    rw [Addr.add_mid] at k1 k2
    simp only [h1, h2, Option.getD_some]
    exact ⟨k1, k2, h3, h4⟩
theorem run_append_keep27 {w : World} {B c m : Nat} {v : Value} {xs : List Value} (ty : TypeId) (hown : w.ownsRow B 38 2 v m xs) : (Builtin.append_ #[27, 27] ty #[v, .slice none 0 c]).run Tryz.prog w = .ok v w := by
  obtain ⟨i0, z0, hi, _⟩ := info38
  rcases hown.2 with ⟨rfl, h0⟩ | ⟨g', cap', cur, rfl, _, hg, hm, hc, _, _⟩
  · simp [Builtin.append_, run_underlying Tryz.underlying27, sizeOf, typeInfo, hi, Builtin.lenOf, Builtin.firstCells]
  · simp [Builtin.append_, run_underlying Tryz.underlying27, sizeOf, typeInfo, hi, Builtin.lenOf, Builtin.firstCells, storeCells, hm]
theorem wpList_append_cl {ops : Array Oper} {rest : List Oper} {o : Oper} {a : Act} {Q : Exit → Act → World → Prop} {w : World} (hw : Region.wanted o (yielded ops a.tmps) = true) (s x : Operand)
    (ho : o.op = .call { callee := .builtin .append, args := #[s, x], argTypes := #[27, 27] }) (B m : Nat) (v : Value) (xs : List Value) (hs : a.eval s = v) (hown : w.ownsRow B 38 2 v m xs)
    (pa : Option Addr) (n c : Nat) (qs : List Value) (hx : a.eval x = .slice pa n c) (hq : qs.length = n * 2) (hn : 0 < n → ∃ ad, pa = some ad ∧ ∀ j u, qs[j]? = some u → w.cell? (ad.add j) = some u) (h1 : ∀ u ∈ qs, u.oneCell' = true) (hn2 : m + n ≤ 2000000) (hB : B ≤ w.heap.size)
    (h : ∀ v' w', w'.ownsRow B 38 2 v' (m + n) (xs ++ qs) → w.grownBy w' v.ownBlock → wpList Tryz.prog ops Q rest (a.put o.dst v') w') : wpList Tryz.prog ops Q (o :: rest) a w := by
  refine wpList_step fun K hK => ?_
  rw [if_pos hw]
  cases pa with
  | none =>
    have h0 : n = 0 := by
      cases n with
      | zero => rfl
      | succ n =>
        obtain ⟨ad, e, _⟩ := hn (by omega)
        cases e
    subst h0
    have hq0 : qs = [] := List.length_eq_zero_iff.1 (by omega)
    subst hq0
    unfold Oper.wp execOp
    simp only [ho, resolve, invoke, builtin, Sem.run_bind, Sem.run_pure, Result.andThen_ok, List.map_toArray, List.map_cons, List.map_nil, hs, hx, run_append_keep27 _ hown]
    exact hK _ _ (h _ w (by rw [List.append_nil]; exact hown) (grown_self w _))
  | some ad =>
    obtain ⟨i0, z0, hi, hz0, hz1, hz2, hz3⟩ := info38
    obtain ⟨v', w', hr, h2, h3, _, h5⟩ := run_append_own_at (P := Tryz.prog) w B 27 o.type 38 i0 z0 2 48 Tryz.underlying27 hi hz0 hz1 hz2 hz3 (by decide) v m xs hown ad n c qs hq (by
      intro j u hu
      have hlt := (List.getElem?_eq_some_iff.1 hu).1
      obtain ⟨ad', e, h4⟩ := hn (by omega)
      cases e
      exact h4 j u hu) h1 (by unfold maxLen; omega) (by omega) hB
    unfold Oper.wp execOp
    simp only [ho, resolve, invoke, builtin, Sem.run_bind, Sem.run_pure, Result.andThen_ok, List.map_toArray, List.map_cons, List.map_nil, hs, hx, hr]
    exact hK _ _ (h v' w' h2 h3)
theorem own_empty2 (W : World) : (W.alloc (.cells #[] 38)).ownsRow W.heap.size 38 2 (.slice (some ⟨W.heap.size, 0, none⟩) 0 0) 0 [] :=
  ⟨by simp, .inr ⟨W.heap.size, 0, #[], rfl, Nat.le_refl _, heap_alloc_last W _, Nat.le_refl _, Nat.zero_le _, by simp, by simp⟩⟩
theorem own_sl2 {w : World} {B n s : Nat} {e : TypeId} {v : Value} {xs : List Value} (h : w.ownsRow B e s v n xs) : ∃ a c, v = .slice a n c := by
  rcases h.2 with ⟨rfl, e0⟩ | ⟨g, cap, cur, rfl, _⟩
  · exact ⟨none, 0, by rw [e0]⟩
  · exact ⟨_, _, rfl⟩
theorem cell_lt {w : World} {p : Addr} {u : Value} (h : w.cell? p = some u) : p.block < w.heap.size := by
  unfold World.cell? at h
  cases hb : w.heap[p.block]? with
  | none => rw [hb] at h; cases h
  | some o => exact (Array.getElem?_eq_some_iff.1 hb).1
theorem news_keep {w w' : World} {p : Addr} {u : Value} (hb : Below w.heap.size w w') (h : w.cell? p = some u) : w'.cell? p = some u := (hb.cell (cell_lt h)).trans h
theorem lsZ_len : ∀ (m : Nat) (vs : List V), vs.length ≤ m → ∀ l, lsZ vs = some l → l.length ≤ vs.length + 1
  | m, vs, hm, l, h => by
    rw [lsZ_step] at h
    unfold lsStep at h
    cases hc : cxZ (spc vs) with
    | none => rw [hc] at h; cases h
    | some x =>
      obtain ⟨c, r⟩ := x
      rw [hc] at h
      obtain ⟨h1, _, _⟩ := cxZ_ok _ _ (Nat.le_refl _) _ _ hc
      have k1 := (spc_ok vs).1
      simp only [] at h
      split at h
      · cases h
        simp
      · rename_i hr
        have hr1 : 0 < r.length := by
          rcases r with _ | ⟨y, r⟩
          · simp at hr
          · simp
        split at h
        · cases hx : lsZ (r.drop 1) with
          | none => rw [hx] at h; cases h
          | some l' =>
            rw [hx] at h
            cases h
            cases m with
            | zero => omega
            | succ m =>
              have ih := lsZ_len m (r.drop 1) (by rw [List.length_drop]; omega) _ hx
              rw [List.length_drop] at ih
              rw [List.length_cons]
              omega
        · cases h
theorem parse_len {vs : List V} {l : List Cx} (h : parseZ vs = some l) : l.length ≤ vs.length + 1 := by
  rw [parseZ_step] at h
  cases hl : lsZ vs with
  | none => rw [hl] at h; cases h
  | some k =>
    rw [hl] at h
    have h1 := (allO_get h).1
    have h2 := lsZ_len _ vs (Nat.le_refl _) k hl
    omega
end Go.Proofs.YtdibldcnklgcjaaGreatDoor.L
namespace Go.Proofs.YtdibldcnklgcjaaGreatDoor.L
open Go.RowKit
set_option maxRecDepth 100000

theorem nameT_lenB : ∀ (l : List Int) (k : Nat), (nameT l k).length ≤ l.length
  | [], _ => by simp [nameT]
  | _ :: t, k + 1 => by
    have := nameT_lenB t k
    rw [nameT]
    simp only [List.length_cons]
    omega
  | c :: t, 0 => by
    rw [nameT]
    split
    · have := nameT_lenB t 0
      simp only [List.length_cons]
      omega
    · split
      · have := nameT_lenB t (escT t).2
        simp only [List.length_cons]
        omega
      · simp
theorem toks_len : ∀ (n : Nat) (l : List Int), l.length ≤ n → (toks l).length ≤ l.length
  | 0, l, h => by
    have : l = [] := List.length_eq_zero_iff.1 (by omega)
    subst this
    simp [toks, toksF]
  | n + 1, [], _ => by simp [toks, toksF]
  | n + 1, c :: t, h => by
    have hl := (one_less c t).length_le
    have ih := toks_len n (oneZ (c :: t)).2 (by simp at h; omega)
    have ho : (oneZ (c :: t)).1.toList.length ≤ 1 := by cases (oneZ (c :: t)).1 <;> simp
    rw [toks_cons, List.length_append]
    simp only [List.length_cons]
    omega
theorem toks_from : ∀ (n : Nat) (xs : List Int), xs.length ≤ n → ∀ t ∈ toks xs, ∃ l, l ≠ [] ∧ l <:+ xs ∧ (oneZ l).1 = some t
  | 0, xs, h, t, ht => by
    have : xs = [] := List.length_eq_zero_iff.1 (by omega)
    subst this
    simp [toks, toksF] at ht
  | n + 1, [], _, t, ht => by simp [toks, toksF] at ht
  | n + 1, c :: r, h, t, ht => by
    rw [toks_cons, List.mem_append] at ht
    rcases ht with ht | ht
    · refine ⟨c :: r, by simp, List.suffix_refl _, ?_⟩
      cases ho : (oneZ (c :: r)).1 with
      | none => rw [ho] at ht; simp at ht
      | some u => rw [ho] at ht; simp at ht; rw [ht]
    · have hl := one_less c r
      obtain ⟨l, h1, h2, h3⟩ := toks_from n (oneZ (c :: r)).2 (by have := hl.length_le; simp at h; omega) t ht
      exact ⟨l, h1, h2.trans (suf_cons hl), h3⟩
theorem urlT_len : ∀ (l : List Int) (k : Nat), (urlT l k).length ≤ l.length
  | [], k => by simp [urlT]
  | _ :: t, k + 1 => by
    have := urlT_len t k
    rw [urlT]
    simp only [List.length_cons]
    omega
  | c :: t, 0 => by
    rw [urlT]
    split
    · split
      · have := urlT_len t (escT t).2
        simp only [List.length_cons]
        omega
      · have := urlT_len t 0
        simp only [List.length_cons]
        omega
    · simp
theorem quoZ_len (e : Int) : ∀ (l : List Int) (k : Nat) (t : List Int), (quoZ e l k).1 = some t → t.length ≤ l.length
  | [], k, t, h => by
    simp [quoZ] at h
    simp [h]
  | _ :: r, k + 1, t, h => by
    rw [quoZ] at h
    have := quoZ_len e r k t h
    simp only [List.length_cons]
    omega
  | c :: r, 0, t, h => by
    have hc : ∀ x k, (consO x (quoZ e r k)).1 = some t → t.length ≤ r.length + 1 := fun x k h => by
      unfold consO at h
      cases hq : (quoZ e r k).1 with
      | none => rw [hq] at h; simp at h
      | some u =>
        rw [hq] at h
        simp at h
        have := quoZ_len e r k u hq
        rw [← h]
        simp only [List.length_cons]
        omega
    rw [quoZ] at h
    simp only [List.length_cons]
    split at h
    · simp at h
      simp [h]
    · split at h
      · simp at h
      · split at h
        · split at h
          · have := quoZ_len e r 1 t h
            omega
          · split at h
            · have := quoZ_len e r 0 t h
              omega
            · exact hc _ _ h
        · exact hc _ _ h
theorem gone_len (l r : List Int) : (gone l r).length ≤ l.length := by
  unfold gone
  rw [List.length_take]
  omega
theorem one_len {l : List Int} {t : Tok} (ho : (oneZ l).1 = some t) : t.text.length + t.unit.length ≤ 2 * l.length + 1 := by
  have hn : ∀ m, m <:+ l → (nameT m 0).length ≤ l.length := fun m h => Nat.le_trans (nameT_lenB m 0) h.length_le
  have hu : ∀ m, m <:+ l → (urlT m 0).length ≤ l.length := fun m h => Nat.le_trans (urlT_len m 0) h.length_le
  unfold oneZ at ho
  split at ho
  · cases ho
  split at ho
  · cases ho
    simp [plainTok]
  split at ho
  · unfold someT strZ at ho
    cases hz : quoZ (hd l 0) (l.drop 1) 0 with
    | mk a r =>
      rw [hz] at ho
      cases a with
      | none => cases ho; simp [plainTok]
      | some tx =>
        cases ho
        have := quoZ_len (hd l 0) (l.drop 1) 0 tx (by rw [hz])
        rw [List.length_drop] at this
        simp only [plainTok, List.length_nil]
        omega
  split at ho
  · cases ho
    have := hn (l.drop 1) (suf_drop l 1)
    simp only [hashZ, mkTok, List.length_nil]
    omega
  split at ho
  · have h1 := gone_len l (numR l)
    have h2 := hn (numR l) (numR_suf l)
    unfold someT Go.Proofs.YtdibldcnklgcjaaGreatDoor.numZ at ho
    split at ho
    · cases ho
      simp only [mkTok]
      omega
    · split at ho
      · cases ho
        simp only [mkTok, List.length_nil]
        omega
      · cases ho
        simp only [mkTok, List.length_nil]
        omega
  split at ho
  · cases ho
    simp [plainTok]
  split at ho
  · cases ho
    simp [plainTok]
  split at ho
  · have h1 := hn l (List.suffix_refl _)
    have h2 := hu (blanksR ((nameR l 0).drop 1)) ((blanksR_suf _).trans ((suf_drop _ 1).trans (nameR_suf l 0)))
    unfold someT wordZ at ho
    split at ho
    · split at ho
      · unfold urlZ urlEnd at ho
        split at ho
        · cases ho
          simp only [plainTok, List.length_nil]
          omega
        · split at ho
          · cases ho
            simp only [plainTok, List.length_nil]
            omega
          · cases ho
            simp [plainTok]
      · cases ho
        simp only [plainTok, List.length_nil]
        omega
    · cases ho
      simp only [plainTok, List.length_nil]
      omega
  split at ho
  · cases ho
    have := hn (l.drop 1) (suf_drop l 1)
    simp only [plainTok, List.length_nil]
    omega
  · cases ho
    unfold singleZ
    split
    · simp [plainTok]
    · simp [plainTok]
theorem tok_len {xs : List Int} {t : Tok} (ht : t ∈ toks xs) : t.text.length + t.unit.length ≤ 2 * xs.length + 1 := by
  obtain ⟨l, _, h2, h3⟩ := toks_from _ xs (Nat.le_refl _) t ht
  have h4 := one_len h3
  have h5 := h2.length_le
  omega
theorem enc_four (c : Int) : (Lib.encodeRuneZ c).length ≤ 4 := by
  unfold Lib.encodeRuneZ
  repeat' split
  all_goals simp
theorem strT_four (l : List Int) : (strT l).size ≤ 4 * l.length := by
  unfold strT
  rw [strOf_size]
  induction l with
  | nil => simp [bytesZ]
  | cons c t ih =>
    have := enc_four c
    unfold bytesZ at ih ⊢
    rw [List.flatMap_cons, List.length_append, List.length_cons]
    omega
theorem some_cnt : ∀ (f : Nat) (l : List T5) (c n : Int), cntL (Y.someZ f l c n).1 + (Y.someZ f l c n).2.length ≤ l.length
  | 0, l, _, _ => by simp [Y.someZ, cntL]
  | _ + 1, [], _, _ => by simp [Y.someZ, cntL]
  | f + 1, t :: r, c, n => by
    have h1 := some_cnt f r c n
    have h2 := some_cnt f r (Y.closeZ t.k) (n + 1)
    have h3 := some_cnt f (Y.someZ f r (Y.closeZ t.k) (n + 1)).2 c n
    rw [Y.someZ]
    simp only [List.length_cons]
    split
    · simp [cntL]
    · split
      · simp only [cntL, cnt_kids, V.kids]
        omega
      · split
        · omega
        · simp only [cntL, cnt_kids, V.kids]
          omega
theorem len_cnt : ∀ vs : List V, vs.length ≤ cntL vs
  | [] => by simp
  | v :: r => by
    have := len_cnt r
    simp only [cntL, cnt_kids, List.length_cons]
    omega
theorem fit_nil : Fit [] := .mk [] (by simp) (fun v hv => absurd hv (by simp)) fun v hv => absurd hv (by simp)
theorem some_fit {M : Nat} (hM : M ≤ 100000) {P : T5 → Prop} (hP : ∀ t, P t → t.tx.size + t.un.size ≤ 2000000) : ∀ (f : Nat) (l : List T5) (c n : Int), l.length ≤ M → (∀ t ∈ l, P t) → (∀ v ∈ (Y.someZ f l c n).1, P v.tok ∧ Fit v.kids) ∧ ∀ t ∈ (Y.someZ f l c n).2, P t
  | 0, l, _, _, _, _ => by simp [Y.someZ]
  | _ + 1, [], _, _, _, _ => by simp [Y.someZ]
  | f + 1, t :: r, c, n, hl, h => by
    have hr : ∀ t ∈ r, P t := fun u hu => h u (by simp [hu])
    have hrl : r.length ≤ M := by simp at hl; omega
    have h1 := some_fit hM hP f r c n hrl hr
    have h2 := some_fit hM hP f r (Y.closeZ t.k) (n + 1) hrl hr
    have c2 := some_cnt f r (Y.closeZ t.k) (n + 1)
    have h3 := some_fit hM hP f (Y.someZ f r (Y.closeZ t.k) (n + 1)).2 c n (by omega) h2.2
    have l2 := len_cnt (Y.someZ f r (Y.closeZ t.k) (n + 1)).1
    have hfit : Fit (Y.someZ f r (Y.closeZ t.k) (n + 1)).1 := .mk _ (by omega) (fun v hv => hP _ (h2.1 v hv).1) fun v hv => (h2.1 v hv).2
    rw [Y.someZ]
    split
    · exact ⟨fun v hv => absurd hv (by simp), hr⟩
    · split
      · refine ⟨fun v hv => ?_, h1.2⟩
        rcases List.mem_cons.1 hv with rfl | hv
        · exact ⟨h t (by simp), fit_nil⟩
        · exact h1.1 v hv
      · split
        · exact h3
        · refine ⟨fun v hv => ?_, h3.2⟩
          rcases List.mem_cons.1 hv with rfl | hv
          · exact ⟨h t (by simp), hfit⟩
          · exact h3.1 v hv
/-- A text of at most 65536 bytes: how great its values are. -/
theorem vals_fit (s : ByteArray) (hs : s.size ≤ 65536) : (toks (runesZ s)).length ≤ 100000 ∧ Fit (valsS s) ∧ cntL (valsS s) ≤ 500000 := by
  have h1 := runes_len s
  have h2 := toks_len _ (runesZ s) (Nat.le_refl _)
  have hl : ((toks (runesZ s)).map toT5).length ≤ 100000 := by rw [List.length_map]; omega
  have hP : ∀ t ∈ (toks (runesZ s)).map toT5, t.tx.size + t.un.size ≤ 2000000 := fun t ht => by
    obtain ⟨u, hu, rfl⟩ := List.mem_map.1 ht
    have h3 := tok_len hu
    have h4 := strT_four u.text
    have h5 := strT_four u.unit
    show (strT u.text).size + (strT u.unit).size ≤ _
    omega
  have hc := some_cnt ((toks (runesZ s)).map toT5).length ((toks (runesZ s)).map toT5) 0 0
  have hf := some_fit (Nat.le_refl 100000) (P := fun t => t.tx.size + t.un.size ≤ 2000000) (fun _ h => h) ((toks (runesZ s)).map toT5).length _ 0 0 hl hP
  have hlc := len_cnt (valsS s)
  have hc' : cntL (valsS s) ≤ 100000 := by
    show cntL (Y.someZ _ _ 0 0).1 ≤ _
    omega
  exact ⟨by omega, .mk _ (by omega) (fun v hv => (hf.1 v hv).1) (fun v hv => (hf.1 v hv).2), by omega⟩
end Go.Proofs.YtdibldcnklgcjaaGreatDoor.L
