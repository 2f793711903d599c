/- The reader of selectors: within [ and ]. The reader of selectors: an attribute, a place, a choice. The reader of selectors: a place. -/
import Derived.Test.YtdibldcnklgcjaaGreatDoorLRk
import Derived.Deep.RegionLaw
namespace Go.Proofs.YtdibldcnklgcjaaGreatDoor.L
open Go.RowKit
set_option maxRecDepth 100000

theorem cells7 {W : World} {b : Nat} {x0 x1 x2 x3 x4 x5 x6 : Value} {T : TypeId} (h : W.heap[b]? = some (.cells #[x0, x1, x2, x3, x4, x5, x6] T (0, 0))) :
    (W.cell? ⟨b, 0, none⟩ = some x0 ∧ W.cell? ⟨b, 1, none⟩ = some x1 ∧ W.cell? ⟨b, 2, none⟩ = some x2 ∧ W.cell? ⟨b, 3, none⟩ = some x3 ∧ W.cell? ⟨b, 4, none⟩ = some x4 ∧ W.cell? ⟨b, 5, none⟩ = some x5 ∧ W.cell? ⟨b, 6, none⟩ = some x6) ∧
    (W.frozen? ⟨b, 0, none⟩ = false ∧ W.frozen? ⟨b, 1, none⟩ = false ∧ W.frozen? ⟨b, 2, none⟩ = false ∧ W.frozen? ⟨b, 3, none⟩ = false ∧ W.frozen? ⟨b, 4, none⟩ = false ∧ W.frozen? ⟨b, 5, none⟩ = false ∧ W.frozen? ⟨b, 6, none⟩ = false) :=
  ⟨⟨cellAt h 0, cellAt h 1, cellAt h 2, cellAt h 3, cellAt h 4, cellAt h 5, cellAt h 6⟩, by simp [World.frozen?, h], by simp [World.frozen?, h], by simp [World.frozen?, h], by simp [World.frozen?, h], by simp [World.frozen?, h], by simp [World.frozen?, h], by simp [World.frozen?, h]⟩
/-- What inSquare answers. -/
def SqPost (W : World) (r : Option S6) (e : Ending) (w' : World) : Prop := (∃ s0, e = .returned (.tuple #[.agg (sC s0).toArray, .bool r.isSome]) ∧ ∀ s, r = some s → s0 = s) ∧ Below W.heap.size W w'
theorem SqPost.no {W w' : World} {s0 : S6} (h : Below W.heap.size W w') : SqPost W none (.returned (.tuple #[.agg (sC s0).toArray, .bool false])) w' := ⟨⟨s0, rfl, fun s e => by cases e⟩, h⟩
theorem SqPost.yes {W w' : World} {s : S6} (h : Below W.heap.size W w') : SqPost W (some s) (.returned (.tuple #[.agg (sC s).toArray, .bool true])) w' := ⟨⟨s, rfl, fun s' e => by cases e; rfl⟩, h⟩
theorem Below.set7 {B : Nat} {W w : World} (h : Below B W w) {b : Nat} (hb : B ≤ b) (x0 x1 x2 x3 x4 x5 x6 : Value) :
    Below B W (((((((w.setCell ⟨b, 0, none⟩ x0).setCell ⟨b, 1, none⟩ x1).setCell ⟨b, 2, none⟩ x2).setCell ⟨b, 3, none⟩ x3).setCell ⟨b, 4, none⟩ x4).setCell ⟨b, 5, none⟩ x5).setCell ⟨b, 6, none⟩ x6) :=
  ((((((h.setCell hb _).setCell hb _).setCell hb _).setCell hb _).setCell hb _).setCell hb _).setCell hb _
theorem heap_ne {W : World} {o i k : Nat} {x : Value} (h : k ≠ o) : (W.setCell ⟨o, i, none⟩ x).heap[k]? = W.heap[k]? := Below.heap_setCell _ _ _ _ h
theorem Below.set {B : Nat} {W w : World} (h : Below B W w) {o i : Nat} (ho : B ≤ o) (x : Value) : Below B W (w.setCell ⟨o, i, none⟩ x) := h.setCell ho x
/-- A store elsewhere. -/
theorem Rd.else {W0 W : World} {lo b : Nat} {kids : Value} {vs : List V} (h : Rd lo W0 b kids vs W) {o i : Nat} (x : Value) (ho : b < o) : Rd lo (W.setCell ⟨o, i, none⟩ x) b kids vs (W.setCell ⟨o, i, none⟩ x) := by
  obtain ⟨r, h1, h2⟩ := h.at'
  exact ⟨⟨r, (heap_ne (by omega)).trans h1, h2.stay (by simp) fun g hg _ => heap_ne (by omega)⟩, KeepX.of (Below.refl _ _)⟩

set_option maxHeartbeats 2000000 in
theorem inSq_any {W : World} {v : Value} {P : Nat → Prop} {vs : List V} (hv : VsAt P W v vs) (hsg : Signs W) (hf : Fit vs) : Calls Tryz.prog 110 #[v] W (SqPost W (inSqR vs)) := by
  obtain ⟨lo, hlo⟩ : ∃ lo, lo = W.heap.size := ⟨_, rfl⟩
  obtain ⟨a, cap, rfl, hc1, hc2⟩ := hv.slice
  obtain ⟨W1, hW1⟩ : ∃ W1, W1 = (W.alloc (.cells #[.int .i64 0, .string ⟨#[]⟩, .int .i64 0, .string ⟨#[]⟩, .int .i64 0, .int .i64 0, .slice none 0 0] 40)).alloc (.cells #[.slice a vs.length cap, .slice none 0 0] 63) := ⟨_, rfl⟩
  have hB1 : Below W.heap.size W W1 := by rw [hW1]; exact ((Below.refl _ _).alloc (Nat.le_refl _) _).alloc (by simp) _
  have x0 : W1.heap[W.heap.size]? = some (.cells #[.int .i64 0, .string ⟨#[]⟩, .int .i64 0, .string ⟨#[]⟩, .int .i64 0, .int .i64 0, .slice none 0 0] 40 (0, 0)) := by
    rw [hW1, Below.heap_alloc _ _ _ (by simp)]
    exact heap_alloc_last W _
  have x1 : W1.heap[W.heap.size + 1]? = some (.cells #[.slice a vs.length cap, .slice none 0 0] 63 (0, 0)) := by
    have e : W.heap.size + 1 = (W.alloc (.cells #[.int .i64 0, .string ⟨#[]⟩, .int .i64 0, .string ⟨#[]⟩, .int .i64 0, .int .i64 0, .slice none 0 0] 40)).heap.size := by simp
    rw [hW1, e]
    exact heap_alloc_last _ _
  have hR1 : Rd lo W1 (W.heap.size + 1) (.slice none 0 0) vs W1 := ⟨⟨_, x1, (hv.wider fun g _ hl => by omega).keep hB1⟩, KeepX.of (Below.refl _ _)⟩
  have hsp := spaces_any hR1
  have HI : Hid (inSqR vs = match spc vs with | v :: r => if (v.tok.k == 1) = true then sqO (foldS v.tok.tx) (spc r) else none | [] => none) := rfl
  have hfu := hf.spc
  have HSG : Hid (∀ w', Below W.heap.size W w' → Signs w') := fun w' h => hsg.keep h
  generalize inSqR vs = R at *
  generalize spc vs = us at *
  have HW1 := hid_mk hW1
  clear hv hsg hf hR1 x1 hW1 hlo
  go_enter Tryz.func110, Tryz.ntmps110
  go_wp2_with (go_at_call 35; fail)
  rw [← HW1.out]
  refine hsp.mono ?_
  rintro e w2 ⟨rfl, hR2⟩
  have hB2 : Below W.heap.size W w2 := hB1.trans (hR2.keep.below (by omega) hB1.size)
  have x2 : w2.heap[W.heap.size]? = some (.cells #[.int .i64 0, .string ⟨#[]⟩, .int .i64 0, .string ⟨#[]⟩, .int .i64 0, .int .i64 0, .slice none 0 0] 40 (0, 0)) := (hR2.keep.block _ (Array.getElem?_eq_some_iff.1 x0).1 (by omega)).trans x0
  have ha := ahead_any hR2 0 1
  have HR2 := hid_mk hR2.self
  clear hsp hR2 HW1 x0 hB1
  go_wp2_with (go_at_call 37; fail)
  refine ha.mono ?_
  rintro e wa ⟨rfl, rfl⟩
  clear ha
  cases us with
  | nil =>
    have HE : Hid (R = none) := HI.out
    rw [show ahd [] 0 1 = false from rfl]
    obtain ⟨⟨k0, k1, k2, k3, k4, k5, k6⟩, f0, f1, f2, f3, f4, f5, f6⟩ := cells7 x2
    have HB := hid_mk hB2
    clear x2 hB2 HI HR2 HSG hfu
    go_wp2
    rw [HE.out]
    refine bodyPost_ret (v := .tuple #[.agg #[.int .i64 0, .string ⟨#[]⟩, .int .i64 0, .string ⟨#[]⟩, .int .i64 0, .int .i64 0, .slice none 0 0], .bool false]) (by simp [results, Tryz.results110, go_sem, k0, k1, k2, k3, k4, k5, k6]) rfl (SqPost.no (s0 := ⟨0, ⟨#[]⟩, 0, ⟨#[]⟩, 0, 0⟩) (Below.set7 HB.out (Nat.le_refl _) _ _ _ _ _ _ _))
  | cons u r0 =>
  rw [ahd_cons]
  cases hk : (u.tok.k == 1) with
  | false =>
    have HE : Hid (R = none) := by rw [Hid, HI.out]; simp only []; rw [if_neg (by rw [hk]; decide)]
    obtain ⟨⟨k0, k1, k2, k3, k4, k5, k6⟩, f0, f1, f2, f3, f4, f5, f6⟩ := cells7 x2
    have HB := hid_mk hB2
    clear x2 hB2 HI HR2 HSG hfu hk
    go_wp2
    rw [HE.out]
    refine bodyPost_ret (v := .tuple #[.agg #[.int .i64 0, .string ⟨#[]⟩, .int .i64 0, .string ⟨#[]⟩, .int .i64 0, .int .i64 0, .slice none 0 0], .bool false]) (by simp [results, Tryz.results110, go_sem, k0, k1, k2, k3, k4, k5, k6]) rfl (SqPost.no (s0 := ⟨0, ⟨#[]⟩, 0, ⟨#[]⟩, 0, 0⟩) (Below.set7 HB.out (Nat.le_refl _) _ _ _ _ _ _ _))
  | true =>
  have HE : Hid (R = sqO (foldS u.tok.tx) (spc r0)) := by rw [Hid, HI.out]; simp only []; rw [if_pos hk]
  have hus : u.tok.tx.size ≤ 1000000000000 := hfu.tx' u (by simp)
  have hfr : Fit (spc r0) := (hfu.drop 1).spc
  obtain ⟨a', n, cap', hn, hc1', hc2', h1, _, hs⟩ := HR2.out.see
  have c0 : wa.cell? ⟨W.heap.size + 1, 0, none⟩ = some (.slice a' n cap') := cellAt h1 0
  obtain ⟨hl, g, off, kv, rfl, q0, q1, q4, q5, hkv⟩ := hs 0 u rfl
  rw [Nat.zero_mul, Nat.add_zero] at q0 q1 q4 q5
  have hfo := fold_any u.tok.tx wa hus
  have HX := hid_mk x2
  have HB := hid_mk hB2
  clear h1 hs hn hk q0 q4 q5 hkv HI x2 hB2 hfu
  go_wp2_with (go_at_call 59; fail)
  refine hfo.mono ?_
  rintro e w3 ⟨rfl, hB3⟩
  generalize foldS u.tok.tx = nm at *
  obtain ⟨W4, hW4⟩ : ∃ W4, W4 = w3.alloc (.cells #[.int .i64 4, .string nm, .int .i64 0, .string ⟨#[]⟩, .int .i64 0, .int .i64 0, .slice none 0 0] 40) := ⟨_, rfl⟩
  have hB4 : Below wa.heap.size wa W4 := by rw [hW4]; exact hB3.alloc hB3.size _
  have y4 : W4.heap[w3.heap.size]? = some (.cells #[.int .i64 4, .string nm, .int .i64 0, .string ⟨#[]⟩, .int .i64 0, .int .i64 0, .slice none 0 0] 40 (0, 0)) := by rw [hW4]; exact heap_alloc_last w3 _
  have hR4 := (HR2.out.then hB4).self
  have hbo : W.heap.size + 1 < w3.heap.size := Nat.lt_of_lt_of_le HR2.out.lt hB3.size
  have x4 : W4.heap[W.heap.size]? = some (.cells #[.int .i64 0, .string ⟨#[]⟩, .int .i64 0, .string ⟨#[]⟩, .int .i64 0, .int .i64 0, .slice none 0 0] 40 (0, 0)) := (hB4.block _ (Array.getElem?_eq_some_iff.1 HX.out).1).trans HX.out
  have hBW : Below W.heap.size W W4 := HB.out.trans (hB4.mono HB.out.size)
  have hsk := skip_any hR4 1 (by simp)
  have HW4 := hid_mk hW4
  clear hfo hB3 hW4 hB4 hR4 HR2 HX HB q1 c0
  go_wp2_with (go_at_call 38; fail)
  rw [← HW4.out]
  refine hsk.mono ?_
  rintro e w5 ⟨rfl, hR5⟩
  have hsp := spaces_any hR5.self
  have HR5 := hid_mk hR5
  clear hsk hR5 HW4
  rw [show (u :: r0).drop 1 = r0 from rfl] at hsp HR5
  go_wp2_with (go_at_call 35; fail)
  refine hsp.mono ?_
  rintro e w6 ⟨rfl, hR6⟩
  have hk6 := HR5.out.keep.trans hR6.keep
  have y6 : w6.heap[w3.heap.size]? = some (.cells #[.int .i64 4, .string nm, .int .i64 0, .string ⟨#[]⟩, .int .i64 0, .int .i64 0, .slice none 0 0] 40 (0, 0)) := (hk6.block _ (Array.getElem?_eq_some_iff.1 y4).1 (by omega)).trans y4
  have x6 : w6.heap[W.heap.size]? = some (.cells #[.int .i64 0, .string ⟨#[]⟩, .int .i64 0, .string ⟨#[]⟩, .int .i64 0, .int .i64 0, .slice none 0 0] 40 (0, 0)) := (hk6.block _ (Array.getElem?_eq_some_iff.1 x4).1 (by omega)).trans x4
  have hB6 : Below W.heap.size W w6 := hBW.trans (hk6.below (by omega) hBW.size)
  have hR6' := hR6.self
  generalize w3.heap.size = o at *
  generalize spc r0 = r at *
  clear hsp HR5 hR6 hk6 y4 x4 hBW
  obtain ⟨a6, n6, cap6, hn6, hc61, hc62, h61, _, _⟩ := hR6'.see
  have d0 : w6.cell? ⟨W.heap.size + 1, 0, none⟩ = some (.slice a6 n6 cap6) := cellAt h61 0
  cases r with
  | nil =>
    have HE2 : Hid (R = some ⟨4, nm, 0, ⟨#[]⟩, 0, 0⟩) := HE.out
    have hn0 : n6 = 0 := hn6
    subst hn0
    obtain ⟨⟨k0, k1, k2, k3, k4, k5, k6⟩, f0, f1, f2, f3, f4, f5, f6⟩ := cells7 x6
    obtain ⟨⟨t0, t1, t2, t3, t4, t5, t6⟩, _⟩ := cells7 y6
    have HB := hid_mk hB6
    clear x6 y6 hB6 hR6' h61 hn6 HE HSG
    go_wp2
    rw [HE2.out]
    refine bodyPost_ret (v := .tuple #[.agg #[.int .i64 4, .string nm, .int .i64 0, .string ⟨#[]⟩, .int .i64 0, .int .i64 0, .slice none 0 0], .bool true]) (by simp [results, Tryz.results110, go_sem, k0, k1, k2, k3, k4, k5, k6]) rfl (SqPost.yes (s := ⟨4, nm, 0, ⟨#[]⟩, 0, 0⟩) (Below.set7 HB.out (Nat.le_refl _) _ _ _ _ _ _ _))
  | cons z r1 =>
  have HE2 : Hid (R = sqV nm (opR (z :: r1)).1 (spc ((z :: r1).drop (opR (z :: r1)).2))) := HE.out
  have hn0 : ((n6 : Int) == 0) = false := by
    have : n6 = r1.length + 1 := hn6
    rw [beq_eq_false_iff_ne]
    omega
  have hop := operator_any hR6' (HSG.out w6 hB6)
  have hfv : Fit (spc ((z :: r1).drop (opR (z :: r1)).2)) := (hfr.drop _).spc
  generalize (opR (z :: r1)).1 = op at *
  generalize (z :: r1).drop (opR (z :: r1)).2 = r2 at *
  have HX := hid_mk x6
  have HY := hid_mk y6
  have HB := hid_mk hB6
  have HR6 := hid_mk hR6'
  clear x6 y6 hB6 hR6' h61 hn6 HE HSG hfr
  go_wp2_with (go_at_call 113; fail)
  refine hop.mono ?_
  rintro e w7 ⟨rfl, hR7⟩
  have y7 : w7.heap[o]? = some (.cells #[.int .i64 4, .string nm, .int .i64 0, .string ⟨#[]⟩, .int .i64 0, .int .i64 0, .slice none 0 0] 40 (0, 0)) := (hR7.keep.block _ (Array.getElem?_eq_some_iff.1 HY.out).1 (by omega)).trans HY.out
  have x7 : w7.heap[W.heap.size]? = some (.cells #[.int .i64 0, .string ⟨#[]⟩, .int .i64 0, .string ⟨#[]⟩, .int .i64 0, .int .i64 0, .slice none 0 0] 40 (0, 0)) := (hR7.keep.block _ (Array.getElem?_eq_some_iff.1 HX.out).1 (by omega)).trans HX.out
  have hB7 : Below W.heap.size W w7 := HB.out.trans (hR7.keep.below (by omega) HB.out.size)
  obtain ⟨⟨t0, t1, t2, t3, t4, t5, t6⟩, g0, g1, g2, g3, g4, g5, g6⟩ := cells7 y7
  obtain ⟨W8, hW8⟩ : ∃ W8, W8 = w7.setCell ⟨o, 2, none⟩ (.int .i64 op) := ⟨_, rfl⟩
  have hR8 : Rd lo W8 (W.heap.size + 1) (.slice none 0 0) r2 W8 := by rw [hW8]; exact hR7.else _ hbo
  have y8 : W8.heap[o]? = some (.cells #[.int .i64 4, .string nm, .int .i64 op, .string ⟨#[]⟩, .int .i64 0, .int .i64 0, .slice none 0 0] 40 (0, 0)) := by rw [hW8, set_at 2 _ _ y7]; rfl
  have x8 : W8.heap[W.heap.size]? = some (.cells #[.int .i64 0, .string ⟨#[]⟩, .int .i64 0, .string ⟨#[]⟩, .int .i64 0, .int .i64 0, .slice none 0 0] 40 (0, 0)) := by rw [hW8, heap_ne (by omega)]; exact x7
  have hB8 : Below W.heap.size W W8 := by rw [hW8]; exact Below.set hB7 (by omega) _
  have hsp := spaces_any hR8
  have HW8 := hid_mk hW8
  have HX8 := hid_mk x8
  have HY8 := hid_mk y8
  have HB8 := hid_mk hB8
  clear hop hR7 x7 y7 hB7 HX HY HB HR6 hR8 hW8 x8 y8 hB8 d0
  go_wp2_with (go_at_call 35; fail)
  rw [← HW8.out]
  refine hsp.mono ?_
  rintro e w9 ⟨rfl, hR9⟩
  have y9 : w9.heap[o]? = some (.cells #[.int .i64 4, .string nm, .int .i64 op, .string ⟨#[]⟩, .int .i64 0, .int .i64 0, .slice none 0 0] 40 (0, 0)) := (hR9.keep.block _ (Array.getElem?_eq_some_iff.1 HY8.out).1 (by omega)).trans HY8.out
  have x9 : w9.heap[W.heap.size]? = some (.cells #[.int .i64 0, .string ⟨#[]⟩, .int .i64 0, .string ⟨#[]⟩, .int .i64 0, .int .i64 0, .slice none 0 0] 40 (0, 0)) := (hR9.keep.block _ (Array.getElem?_eq_some_iff.1 HX8.out).1 (by omega)).trans HX8.out
  have hB9 : Below W.heap.size W w9 := HB8.out.trans (hR9.keep.below (by omega) HB8.out.size)
  have ha1 := ahead_any hR9.self 0 1
  have ha5 := ahead_any hR9.self 0 5
  have HR9 := hid_mk hR9.self
  generalize spc r2 = r3 at *
  clear hsp hR9 HX8 HY8 HB8 HW8 t0 t1 t2 t3 t4 t5 t6 g0 g1 g2 g3 g4 g5 g6
  obtain ⟨⟨t0, t1, t2, t3, t4, t5, t6⟩, g0, g1, g2, g3, g4, g5, g6⟩ := cells7 y9
  cases ho : (op == 0) with
  | true =>
    have HE3 : Hid (R = none) := by
      have ho' : (op != 0) = false := by rw [bne, ho]; rfl
      rw [Hid, HE2.out]
      unfold sqV
      cases r3 with
      | nil => rfl
      | cons x y => simp only [ho', Bool.false_and]; rfl
    obtain ⟨⟨k0, k1, k2, k3, k4, k5, k6⟩, f0, f1, f2, f3, f4, f5, f6⟩ := cells7 x9
    have HB := hid_mk hB9
    clear ha1 ha5 HR9 x9 y9 hB9 HE2 hfv
    go_wp2
    rw [HE3.out]
    refine bodyPost_ret (v := .tuple #[.agg #[.int .i64 0, .string ⟨#[]⟩, .int .i64 0, .string ⟨#[]⟩, .int .i64 0, .int .i64 0, .slice none 0 0], .bool false]) (by simp [results, Tryz.results110, go_sem, k0, k1, k2, k3, k4, k5, k6]) rfl (SqPost.no (s0 := ⟨0, ⟨#[]⟩, 0, ⟨#[]⟩, 0, 0⟩) (Below.set7 HB.out (Nat.le_refl _) _ _ _ _ _ _ _))
  | false =>
  have ho' : (op != 0) = true := by rw [bne, ho]; rfl
  cases hq : (ahd r3 0 1 || ahd r3 0 5) with
  | false =>
    rw [Bool.or_eq_false_iff] at hq
    have HE3 : Hid (R = none) := by
      rw [Hid, HE2.out]
      unfold sqV
      cases r3 with
      | nil => rfl
      | cons x y =>
        rw [ahd_cons, ahd_cons] at hq
        simp only [hq.1, hq.2, Bool.or_self, Bool.and_false, Bool.false_and]
        rfl
    rw [hq.1] at ha1
    rw [hq.2] at ha5
    obtain ⟨⟨k0, k1, k2, k3, k4, k5, k6⟩, f0, f1, f2, f3, f4, f5, f6⟩ := cells7 x9
    have HB := hid_mk hB9
    clear HR9 x9 y9 hB9 HE2 hfv hq ho'
    go_wp2_with (go_at_call 37; fail)
    refine ha1.mono ?_
    rintro e wb ⟨rfl, rfl⟩
    clear ha1
    go_wp2_with (go_at_call 37; fail)
    refine ha5.mono ?_
    rintro e wb ⟨rfl, rfl⟩
    clear ha5
    go_wp2
    rw [HE3.out]
    refine bodyPost_ret (v := .tuple #[.agg #[.int .i64 0, .string ⟨#[]⟩, .int .i64 0, .string ⟨#[]⟩, .int .i64 0, .int .i64 0, .slice none 0 0], .bool false]) (by simp [results, Tryz.results110, go_sem, k0, k1, k2, k3, k4, k5, k6]) rfl (SqPost.no (s0 := ⟨0, ⟨#[]⟩, 0, ⟨#[]⟩, 0, 0⟩) (Below.set7 HB.out (Nat.le_refl _) _ _ _ _ _ _ _))
  | true =>
  cases r3 with
  | nil => cases hq
  | cons x r4 =>
  rw [ahd_cons, ahd_cons] at hq
  rw [ahd_cons] at ha1 ha5
  have HE3 : Hid (R = if (spc r4).isEmpty = true then some ⟨4, nm, op, x.tok.tx, 0, 0⟩ else none) := by
    rw [Hid, HE2.out]
    unfold sqV
    simp only [ho', hq, Bool.true_and]
  obtain ⟨a9, n9, cap9, hn9, hc91, hc92, h91, _, hs9⟩ := HR9.out.see
  have d0 : w9.cell? ⟨W.heap.size + 1, 0, none⟩ = some (.slice a9 n9 cap9) := cellAt h91 0
  obtain ⟨hl9, g', off', kv', rfl, _, q1, _⟩ := hs9 0 x rfl
  rw [Nat.zero_mul, Nat.add_zero] at q1
  obtain ⟨W10, hW10⟩ : ∃ W10, W10 = w9.setCell ⟨o, 3, none⟩ (.string x.tok.tx) := ⟨_, rfl⟩
  have hR10 : Rd lo W10 (W.heap.size + 1) (.slice none 0 0) (x :: r4) W10 := by rw [hW10]; exact HR9.out.else _ hbo
  have y10 : W10.heap[o]? = some (.cells #[.int .i64 4, .string nm, .int .i64 op, .string x.tok.tx, .int .i64 0, .int .i64 0, .slice none 0 0] 40 (0, 0)) := by rw [hW10, set_at 3 _ _ y9]; rfl
  have x10 : W10.heap[W.heap.size]? = some (.cells #[.int .i64 0, .string ⟨#[]⟩, .int .i64 0, .string ⟨#[]⟩, .int .i64 0, .int .i64 0, .slice none 0 0] 40 (0, 0)) := by rw [hW10, heap_ne (by omega)]; exact x9
  have hB10 : Below W.heap.size W W10 := by rw [hW10]; exact Below.set hB9 (by omega) _
  have hsk := skip_any hR10 1 (by simp)
  have HW10 := hid_mk hW10
  have HX10 := hid_mk x10
  have HY10 := hid_mk y10
  have HB10 := hid_mk hB10
  have HQ := hid_mk hq
  generalize x.tok.tx = tx at *
  clear HR9 h91 hs9 hn9 hW10 x10 y10 hB10 x9 y9 hB9 HE2 hR10 hfv hq ho'
  generalize (x.tok.k == 1) = b1 at *
  generalize (x.tok.k == 5) = b5 at *
  have HN := hid_mk hsk
  cases b1 with
  | true =>
    clear ha5
    go_wp2_with (go_at_call 37; fail)
    refine ha1.mono ?_
    rintro e wb ⟨rfl, rfl⟩
    clear ha1 HN
    go_wp2_with (go_at_call 38; fail)
    rw [← HW10.out]
    refine hsk.mono ?_
    rintro e w11 ⟨rfl, hR11⟩
    have hsp := spaces_any hR11.self
    have HR11 := hid_mk hR11
    rw [show (x :: r4).drop 1 = r4 from rfl] at hsp HR11
    clear hsk hR11 HW10 d0 q1 t0 t1 t2 t3 t4 t5 t6 g0 g1 g2 g3 g4 g5 g6 HQ
    go_wp2_with (go_at_call 35; fail)
    refine hsp.mono ?_
    rintro e w12 ⟨rfl, hR12⟩
    have hk12 := HR11.out.keep.trans hR12.keep
    have y12 := (hk12.block _ (Array.getElem?_eq_some_iff.1 HY10.out).1 (by omega)).trans HY10.out
    have x12 := (hk12.block _ (Array.getElem?_eq_some_iff.1 HX10.out).1 (by omega)).trans HX10.out
    have hB12 : Below W.heap.size W w12 := HB10.out.trans (hk12.below (by omega) HB10.out.size)
    obtain ⟨a12, n12, cap12, hn12, _, _, h12, _, _⟩ := hR12.see
    have d0 : w12.cell? ⟨W.heap.size + 1, 0, none⟩ = some (.slice a12 n12 cap12) := cellAt h12 0
    obtain ⟨⟨k0, k1, k2, k3, k4, k5, k6⟩, f0, f1, f2, f3, f4, f5, f6⟩ := cells7 x12
    obtain ⟨⟨t0, t1, t2, t3, t4, t5, t6⟩, _⟩ := cells7 y12
    have HB := hid_mk hB12
    have HE4 : Hid (R = if n12 = 0 then some ⟨4, nm, op, tx, 0, 0⟩ else none) := by
      rw [Hid, HE3.out, hn12]
      cases spc r4 with
      | nil => rfl
      | cons _ _ => rfl
    clear hsp HR11 hR12 hk12 y12 x12 hB12 hn12 h12 HX10 HY10 HB10 HE3
    by_cases hz : n12 = 0
    · have HE5 : Hid (R = some ⟨4, nm, op, tx, 0, 0⟩) := by rw [Hid, HE4.out, if_pos hz]
      subst hz
      clear HE4
      go_upto_region 17 with (fail)
      go_region
      go_wp2
      rw [HE5.out]
      refine bodyPost_ret (v := .tuple #[.agg #[.int .i64 4, .string nm, .int .i64 op, .string tx, .int .i64 0, .int .i64 0, .slice none 0 0], .bool true]) (by simp [results, Tryz.results110, go_sem, k0, k1, k2, k3, k4, k5, k6]) rfl (SqPost.yes (s := ⟨4, nm, op, tx, 0, 0⟩) (Below.set7 HB.out (Nat.le_refl _) _ _ _ _ _ _ _).drew)
    · have HE5 : Hid (R = none) := by rw [Hid, HE4.out, if_neg hz]
      have hz' : ((n12 : Int) == 0) = false := by rw [beq_eq_false_iff_ne]; omega
      clear HE4
      go_upto_region 17 with (fail)
      go_region
      go_wp2
      rw [HE5.out]
      refine bodyPost_ret (v := .tuple #[.agg #[.int .i64 4, .string nm, .int .i64 op, .string tx, .int .i64 0, .int .i64 0, .slice none 0 0], .bool false]) (by simp [results, Tryz.results110, go_sem, k0, k1, k2, k3, k4, k5, k6]) rfl (SqPost.no (s0 := ⟨4, nm, op, tx, 0, 0⟩) (Below.set7 HB.out (Nat.le_refl _) _ _ _ _ _ _ _).drew)
  | false =>
    have hb5 : b5 = true := HQ.out
    subst hb5
    go_wp2_with (go_at_call 37; fail)
    refine ha1.mono ?_
    rintro e wb ⟨rfl, rfl⟩
    clear ha1
    go_wp2_with (go_at_call 37; fail)
    refine ha5.mono ?_
    rintro e wb ⟨rfl, rfl⟩
    clear ha5 HN
    go_wp2_with (go_at_call 38; fail)
    rw [← HW10.out]
    refine hsk.mono ?_
    rintro e w11 ⟨rfl, hR11⟩
    have hsp := spaces_any hR11.self
    have HR11 := hid_mk hR11
    rw [show (x :: r4).drop 1 = r4 from rfl] at hsp HR11
    clear hsk hR11 HW10 d0 q1 t0 t1 t2 t3 t4 t5 t6 g0 g1 g2 g3 g4 g5 g6 HQ
    go_wp2_with (go_at_call 35; fail)
    refine hsp.mono ?_
    rintro e w12 ⟨rfl, hR12⟩
    have hk12 := HR11.out.keep.trans hR12.keep
    have y12 := (hk12.block _ (Array.getElem?_eq_some_iff.1 HY10.out).1 (by omega)).trans HY10.out
    have x12 := (hk12.block _ (Array.getElem?_eq_some_iff.1 HX10.out).1 (by omega)).trans HX10.out
    have hB12 : Below W.heap.size W w12 := HB10.out.trans (hk12.below (by omega) HB10.out.size)
    obtain ⟨a12, n12, cap12, hn12, _, _, h12, _, _⟩ := hR12.see
    have d0 : w12.cell? ⟨W.heap.size + 1, 0, none⟩ = some (.slice a12 n12 cap12) := cellAt h12 0
    obtain ⟨⟨k0, k1, k2, k3, k4, k5, k6⟩, f0, f1, f2, f3, f4, f5, f6⟩ := cells7 x12
    obtain ⟨⟨t0, t1, t2, t3, t4, t5, t6⟩, _⟩ := cells7 y12
    have HB := hid_mk hB12
    have HE4 : Hid (R = if n12 = 0 then some ⟨4, nm, op, tx, 0, 0⟩ else none) := by
      rw [Hid, HE3.out, hn12]
      cases spc r4 with
      | nil => rfl
      | cons _ _ => rfl
    clear hsp HR11 hR12 hk12 y12 x12 hB12 hn12 h12 HX10 HY10 HB10 HE3
    by_cases hz : n12 = 0
    · have HE5 : Hid (R = some ⟨4, nm, op, tx, 0, 0⟩) := by rw [Hid, HE4.out, if_pos hz]
      subst hz
      clear HE4
      go_upto_region 17 with (fail)
      go_region
      go_wp2
      rw [HE5.out]
      refine bodyPost_ret (v := .tuple #[.agg #[.int .i64 4, .string nm, .int .i64 op, .string tx, .int .i64 0, .int .i64 0, .slice none 0 0], .bool true]) (by simp [results, Tryz.results110, go_sem, k0, k1, k2, k3, k4, k5, k6]) rfl (SqPost.yes (s := ⟨4, nm, op, tx, 0, 0⟩) (Below.set7 HB.out (Nat.le_refl _) _ _ _ _ _ _ _).drew)
    · have HE5 : Hid (R = none) := by rw [Hid, HE4.out, if_neg hz]
      have hz' : ((n12 : Int) == 0) = false := by rw [beq_eq_false_iff_ne]; omega
      clear HE4
      go_upto_region 17 with (fail)
      go_region
      go_wp2
      rw [HE5.out]
      refine bodyPost_ret (v := .tuple #[.agg #[.int .i64 4, .string nm, .int .i64 op, .string tx, .int .i64 0, .int .i64 0, .slice none 0 0], .bool false]) (by simp [results, Tryz.results110, go_sem, k0, k1, k2, k3, k4, k5, k6]) rfl (SqPost.no (s0 := ⟨4, nm, op, tx, 0, 0⟩) (Below.set7 HB.out (Nat.le_refl _) _ _ _ _ _ _ _).drew)
end Go.Proofs.YtdibldcnklgcjaaGreatDoor.L
namespace Go.Proofs.YtdibldcnklgcjaaGreatDoor.L
open Go.RowKit
set_option maxRecDepth 100000

theorem alloc_size (W : World) (cs : Array Value) (T : TypeId) : (W.alloc (.cells cs T)).heap.size = W.heap.size + 1 := by simp
set_option maxHeartbeats 1000000 in
theorem attr_any {W : World} {lo b : Nat} {kids : Value} {vs : List V} (h : Rd lo W b kids vs W) (hsg : Signs W) (hf : Fit vs) :
    Calls Tryz.prog 105 #[.pointer (some ⟨b, 0, none⟩)] W (Way lo W b kids vs (attrR vs)) := by
  have ha := ahead_any h 0 19
  cases vs with
  | nil =>
    rw [show ahd [] 0 19 = false from rfl] at ha
    clear h hsg hf
    go_enter Tryz.func105, Tryz.ntmps105
    go_wp2_with (go_at_call 37; fail)
    refine ha.mono ?_
    rintro e w1 ⟨rfl, rfl⟩
    clear ha
    go_wp2
    go_ret
    exact ⟨rfl, Below.refl _ _⟩
  | cons v r =>
  rw [ahd_cons] at ha
  cases hk : (v.tok.k == 19) with
  | false =>
    have HE : Hid (attrR (v :: r) = none) := by rw [Hid, attrR, if_neg (by rw [hk]; decide)]
    rw [HE.out]
    rw [hk] at ha
    clear h hsg hf HE hk
    go_enter Tryz.func105, Tryz.ntmps105
    go_wp2_with (go_at_call 37; fail)
    refine ha.mono ?_
    rintro e w1 ⟨rfl, rfl⟩
    clear ha
    go_wp2
    go_ret
    exact ⟨rfl, Below.refl _ _⟩
  | true =>
  have HE : Hid (attrR (v :: r) = match inSqR v.kids with | some s => some ([s], 1) | none => none) := by rw [Hid, attrR, if_pos hk]; rfl
  obtain ⟨a, n, cap, hn, hc1, hc2, h1, _, hs⟩ := h.see
  have c0 : W.cell? ⟨b, 0, none⟩ = some (.slice a n cap) := cellAt h1 0
  obtain ⟨hl, g, off, kv, rfl, q0, q1, q4, q5, hkv⟩ := hs 0 v rfl
  rw [Nat.zero_mul, Nat.add_zero] at q0 q1 q4 q5
  have hsq := inSq_any hkv hsg (hf.kids v (by simp))
  obtain ⟨a', cap', rfl, _, _⟩ := hkv.slice
  have HT : Hid (∀ l w3, Below W.heap.size W w3 → l.length ≤ 10 → Calls Tryz.prog 102 #[.pointer (some ⟨b, 0, none⟩), .int .i64 1, .slice (some ⟨w3.heap.size, 0, none⟩) l.length l.length] (w3.alloc (.cells (ssC l).toArray 40)) (Way lo W b kids (v :: r) (some (l, 1)))) := fun l w3 hB hl => told_lit h l 1 (by simp) hl w3 hB
  rw [HE.out]
  rw [hk] at ha
  generalize inSqR v.kids = R at *
  clear h h1 hs hn hk q0 q1 q4 hkv hf hsg HE
  go_enter Tryz.func105, Tryz.ntmps105
  go_wp2_with (go_at_call 37; fail)
  refine ha.mono ?_
  rintro e w1 ⟨rfl, rfl⟩
  clear ha
  go_wp2_with (go_at_call 110; fail)
  refine hsq.mono ?_
  rintro e w2 ⟨⟨s0, rfl, hag⟩, hB2⟩
  have hB3 : Below w1.heap.size w1 (w2.alloc (.cells (sC s0).toArray 40)) := hB2.alloc hB2.size _
  unfold sC s7 at hB3
  simp only [List.toArray] at hB3 ⊢
  unfold sC s7
  cases R with
  | none =>
    have HB3 := hid_mk hB3
    obtain ⟨s1, s2, s3, s4, s5, s6⟩ := s0
    clear hsq HT hag q5 c0 hB2 hB3
    simp only [Option.isSome_none]
    dsimp only at HB3
    go_wp2
    go_ret
    exact ⟨rfl, HB3.out⟩
  | some s =>
    have hag := hag s rfl
    subst hag
    have htl := HT.out [s0] _ hB3 (by simp)
    rw [alloc_size] at htl
    clear hsq HT hB2 hB3 q5 c0
    obtain ⟨s1, s2, s3, s4, s5, s6⟩ := s0
    unfold ssC sC s7 at htl
    simp only [List.flatMap_cons, List.flatMap_nil, List.append_nil] at htl
    simp only [Option.isSome_some]
    go_wp2_with (go_at_call 102; fail)
    refine htl.mono ?_
    rintro e w3 ⟨v', rfl, ho, hr⟩
    have HZ : Hid (Way lo w1 b kids (v :: r) (some ([⟨s1, s2, s3, s4, s5, s6⟩], 1)) (.returned v') w3) := ⟨v', rfl, ho, hr⟩
    clear htl ho hr
    go_wp2
    go_ret
    exact HZ.out

end Go.Proofs.YtdibldcnklgcjaaGreatDoor.L
namespace Go.Proofs.YtdibldcnklgcjaaGreatDoor.L
open Go.RowKit
set_option maxRecDepth 100000

def kidTk (t : N.Tk) : N.Tk := ⟨t.k, t.tx, t.un, t.wh, t.fl, .slice none 0 0⟩
theorem gathered_kid : ∀ ts : List N.Tk, N.gathered (ts.map kidTk) = N.gathered ts
  | [] => rfl
  | t :: r => by
    rw [List.map_cons, N.gathered, N.gathered, gathered_kid r]
    rfl
theorem VsAt.vals {P : Nat → Prop} {W : World} {v : Value} {vs : List V} (h : VsAt P W v vs) : ∃ ts, N.ValsAt W v ts ∧ N.gathered ts = N.gathered (vs.map toTk) ∧ ts.length = vs.length ∧ ∀ t ∈ ts, ∃ u ∈ vs, t.tx = u.tok.tx ∧ t.un = u.tok.un := by
  cases h with
  | mk a cap vs b off kv h1 h2 ha hc hr =>
    have hl : (vs.mapIdx fun i v => (⟨v.tok.k, v.tok.tx, v.tok.un, v.tok.wh, v.tok.fl, kv i⟩ : N.Tk)).length = vs.length := by simp
    refine ⟨vs.mapIdx fun i v => ⟨v.tok.k, v.tok.tx, v.tok.un, v.tok.wh, v.tok.fl, kv i⟩, ⟨a, cap, by rw [hl], by rw [hl]; exact h1, h2, fun t ht => ?_, fun h0 => ?_⟩, ?_, hl, fun t ht => ?_⟩
    · obtain ⟨i, hi, rfl⟩ := List.mem_mapIdx.1 ht
      obtain ⟨a', c', e, _, _⟩ := (hr i hi).slice
      simp only []
      rw [e]
      exact ⟨a', _, c', rfl⟩
    · rw [hl] at h0
      obtain ⟨e, hb, _⟩ := ha h0
      refine ⟨b, off, e, hb, fun i hi j y hy => ?_⟩
      rw [hl] at hi
      refine hc i hi j y ?_
      rw [← hy]
      simp [N.tkCells, vCells]
    · rw [← gathered_kid]
      congr 1
      refine List.ext_getElem (by simp) fun i h1 h2 => ?_
      simp [kidTk, toTk]
    · obtain ⟨i, hi, rfl⟩ := List.mem_mapIdx.1 ht
      exact ⟨_, List.getElem_mem hi, rfl, rfl⟩
theorem fnR_at {vs : List V} (h : fnR vs ≠ 0) : ∃ u, vs[1]? = some u ∧ 2 ≤ vs.length := by
  unfold fnR at h
  cases hu : vs[1]? with
  | none => rw [hu] at h; exact absurd rfl h
  | some u => exact ⟨u, rfl, (List.getElem?_eq_some_iff.1 hu).1⟩

set_option maxHeartbeats 1000000 in
theorem place_any {W : World} {lo b : Nat} {kids : Value} {vs : List V} (h : Rd lo W b kids vs W) (hsg : Signs W) (hf : Fit vs) :
    Calls Tryz.prog 107 #[.pointer (some ⟨b, 0, none⟩)] W (Way lo W b kids vs (placeR vs)) := by
  have hfn := function_any h hsg hf.tx'
  cases hp : plcB (fnR vs) with
  | false =>
    have HE : Hid (placeR vs = none) := by
      rw [Hid]
      unfold placeR
      cases vs[1]? with
      | none => rfl
      | some u => simp only [hp, Bool.false_and]; rfl
    rw [HE.out]
    generalize fnR vs = z at *
    have n1 : (z != 8) = true := by
      rw [bne_iff_ne]
      rintro rfl
      cases hp
    have n2 : (z != 9) = true := by
      rw [bne_iff_ne]
      rintro rfl
      cases hp
    clear h hsg hf HE hp
    go_enter Tryz.func107, Tryz.ntmps107
    go_wp2_with (go_at_call 111; fail)
    refine hfn.mono ?_
    rintro e w1 ⟨rfl, hB1⟩
    have HB := hid_mk hB1
    clear hfn hB1
    go_wp2
    go_ret
    exact ⟨rfl, HB.out⟩
  | true =>
  have hz : fnR vs = 8 ∨ fnR vs = 9 := by simpa [plcB] using hp
  obtain ⟨u, hu, hlen⟩ := fnR_at (vs := vs) (by rcases hz with e | e <;> rw [e] <;> decide)
  have HE0 : Hid (placeR vs = if (nthR u.kids).2.2 = true then some ([⟨fnR vs, ⟨#[]⟩, 0, ⟨#[]⟩, (nthR u.kids).1, (nthR u.kids).2.1⟩], 2) else none) := by
    rw [Hid]
    unfold placeR
    rw [hu]
    simp only [hp, Bool.true_and]
  have hfu := hf.kids u (List.mem_of_getElem? hu)
  have HT : Hid (∀ l w3, Below W.heap.size W w3 → l.length ≤ 10 → Calls Tryz.prog 102 #[.pointer (some ⟨b, 0, none⟩), .int .i64 2, .slice (some ⟨w3.heap.size, 0, none⟩) l.length l.length] (w3.alloc (.cells (ssC l).toArray 40)) (Way lo W b kids vs (some (l, 2)))) := fun l w3 hB hl => told_lit h l 2 hlen hl w3 hB
  have HR := hid_mk h
  have HNT : Hid (∀ w (kv : Value), VsAt (· < min lo b) w kv u.kids → Calls Tryz.prog 112 #[kv] w fun e w' => e = .returned (.tuple #[.int .i64 (nthR u.kids).1, .int .i64 (nthR u.kids).2.1, .bool (nthR u.kids).2.2]) ∧ Below w.heap.size w w') := fun w kv hkv => by
    obtain ⟨ts, h1, h2, h3, h4⟩ := VsAt.vals hkv
    have hq := N.parse_any w kv ts h1 (by rw [h3]; exact hfu.len) (fun t ht => by
      obtain ⟨x, hx, e1, e2⟩ := h4 t ht
      rw [e1, e2]
      exact hfu.tx x hx)
    unfold nthR
    rw [← h2]
    exact hq
  generalize nthR u.kids = q at *
  generalize placeR vs = R at *
  generalize fnR vs = z at *
  clear h hsg hf hp hfu
  go_enter Tryz.func107, Tryz.ntmps107
  go_wp2_with (go_at_call 111; fail)
  refine hfn.mono ?_
  rintro e w1 ⟨rfl, hB1⟩
  obtain ⟨a, n, cap, hn, hc1, hc2, h1, _, hs⟩ := (HR.out.then hB1).see
  have c0 : w1.cell? ⟨b, 0, none⟩ = some (.slice a n cap) := cellAt h1 0
  obtain ⟨hl, g, off, kv, rfl, q0, q1, q4, q5, hkv⟩ := hs 1 u hu
  rw [Nat.one_mul] at q0 q1 q4 q5
  have hnt := HNT.out w1 kv hkv
  obtain ⟨a', cap', rfl, _, _⟩ := hkv.slice
  have HB := hid_mk hB1
  clear hfn hB1 HR HNT h1 hs hn q0 q1 q4 hkv hu
  have hzz : (z != 8) = false ∨ ((z != 8) = true ∧ (z != 9) = false) := by
    rcases hz with e | e
    · exact .inl (by rw [e]; rfl)
    · exact .inr ⟨by rw [e]; rfl, by rw [e]; rfl⟩
  clear hz
  rcases hzz with n1 | ⟨n1, n2⟩
  all_goals
    go_wp2_with (go_at_call 112; fail)
    refine hnt.mono ?_
    rintro e w2 ⟨rfl, hB2⟩
    have HB2 : Hid (Below W.heap.size W w2) := HB.out.trans (hB2.mono HB.out.size)
    clear hnt hB2 HB q5 c0
    obtain ⟨qa, qb, qc⟩ := q
    cases qc with
    | false =>
      have HE : Hid (R = none) := by rw [Hid, HE0.out, if_neg (by simp)]
      clear HT HE0
      simp only []
      go_wp2
      go_ret
      rw [HE.out]
      exact ⟨rfl, HB2.out⟩
    | true =>
      simp only []
      have HE : Hid (R = some ([⟨z, ⟨#[]⟩, 0, ⟨#[]⟩, qa, qb⟩], 2)) := by rw [Hid, HE0.out, if_pos rfl]
      clear HE0
      have htl := HT.out [⟨z, ⟨#[]⟩, 0, ⟨#[]⟩, qa, qb⟩] w2 HB2.out (by simp)
      clear HT
      rw [show (ssC [⟨z, ⟨#[]⟩, 0, ⟨#[]⟩, qa, qb⟩]).toArray = #[.int .i64 z, .string ⟨#[]⟩, .int .i64 0, .string ⟨#[]⟩, .int .i64 qa, .int .i64 qb, .slice none 0 0] from rfl] at htl
      go_wp2_with (go_at_call 102; fail)
      refine htl.mono ?_
      rintro e w3 ⟨v', rfl, ho, hr⟩
      have HZ := hid_mk (show Way lo W b kids vs (some ([⟨z, ⟨#[]⟩, 0, ⟨#[]⟩, qa, qb⟩], 2)) (.returned v') w3 from ⟨v', rfl, ho, hr⟩)
      clear htl ho hr
      go_wp2
      go_ret
      rw [HE.out]
      exact HZ.out
end Go.Proofs.YtdibldcnklgcjaaGreatDoor.L
