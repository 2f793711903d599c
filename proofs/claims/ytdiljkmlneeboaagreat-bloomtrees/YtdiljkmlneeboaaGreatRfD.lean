/- The document's tree: a list of elements in memory; an element's place. The document's Node. The document's tree and the elements by their numbers; Depth, below. -/
import Derived.Test.YtdiljkmlneeboaaGreatPakN
import Derived.Test.YtdiljkmlneeboaaGreatPlcN
namespace Go.Proofs.YtdiljkmlneeboaaGreat.N
open Go.RowKit
set_option maxRecDepth 100000

def c5 (s : N5) : List Value := [.int .i64 s.id, .string s.tag, .int .i64 s.par, .slice s.ka s.kn s.kc, .slice s.aa s.an s.ac]
theorem flat5_len (ss : List N5) : (ss.flatMap c5).length = ss.length * 5 := by
  induction ss with
  | nil => rfl
  | cons s r ih => rw [List.flatMap_cons, List.length_append, ih, List.length_cons]; simp [c5]; omega
theorem flat5_at : ∀ (ss : List N5) (i : Nat) (h : i < ss.length) (j : Nat), j < 5 → (ss.flatMap c5)[i * 5 + j]? = (c5 ss[i])[j]?
  | s :: r, 0, _, j, hj => by
    rw [List.flatMap_cons, Nat.zero_mul, Nat.zero_add, List.getElem?_append_left (by simpa [c5] using hj)]
    rfl
  | s :: r, i + 1, h, j, hj => by
    rw [List.flatMap_cons, List.getElem?_append_right (by simp [c5]; omega)]
    have := flat5_at r i (by simpa using h) j hj
    rw [show (i + 1) * 5 + j - (c5 s).length = i * 5 + j by simp [c5]; omega, this]
    rfl
theorem flat5_one (ss : List N5) : ∀ u ∈ ss.flatMap c5, u.oneCell' = true := by
  intro u hu
  obtain ⟨s, _, h⟩ := List.mem_flatMap.1 hu
  simp only [c5, List.mem_cons, List.not_mem_nil, or_false] at h
  rcases h with rfl | rfl | rfl | rfl | rfl <;> rfl
/-- A slice of elements, with their lists. -/
def LsAt (w : World) (a : Option Addr) (n c : Nat) (es : List El) : Prop := ∃ ss : List N5, RowAt w 5 a n c (ss.flatMap c5) ∧ ss.length = es.length ∧ ∀ i (h : i < es.length) (h' : i < ss.length), ElAt w ss[i] es[i]
theorem LsAt.keep {w w' : World} {a : Option Addr} {n c : Nat} {es : List El} (h : LsAt w a n c es) (hb : Below w.heap.size w w') : LsAt w' a n c es := by
  obtain ⟨ss, h1, h2, h3⟩ := h
  exact ⟨ss, h1.keep hb, h2, fun i hi hi' => (h3 i hi hi').keep hb⟩
theorem LsAt.len {w : World} {a : Option Addr} {n c : Nat} {es : List El} (h : LsAt w a n c es) : n = es.length := by
  obtain ⟨ss, h1, h2, _⟩ := h
  have := h1.1
  rw [flat5_len] at this
  omega
theorem LsAt.cap {w : World} {a : Option Addr} {n c : Nat} {es : List El} (h : LsAt w a n c es) : n ≤ c ∧ c ≤ 9223372036854775807 := by
  obtain ⟨ss, h1, _⟩ := h
  have := h1.2.2.1
  unfold maxLen at this
  exact ⟨h1.2.1, by omega⟩
theorem LsAt.at {w : World} {a : Option Addr} {n c : Nat} {es : List El} (h : LsAt w a n c es) {i : Nat} (hi : i < es.length) : ∃ (s : N5) (ab ao : Nat), a = some ⟨ab, ao, none⟩ ∧ ab < w.heap.size ∧ ElAt w s es[i] ∧
    w.cell? ⟨ab, ao + i * 5, none⟩ = some (.int .i64 s.id) ∧ w.cell? ⟨ab, ao + i * 5 + 1, none⟩ = some (.string s.tag) ∧ w.cell? ⟨ab, ao + i * 5 + 2, none⟩ = some (.int .i64 s.par) ∧ w.cell? ⟨ab, ao + i * 5 + 3, none⟩ = some (.slice s.ka s.kn s.kc) ∧ w.cell? ⟨ab, ao + i * 5 + 4, none⟩ = some (.slice s.aa s.an s.ac) := by
  have hn := h.len
  obtain ⟨ss, h1, h2, h3⟩ := h
  have hi' : i < ss.length := by omega
  rcases h1.2.2.2.2 with ⟨_, h0⟩ | ⟨ab, ao, e1, l1, g1⟩
  · have := h1.2.1
    omega
  · refine ⟨ss[i], ab, ao, e1, l1, h3 i hi hi', ?_, ?_, ?_, ?_, ?_⟩
    · have := g1 (i * 5 + 0) _ ((flat5_at ss i hi' 0 (by omega)).trans rfl)
      rwa [Nat.add_zero] at this
    · have := g1 (i * 5 + 1) _ ((flat5_at ss i hi' 1 (by omega)).trans rfl)
      rwa [← Nat.add_assoc] at this
    · have := g1 (i * 5 + 2) _ ((flat5_at ss i hi' 2 (by omega)).trans rfl)
      rwa [← Nat.add_assoc] at this
    · have := g1 (i * 5 + 3) _ ((flat5_at ss i hi' 3 (by omega)).trans rfl)
      rwa [← Nat.add_assoc] at this
    · have := g1 (i * 5 + 4) _ ((flat5_at ss i hi' 4 (by omega)).trans rfl)
      rwa [← Nat.add_assoc] at this
/-- The document's tree. -/
def RDoc (w : World) (rp : Value) (L : List El) (nx : Int) : Prop := ∃ b a n c, rp = .pointer (some ⟨b, 0, none⟩) ∧ w.heap[b]? = some (.cells #[.slice a n c, .int .i64 nx] 126 (0, 0)) ∧ LsAt w a n c L
theorem RDoc.keep {w w' : World} {rp : Value} {L : List El} {nx : Int} (h : RDoc w rp L nx) (hb : Below w.heap.size w w') : RDoc w' rp L nx := by
  obtain ⟨b, a, n, c, e, h1, h2⟩ := h
  exact ⟨b, a, n, c, e, (hb.block _ (Array.getElem?_eq_some_iff.1 h1).1).trans h1, h2.keep hb⟩
theorem RDoc.cells {w : World} {rp : Value} {L : List El} {nx : Int} (h : RDoc w rp L nx) : ∃ b a n c, rp = .pointer (some ⟨b, 0, none⟩) ∧ b < w.heap.size ∧ LsAt w a n c L ∧ n = L.length ∧ n ≤ c ∧ c ≤ 9223372036854775807 ∧ ∀ W, Below w.heap.size w W → W.cell? ⟨b, 0, none⟩ = some (.slice a n c) ∧ W.cell? ⟨b, 1, none⟩ = some (.int .i64 nx) := by
  obtain ⟨b, a, n, c, e, h1, h2⟩ := h
  have hl := (Array.getElem?_eq_some_iff.1 h1).1
  refine ⟨b, a, n, c, e, hl, h2, h2.len, h2.cap.1, h2.cap.2, fun W hW => ?_⟩
  have := (hW.block _ hl).trans h1
  constructor <;> simp [World.cell?, this]

/-- An element's place; below 0: there is none. -/
def atZ (L : List El) (id : Int) : Int := match L.findIdx? (fun e => e.id == id) with
  | some i => i
  | none => -1
theorem atZ_some {L : List El} {id : Int} {t : Nat} (h : t < L.length) (he : L[t].id = id) (hno : ∀ j (hj : j < L.length), j < t → L[j].id ≠ id) : atZ L id = t := by
  have : L.findIdx? (fun e => e.id == id) = some t := by
    rw [List.findIdx?_eq_some_iff_getElem]
    exact ⟨h, by simp [he], fun j hj => by simpa using hno j (by omega) hj⟩
  unfold atZ
  rw [this]
theorem atZ_none {L : List El} {id : Int} (hno : ∀ j (hj : j < L.length), L[j].id ≠ id) : atZ L id = -1 := by
  have : L.findIdx? (fun e => e.id == id) = none := by
    rw [List.findIdx?_eq_none_iff]
    intro e he
    obtain ⟨j, hj, rfl⟩ := List.getElem_of_mem he
    simpa using hno j hj
  unfold atZ
  rw [this]
theorem ret_int {a c : Int} (h : a = c) : Ending.returned (.int .i64 a) = .returned (.int .i64 c) := by rw [h]

set_option maxHeartbeats 4000000 in
theorem rat_any {w : World} {rp : Value} {L : List El} {nx : Int} (h : RDoc w rp L nx) (id : Int) : Calls Tryz.prog 74 #[rp, .int .i64 id] w fun x w' => x = .returned (.int .i64 (atZ L id)) ∧ Below w.heap.size w w' := by
  obtain ⟨b, a, n, c, rfl, hbl, hL, rfl, hnc, hcm, hcell⟩ := h.cells
  obtain ⟨y0, _⟩ := hcell w (Below.refl _ _)
  have HC : Hid (∀ w', Below w.heap.size w w' → ∀ i (hi : i < L.length), ∃ (s : N5) (ab ao : Nat), a = some ⟨ab, ao, none⟩ ∧ s.id = L[i].id ∧ w'.cell? ⟨ab, ao + i * 5, none⟩ = some (.int .i64 s.id) ∧ w'.cell? ⟨ab, ao + i * 5 + 1, none⟩ = some (.string s.tag) ∧ w'.cell? ⟨ab, ao + i * 5 + 2, none⟩ = some (.int .i64 s.par) ∧ w'.cell? ⟨ab, ao + i * 5 + 3, none⟩ = some (.slice s.ka s.kn s.kc) ∧ w'.cell? ⟨ab, ao + i * 5 + 4, none⟩ = some (.slice s.aa s.an s.ac)) := fun w' hw' i hi => by
    obtain ⟨s, ab, ao, e, _, hE, g0, g1, g2, g3, g4⟩ := (hL.keep hw').at hi
    exact ⟨s, ab, ao, e, hE.1, g0, g1, g2, g3, g4⟩
  clear hL hcell h
  go_enter Tryz.func74, Tryz.ntmps74
  go_wp2
  go_loopw [12] (fun a12 wq => ∃ t : Nat, t ≤ L.length ∧ a12 = .int .i64 (t : Int) ∧ Hid (Below w.heap.size w wq) ∧ Hid (∀ j (hj : j < L.length), j < t → L[j].id ≠ id)) (fun a12 _ => L.length + 1 - (intOf a12).toNat)
  case atStart => exact ⟨0, Nat.zero_le _, rfl, hid_mk (Below.refl _ _), fun j _ h => absurd h (by omega)⟩
  case round =>
    obtain ⟨t, ht, rfl, HB, HNO⟩ := hrel
    by_cases htl : t < L.length
    · obtain ⟨s, ab, ao, rfl, hid, g0, g1, g2, g3, g4⟩ := HC.out wr HB.out t htl
      have HB2 : Hid (Below w.heap.size w (wr.alloc (.cells #[.int .i64 s.id, .string s.tag, .int .i64 s.par, .slice s.ka s.kn s.kc, .slice s.aa s.an s.ac] 76))) := HB.out.alloc HB.out.size _
      by_cases hq : L[t].id = id
      · have hb : (s.id == id) = true := by rw [hid]; simpa using hq
        have HE := hid_mk (atZ_some htl hq HNO.out)
        clear hq hid HC HNO y0
        go_wp2
        go_ret
        exact ⟨ret_int HE.out.symm, HB2.out⟩
      · have hb : (s.id == id) = false := by rw [hid]; simpa using hq
        have HN2 : Hid (∀ j (hj : j < L.length), j < t + 1 → L[j].id ≠ id) := fun j hj hjt => by
          by_cases h1 : j < t
          · exact HNO.out j hj h1
          · obtain rfl : j = t := by omega
            exact hq
        clear hq hid HC HNO y0
        go_wp2
        exact ⟨⟨t + 1, htl, by go_num, HB2, HN2⟩, by simp only [intOf]; omega⟩
    · have HE := hid_mk (atZ_none (L := L) (id := id) fun j hj => HNO.out j hj (by omega))
      clear HC HNO
      go_wp2
      go_ret
      exact ⟨ret_int HE.out.symm, HB.out⟩

end Go.Proofs.YtdiljkmlneeboaaGreat.N
namespace Go.Proofs.YtdiljkmlneeboaaGreat.N
open Go.RowKit
set_option maxRecDepth 100000

def findL (L : List El) (id : Int) : Option El := L.find? fun e => e.id == id
theorem at_cases (L : List El) (id : Int) : (atZ L id = -1 ∧ findL L id = none) ∨ ∃ (t : Nat) (h : t < L.length), atZ L id = t ∧ findL L id = some L[t] := by
  unfold atZ findL
  cases hf : L.findIdx? (fun e => e.id == id) with
  | none =>
    refine .inl ⟨rfl, ?_⟩
    rw [List.findIdx?_eq_none_iff] at hf
    rw [List.find?_eq_none]
    intro e he
    simpa using hf e he
  | some t =>
    obtain ⟨h, h1, h2⟩ := List.findIdx?_eq_some_iff_getElem.1 hf
    refine .inr ⟨t, h, rfl, ?_⟩
    rw [List.find?_eq_some_iff_getElem]
    exact ⟨h1, t, h, rfl, fun j hj => by simpa using h2 j hj⟩
theorem info3r : ∃ i z, Tryz.prog.info? 3 = some i ∧ i.zero = some z ∧ i.size = 1 ∧ i.bytes = 8 ∧ z = .int .i64 0 := ⟨_, _, by rfl, by rfl, by rfl, by rfl, rfl⟩
theorem info56r : ∃ i z, Tryz.prog.info? 128 = some i ∧ i.zero = some z ∧ i.size = 2 ∧ i.bytes = 32 ∧ z.cells.size = 2 := ⟨_, _, by rfl, by rfl, by rfl, by rfl, rfl⟩

theorem own_empty (W : World) (e : TypeId) (size : Nat) : (W.alloc (.cells #[] e)).ownsRow W.heap.size e size (.slice (some ⟨W.heap.size, 0, none⟩) 0 0) 0 [] :=
  ⟨by simp, .inr ⟨W.heap.size, 0, #[], rfl, Nat.le_refl _, heap_alloc_last W _, Nat.le_refl _, Nat.zero_le _, by simp, by simp⟩⟩
set_option maxHeartbeats 4000000 in
theorem rnode_any {w : World} {rp : Value} {L : List El} {nx : Int} (h : RDoc w rp L nx) (id : Int) (hks : ∀ e ∈ L, e.ks.length ≤ 200000 ∧ e.us.length ≤ 1000) : Calls Tryz.prog 33 #[rp, .int .i64 id] w fun x w' => ∃ s : N5, x = .returned (.tuple #[.agg #[.int .i64 s.id, .string s.tag, .int .i64 s.par, .slice s.ka s.kn s.kc, .slice s.aa s.an s.ac], .bool (findL L id).isSome]) ∧ ElAt w' s ((findL L id).getD zeroEl) ∧ (NewAt w.heap.size s.ka ∧ NewAt w.heap.size s.aa) ∧ Below w.heap.size w w' := by
  have hal : Below w.heap.size w (w.alloc (.cells #[.int .i64 0, .string ⟨#[]⟩, .int .i64 0, .slice none 0 0, .slice none 0 0] 76)) := (Below.refl _ w).alloc (Nat.le_refl _) _
  have hx := heap_alloc_last w (.cells #[.int .i64 0, .string ⟨#[]⟩, .int .i64 0, .slice none 0 0, .slice none 0 0] 76)
  have hf := rat_any (h.keep hal) id
  obtain ⟨b, a, n, c, rfl, hbl, hL, rfl, hnc, hcm, hcell⟩ := h.cells
  have HX := hid_mk hx
  have HAL := hid_mk hal
  have HL := hid_mk hL
  have HCL := hid_mk hcell
  clear hx hal hL hcell h
  rcases at_cases L id with ⟨e1, e2⟩ | ⟨t, ht, e1, e2⟩
  · rw [e1] at hf
    rw [e2]
    clear e1 e2 HL HCL
    go_enter Tryz.func33, Tryz.ntmps33
    go_wp2_with (go_at_call 74; fail)
    generalize w.alloc (.cells #[.int .i64 0, .string ⟨#[]⟩, .int .i64 0, .slice none 0 0, .slice none 0 0] 76) = WR at *
    refine hf.mono ?_
    rintro e w1 ⟨rfl, hb1⟩
    have hB1 : Below w.heap.size w w1 := HAL.out.trans (hb1.mono HAL.out.size)
    have hwr : w.heap.size < WR.heap.size := (Array.getElem?_eq_some_iff.1 HX.out).1
    have hR := (hb1.block w.heap.size hwr).trans HX.out
    have HB1 := hid_mk hB1
    have HR := hid_mk hR
    clear hb1 hf hR hB1 HX HAL
    obtain ⟨⟨y0, y1, y2, y3, y4⟩, x0, x1, x2, x3, x4⟩ := zero_cells5 HR.out
    have hRl : w.heap.size < w1.heap.size := (Array.getElem?_eq_some_iff.1 HR.out).1
    go_wp2
    refine bodyPost_ret (v := .tuple #[.agg #[.int .i64 0, .string ⟨#[]⟩, .int .i64 0, .slice none 0 0, .slice none 0 0], .bool false]) (by simp [results, Tryz.results33, go_sem, y0, y1, y2, y3, y4]) rfl ⟨zeroS, rfl, zero_el _, ⟨(fun x e => by cases e), (fun x e => by cases e)⟩, below_five HB1.out _ _ _ _ _⟩
  · rw [e1] at hf
    rw [e2]
    clear e1 e2
    go_enter Tryz.func33, Tryz.ntmps33
    go_wp2_with (go_at_call 74; fail)
    generalize w.alloc (.cells #[.int .i64 0, .string ⟨#[]⟩, .int .i64 0, .slice none 0 0, .slice none 0 0] 76) = WR at *
    refine hf.mono ?_
    rintro e w1 ⟨rfl, hb1⟩
    have hB1 : Below w.heap.size w w1 := HAL.out.trans (hb1.mono HAL.out.size)
    have hwr : w.heap.size < WR.heap.size := (Array.getElem?_eq_some_iff.1 HX.out).1
    have hR := (hb1.block w.heap.size hwr).trans HX.out
    have HB1 := hid_mk hB1
    have HR := hid_mk hR
    clear hb1 hf hR hB1 HX HAL
    obtain ⟨s, ab, ao, rfl, hal, hE, g0, g1, g2, g3, g4⟩ := (HL.out.keep HB1.out).at ht
    obtain ⟨hk1, hk2⟩ := hks _ (List.getElem_mem ht)
    obtain ⟨c0, _⟩ := HCL.out w1 HB1.out
    have hkn := hE.kn
    have han := hE.an
    generalize hel : L[t] = el at *
    have HEL := hid_mk hel
    clear hel
    obtain ⟨id0, tag0, par0, ka, kn, kc, aa, an, ac⟩ := s
    dsimp only at *
    have hk1' : kn ≤ 200000 := by omega
    have hk2' : an ≤ 1000 := by omega
    clear hkn han hk1 hk2
    obtain ⟨W2, hW2⟩ : ∃ W2, W2 = w1.alloc (.cells #[.int .i64 id0, .string tag0, .int .i64 par0, .slice ka kn kc, .slice aa an ac] 76) := ⟨_, rfl⟩
    have hN2 : NodeAt W2 w1.heap.size ⟨id0, tag0, par0, ka, kn, kc, aa, an, ac⟩ := by rw [hW2]; exact heap_alloc_last w1 _
    have hA12 : Below w1.heap.size w1 W2 := by rw [hW2]; exact (Below.refl _ _).alloc (Nat.le_refl _) _
    have hsz2 : W2.heap.size = w1.heap.size + 1 := by rw [hW2]; simp
    have hRl : w.heap.size < w1.heap.size := (Array.getElem?_eq_some_iff.1 HR.out).1
    have HE1 := hid_mk hE
    have HW2 := hid_mk hW2
    have HB12 := hid_mk hA12
    have HN2 := hid_mk hN2
    have HZ2 := hid_mk hsz2
    clear hE hA12 HL HCL hW2 hN2 hsz2
    go_upto_region 5 with (fail)
    rw [← HW2.out]
    clear g0 g1 g2 g3 g4 c0
    obtain ⟨i3, z3, hi0, hz0, hz1, hz2, rfl⟩ := info3r
    have hgl : w1.heap.size < W2.heap.size := by rw [HZ2.out]; omega
    have hBa : Below W2.heap.size W2 (W2.alloc (.cells #[] 3)) := (Below.refl _ _).alloc (Nat.le_refl _) _
    have hown := own_empty W2 3 1
    have hrow := (HE1.out.2.2.2.1).keep (HB12.out.trans (hBa.mono HB12.out.size))
    have hBs : W2.heap.size ≤ (W2.alloc (.cells #[] 3)).heap.size := hBa.size
    have HBa := hid_mk hBa
    have HOW := hid_mk hown
    have k3 := ((NodeAt.cells ((hBa.block _ hgl).trans HN2.out)).1).2.2.2.1
    dsimp only at k3 hrow
    clear hBa
    go_upto_region 6 with (at_builtin; go_must (refine wpList_append_rowAt rfl _ _ 43 rfl (B := W2.heap.size) Tryz.underlying43 hi0 hz0 hz1 hz2 rfl (by decide) (by decide) rfl rfl hown hrow (by omega) hBs ?_); intro v' w3 hown3 hgrow3 _; rw [Nat.zero_add, List.nil_append] at hown3; obtain ⟨a3, c3, rfl, hr3, hw3⟩ := RowAt.of_owns hown3 (intsV_one _); have HB23 : Hid (Below W2.heap.size W2 w3) := HBa.out.grown hgrow3 HBa.out.size (fun k hk => (hown.lt k hk).1); have HN3 : Hid (NodeAt w3 w1.heap.size ⟨id0, tag0, par0, ka, kn, kc, aa, an, ac⟩) := (HB23.out.block _ hgl).trans HN2.out; obtain ⟨⟨_, _, _, p3, _⟩, _, _, _, q3, _, _⟩ := HN3.out.cells; dsimp only at p3; have HR3 := hid_mk hr3; have HNW := hid_mk hw3; clear hown3 hgrow3 hr3 hw3)
    obtain ⟨W4, hW4⟩ : ∃ W4, W4 = w3.setCell ⟨w1.heap.size, 3, none⟩ (.slice a3 kn c3) := ⟨_, rfl⟩
    have HN4 : Hid (NodeAt W4 w1.heap.size ⟨id0, tag0, par0, a3, kn, c3, aa, an, ac⟩) := by rw [hW4]; exact heap_setCell_same w3 w1.heap.size 3 _ 76 (.slice a3 kn c3) HN3.out
    have HB14 : Hid (Below w1.heap.size w1 W4) := by rw [hW4]; exact (HB12.out.trans (HB23.out.mono HB12.out.size)).setCell (p := ⟨w1.heap.size, 3, none⟩) (Nat.le_refl _) _
    have HR4 : Hid (RowAt W4 1 a3 kn c3 (intsV el.ks)) := by rw [hW4]; exact HR3.out.set (o := 3) HNW.out hgl _
    have hgl4 : w1.heap.size < W4.heap.size := (Array.getElem?_eq_some_iff.1 HN4.out).1
    rw [← hW4]
    clear hW4 p3 q3 HR3 HN3 HB23 k3 hrow hown hBs HBa HOW hi0 hz0 hz1 hz2 HW2 HN2
    obtain ⟨i5, z5, hi0, hz0, hz1, hz2, hz3⟩ := info56r
    have hBb : Below W4.heap.size W4 (W4.alloc (.cells #[] 128)) := (Below.refl _ _).alloc (Nat.le_refl _) _
    have hown := own_empty W4 128 2
    have hrow := (HE1.out.2.2.2.2).keep (HB14.out.trans (hBb.mono HB14.out.size))
    have hBs : W4.heap.size ≤ (W4.alloc (.cells #[] 128)).heap.size := hBb.size
    have HBb := hid_mk hBb
    have k4 := ((NodeAt.cells ((hBb.block _ hgl4).trans HN4.out)).1).2.2.2.2
    dsimp only at k4 hrow
    clear hBb
    go_upto_region 7 with (at_builtin; go_must (refine wpList_append_rowAt rfl _ _ 74 rfl (B := W4.heap.size) Tryz.underlying74 hi0 hz0 hz1 hz2 hz3 (by decide) (by decide) rfl rfl hown hrow (by omega) hBs ?_); intro v' w5 hown5 hgrow5 _; rw [Nat.zero_add, List.nil_append] at hown5; obtain ⟨a5, c5, rfl, hr5, hw5⟩ := RowAt.of_owns hown5 (attrsV_one _); have HB45 : Hid (Below W4.heap.size W4 w5) := HBb.out.grown hgrow5 HBb.out.size (fun k hk => (hown.lt k hk).1); have HN5 : Hid (NodeAt w5 w1.heap.size ⟨id0, tag0, par0, a3, kn, c3, aa, an, ac⟩) := (HB45.out.block _ hgl4).trans HN4.out; obtain ⟨⟨_, _, _, _, p4⟩, _, _, _, _, q4, _⟩ := HN5.out.cells; dsimp only at p4; have HR5 := hid_mk hr5; have HNW5 := hid_mk hw5; clear hown5 hgrow5 hr5 hw5)
    obtain ⟨W6, hW6⟩ : ∃ W6, W6 = w5.setCell ⟨w1.heap.size, 4, none⟩ (.slice a5 an c5) := ⟨_, rfl⟩
    have hN6 : NodeAt W6 w1.heap.size ⟨id0, tag0, par0, a3, kn, c3, a5, an, c5⟩ := by rw [hW6]; exact heap_setCell_same w5 w1.heap.size 4 _ 76 (.slice a5 an c5) HN5.out
    have hB16 : Below w1.heap.size w1 W6 := by rw [hW6]; exact (HB14.out.trans (HB45.out.mono HB14.out.size)).setCell (p := ⟨w1.heap.size, 4, none⟩) (Nat.le_refl _) _
    have HRK : Hid (RowAt W6 1 a3 kn c3 (intsV el.ks)) := by rw [hW6]; exact (HR4.out.keep HB45.out).set (o := 4) HNW.out hgl _
    have HRA : Hid (RowAt W6 2 a5 an c5 (attrsV el.us)) := by rw [hW6]; exact HR5.out.set (o := 4) HNW5.out hgl4 _
    rw [← hW6]
    have hRz := (hB16.block _ hRl).trans HR.out
    obtain ⟨⟨y0, y1, y2, y3, y4⟩, x0, x1, x2, x3, x4⟩ := zero_cells5 hRz
    obtain ⟨⟨m0, m1, m2, m3, m4⟩, _⟩ := hN6.cells
    dsimp only at m0 m1 m2 m3 m4
    have HB6 : Hid (Below w.heap.size w W6) := HB1.out.trans (hB16.mono HB1.out.size)
    have hne : ¬ w.heap.size = w1.heap.size := Nat.ne_of_lt hRl
    have HG1 : Hid (w.heap.size < W2.heap.size ∧ w.heap.size < W4.heap.size) := ⟨Nat.lt_trans hRl hgl, Nat.lt_trans hRl hgl4⟩
    clear hW6 hRz hN6 hB16 p4 q4 k4 hown hrow hBs HBb HB45 HN5 HR4 HR5 HN4 HB14 HB12 HB1 HR hi0 hz0 hz1 hz2 hz3 hgl hgl4 HZ2 hal
    go_wp2
    have hel := HEL.out
    subst hel
    refine bodyPost_ret (v := .tuple #[.agg #[.int .i64 id0, .string tag0, .int .i64 par0, .slice a3 kn c3, .slice a5 an c5], .bool true]) (by simp [results, Tryz.results33, go_sem, y0, y1, y2, y3, y4]) rfl ⟨⟨id0, tag0, par0, a3, kn, c3, a5, an, c5⟩, rfl, ⟨HE1.out.1, HE1.out.2.1, HE1.out.2.2.1, ?_, ?_⟩, ⟨HNW.out.mono (Nat.le_of_lt HG1.out.1), HNW5.out.mono (Nat.le_of_lt HG1.out.2)⟩, below_five HB6.out _ _ _ _ _⟩
    · exact HRK.out.set5 HNW.out HG1.out.1 _ _ _ _ _
    · exact HRA.out.set5 HNW5.out HG1.out.2 _ _ _ _ _

end Go.Proofs.YtdiljkmlneeboaaGreat.N
namespace Go.Proofs.YtdiljkmlneeboaaGreat.N
open Go.RowKit
set_option maxRecDepth 100000

theorem ret_bl {a c : Bool} (h : a = c) : Ending.returned (.bool a) = .returned (.bool c) := by rw [h]
/-- The document's tree has the elements m, each once. -/
def RTree (w : World) (rp : Value) (L : List El) (m : M) (nx : Int) : Prop := RDoc w rp L nx ∧ (∀ id, findL L id = m id) ∧ (L.map (·.id)).Nodup ∧ ∃ d, Inv uOk m nx d
theorem RTree.keep {w w' : World} {rp : Value} {L : List El} {m : M} {nx : Int} (h : RTree w rp L m nx) (hb : Below w.heap.size w w') : RTree w' rp L m nx := ⟨h.1.keep hb, h.2⟩
theorem find_self {L : List El} (hn : (L.map (·.id)).Nodup) {e : El} (he : e ∈ L) : findL L e.id = some e := by
  unfold findL
  induction L with
  | nil => cases he
  | cons x r ih =>
    rw [List.map_cons, List.nodup_cons] at hn
    rw [List.find?_cons]
    rcases List.mem_cons.1 he with rfl | hr
    · simp
    · have hne : x.id ≠ e.id := fun h => hn.1 (h ▸ List.mem_map_of_mem hr)
      have : (x.id == e.id) = false := by simpa using hne
      rw [this]
      exact ih hn.2 hr
theorem find_id {L : List El} {id : Int} {e : El} (h : findL L id = some e) : e ∈ L ∧ e.id = id := by
  unfold findL at h
  exact ⟨List.mem_of_find?_eq_some h, by simpa using List.find?_some h⟩
theorem RTree.mem {w : World} {rp : Value} {L : List El} {m : M} {nx : Int} (h : RTree w rp L m nx) {e : El} (he : e ∈ L) : m e.id = some e := by
  rw [← h.2.1]
  exact find_self h.2.2.1 he
theorem RTree.small {w : World} {rp : Value} {L : List El} {m : M} {nx : Int} (h : RTree w rp L m nx) : ∀ e ∈ L, e.ks.length ≤ 200000 ∧ e.us.length ≤ 1000 := fun e he => by
  have hm := h.mem he
  obtain ⟨_, _, _, d, I⟩ := h
  have h1 := I.ksLen hm
  have h2 := I.nxb
  have h3 := (I.us hm).1
  omega
theorem rt_node {w : World} {rp : Value} {L : List El} {m : M} {nx : Int} (h : RTree w rp L m nx) (id : Int) : Calls Tryz.prog 33 #[rp, .int .i64 id] w fun x w' => ∃ s : N5, x = .returned (.tuple #[.agg #[.int .i64 s.id, .string s.tag, .int .i64 s.par, .slice s.ka s.kn s.kc, .slice s.aa s.an s.ac], .bool (m id).isSome]) ∧ ElAt w' s ((m id).getD zeroEl) ∧ (NewAt w.heap.size s.ka ∧ NewAt w.heap.size s.aa) ∧ Below w.heap.size w w' := by
  have := rnode_any h.1 id h.small
  rwa [h.2.1] at this

set_option maxHeartbeats 4000000 in
theorem rdepth_any {w : World} {rp : Value} {L : List El} {m : M} {nx : Int} (h : RTree w rp L m nx) (id : Int) : Calls Tryz.prog 103 #[rp, .int .i64 id] w fun x w' => x = .returned (.int .i64 (ups m id).length) ∧ Below w.heap.size w w' := by
  have HND : Hid (∀ w' (n : Int), Below w.heap.size w w' → _) := fun w' n hw' => rt_node (h.keep hw') n
  obtain ⟨d, I⟩ := h.2.2.2
  have HI := hid_mk I
  have HUP : Hid ((ups m id).length ≤ 512) := by
    show _ ≤ _
    cases e : m id with
    | none => rw [ups_none e]; simp
    | some q => rw [ups_len I e]; exact I.top e
  have hup := HUP.out
  clear I h
  go_enter Tryz.func103, Tryz.ntmps103
  go_wp2
  go_loopw [1, 5] (fun a1 a5 wq => ∃ (n : Int) (k : Nat), a1 = .int .i64 n ∧ a5 = .int .i64 (k : Int) ∧ k ≤ 512 ∧ Hid (k + (ups m n).length = (ups m id).length) ∧ Hid (Below w.heap.size w wq)) (fun a1 _ _ => (ups m (intOf a1)).length)
  case atStart => exact ⟨id, 0, rfl, rfl, by omega, Nat.zero_add _, hid_mk (Below.refl _ _)⟩
  case round =>
    obtain ⟨n, k, rfl, rfl, hk, HK, HB⟩ := hrel
    have hnd := HND.out wr n HB.out
    cases he : m n with
    | none =>
      rw [he] at hnd
      have HE : Hid ((k : Int) = ((ups m id).length : Int)) := by
        have := HK.out
        rw [ups_none he] at this
        show _ = _
        simp at this
        omega
      clear he HK HND HI hup HUP
      go_wp2_with (go_at_call 33; fail)
      refine hnd.mono ?_
      rintro x w2 ⟨s, rfl, _, _, hB2⟩
      have HB2 : Hid (Below w.heap.size w (w2.alloc (.cells #[.int .i64 s.id, .string s.tag, .int .i64 s.par, .slice s.ka s.kn s.kc, .slice s.aa s.an s.ac] 76))) := (HB.out.trans (hB2.mono HB.out.size)).alloc (HB.out.trans (hB2.mono HB.out.size)).size _
      clear hnd hB2
      go_wp2
      go_ret
      exact ⟨ret_int HE.out, HB2.out⟩
    | some el =>
      rw [he] at hnd
      have hu := ups_some HI.out he
      have HK2 : Hid (k + 1 + (ups m el.par).length = (ups m id).length) := by
        have := HK.out
        rw [hu, List.length_cons] at this
        show _ = _
        omega
      have HME : Hid ((ups m el.par).length < (ups m n).length) := by
        show _ < _
        rw [hu, List.length_cons]
        omega
      have hk2 : k + 1 ≤ 512 := by have := HK2.out; omega
      clear he HK HND HI hup HUP hu
      go_wp2_with (go_at_call 33; fail)
      refine hnd.mono ?_
      rintro x w2 ⟨s, rfl, hE0, _, hB2⟩
      have hpar : s.par = el.par := hE0.2.2.1
      obtain ⟨w3, hw3⟩ : ∃ w3, w3 = w2.alloc (.cells #[.int .i64 s.id, .string s.tag, .int .i64 s.par, .slice s.ka s.kn s.kc, .slice s.aa s.an s.ac] 76) := ⟨_, rfl⟩
      have HB3 : Hid (Below w.heap.size w w3) := by rw [hw3]; exact (HB.out.trans (hB2.mono HB.out.size)).alloc (HB.out.trans (hB2.mono HB.out.size)).size _
      have hN3 : NodeAt w3 w2.heap.size s := by rw [hw3]; exact heap_alloc_last w2 _
      obtain ⟨⟨_, _, n2, _, _⟩, _⟩ := hN3.cells
      rw [hpar] at n2
      have HW3 := hid_mk hw3
      clear hnd hE0 hB2 hw3 hN3 hpar HB
      go_upto_region 5 with (fail)
      rw [← HW3.out]
      go_wp2
      exact ⟨⟨el.par, k + 1, rfl, by go_num, hk2, HK2, HB3⟩, by simp only [intOf]; exact HME.out⟩

set_option maxHeartbeats 4000000 in
theorem rbelow_any {w : World} {rp : Value} {L : List El} {m : M} {nx : Int} (h : RTree w rp L m nx) (id top : Int) (ht : m top ≠ none) : Calls Tryz.prog 106 #[rp, .int .i64 id, .int .i64 top] w fun x w' => x = .returned (.bool (decide (top ∈ ups m id))) ∧ Below w.heap.size w w' := by
  have HND : Hid (∀ w' (n : Int), Below w.heap.size w w' → _) := fun w' n hw' => rt_node (h.keep hw') n
  obtain ⟨d, I⟩ := h.2.2.2
  have HI := hid_mk I
  have HT := hid_mk ht
  clear I h ht
  go_enter Tryz.func106, Tryz.ntmps106
  go_wp2
  go_loopw [1] (fun a1 wq => ∃ n : Int, a1 = .int .i64 n ∧ Hid (top ∈ ups m n ↔ top ∈ ups m id) ∧ Hid (Below w.heap.size w wq)) (fun a1 _ => (ups m (intOf a1)).length)
  case atStart => exact ⟨id, rfl, Iff.rfl, hid_mk (Below.refl _ _)⟩
  case round =>
    obtain ⟨n, rfl, HK, HB⟩ := hrel
    by_cases hq : n = top
    · have hb : (n == top) = true := by simpa using hq
      have HE : Hid (decide (top ∈ ups m id) = true) := by
        rw [Hid, decide_eq_true_iff, ← HK.out]
        obtain ⟨e, he⟩ := Option.ne_none_iff_exists'.1 HT.out
        rw [hq, ups_some HI.out he]
        simp
      clear HK HND HI HT hq
      go_wp2
      go_ret
      exact ⟨ret_bl HE.out.symm, HB.out⟩
    · have hb : (n == top) = false := by simpa using hq
      have hnd := HND.out wr n HB.out
      cases he : m n with
      | none =>
        rw [he] at hnd
        have HE : Hid (decide (top ∈ ups m id) = false) := by
          rw [Hid, decide_eq_false_iff_not, ← HK.out, ups_none he]
          simp
        clear he HK HND HI HT hq
        go_wp2_with (go_at_call 33; fail)
        refine hnd.mono ?_
        rintro x w2 ⟨s, rfl, _, _, hB2⟩
        have HB2 : Hid (Below w.heap.size w (w2.alloc (.cells #[.int .i64 s.id, .string s.tag, .int .i64 s.par, .slice s.ka s.kn s.kc, .slice s.aa s.an s.ac] 76))) := (HB.out.trans (hB2.mono HB.out.size)).alloc (HB.out.trans (hB2.mono HB.out.size)).size _
        clear hnd hB2
        go_wp2
        go_ret
        exact ⟨ret_bl HE.out.symm, HB2.out⟩
      | some el =>
        rw [he] at hnd
        have hu := ups_some HI.out he
        have HK2 : Hid (top ∈ ups m el.par ↔ top ∈ ups m id) := by
          rw [Hid, ← HK.out, hu, List.mem_cons]
          exact ⟨fun h => .inr h, fun h => h.resolve_left fun e => hq e.symm⟩
        have HME : Hid ((ups m el.par).length < (ups m n).length) := by
          show _ < _
          rw [hu, List.length_cons]
          omega
        clear he HK HND HI HT hq hu
        go_wp2_with (go_at_call 33; fail)
        refine hnd.mono ?_
        rintro x w2 ⟨s, rfl, hE0, _, hB2⟩
        have hpar : s.par = el.par := hE0.2.2.1
        obtain ⟨w3, hw3⟩ : ∃ w3, w3 = w2.alloc (.cells #[.int .i64 s.id, .string s.tag, .int .i64 s.par, .slice s.ka s.kn s.kc, .slice s.aa s.an s.ac] 76) := ⟨_, rfl⟩
        have HB3 : Hid (Below w.heap.size w w3) := by rw [hw3]; exact (HB.out.trans (hB2.mono HB.out.size)).alloc (HB.out.trans (hB2.mono HB.out.size)).size _
        have hN3 : NodeAt w3 w2.heap.size s := by rw [hw3]; exact heap_alloc_last w2 _
        obtain ⟨⟨_, _, n2, _, _⟩, _⟩ := hN3.cells
        rw [hpar] at n2
        have HW3 := hid_mk hw3
        clear hnd hE0 hB2 hw3 hN3 hpar HB
        go_upto_region 4 with (fail)
        rw [← HW3.out]
        go_wp2
        exact ⟨⟨el.par, rfl, HK2, HB3⟩, by simp only [intOf]; exact HME.out⟩

end Go.Proofs.YtdiljkmlneeboaaGreat.N
