/- The tables, as they are laid. -/
import Derived.Test.YtlhdapckenjigaaGreatDoorZCo
import Derived.Test.YtlhdapckenjigaaGreatDoorSMp
import Derived.ProofKit
import Derived.OpenShut
import Derived.LaidMore
import Derived.Lib.LaidTab
import Derived.FnData
namespace Go.Proofs.YtlhdapckenjigaaGreatDoor.Z
open Go.ChangeShapes Go.WideShapes Go.ChangeAt Go.RowKit
set_option maxRecDepth 100000

theorem head_of {a b : Value} (h : [a] = [b]) : a = b := by simpa using h
theorem k9 : Tryz.prog.cellsOf 9 = 1 := by kernel_rfl
theorem k172 : Tryz.prog.cellsOf 172 = 2 := by kernel_rfl
theorem k173 : Tryz.prog.cellsOf 173 = 16 := by kernel_rfl
theorem chunks : ∀ (n : Nat) (a b : List Value), a.length = 2 * n → b.length = 2 * n → (∀ i, i < n → (a.drop (i * 2)).take 2 = (b.drop (i * 2)).take 2) → a = b
  | 0, a, b, ha, hb, _ => by rw [List.length_eq_zero_iff.1 (by omega : a.length = 0), List.length_eq_zero_iff.1 (by omega : b.length = 0)]
  | n + 1, a, b, ha, hb, h => by
    have h0 := h 0 (by omega)
    rw [Nat.zero_mul, List.drop_zero, List.drop_zero] at h0
    have ih := chunks n (a.drop 2) (b.drop 2) (by rw [List.length_drop]; omega) (by rw [List.length_drop]; omega) fun i hi => by
      have := h (i + 1) (by omega)
      rw [List.drop_drop, List.drop_drop, show 2 + i * 2 = (i + 1) * 2 by omega]
      exact this
    rw [← List.take_append_drop 2 a, ← List.take_append_drop 2 b, h0, ih]
section
variable {H : Type} {enc : TypeId × Value → H} {W : World} {base : Nat} {sp : Nat → Bool} {held : Bool}
theorem row2 {m : Nat} {cs : List Value} {r s : List UInt8} {p : List MemPlace} (hf : DataW.trod enc Tryz.prog W base sp held m 172 cs = some (.agg [.lit (.string r), .lit (.string s)], p)) (hl : cs.length = 2) : cs = [.string ⟨r.toArray⟩, .string ⟨s.toArray⟩] := by
  obtain ⟨y0, y1, rfl⟩ : ∃ y0 y1, cs = [y0, y1] := by
    match cs, hl with
    | [a, b], _ => exact ⟨a, b, rfl⟩
  obtain ⟨xs, n, hmn, hx, hl2, hxl, hel⟩ := DataW.trod_struct Tryz.underlying172 hf
  have h0 := hel 0 _ rfl
  have h1 := hel 1 _ rfl
  have hxl2 : xs.length = 2 := hxl
  obtain ⟨x0, x1, rfl⟩ : ∃ x0 x1, xs = [x0, x1] := by
    match xs, hxl2 with
    | [a, b], _ => exact ⟨a, b, rfl⟩
  obtain ⟨n0, a0, b0, _⟩ := DataW.trod_string Tryz.underlying9 h0
  obtain ⟨n1, a1, b1, _⟩ := DataW.trod_string Tryz.underlying9 h1
  have e0 : y0 = .string n0 := head_of (by rw [← a0]; show _ = List.take (Tryz.prog.cellsOf 9) _; rw [k9]; rfl)
  have e1 : y1 = .string n1 := head_of (by rw [← a1]; show _ = List.take (Tryz.prog.cellsOf 9) _; rw [k9]; rfl)
  have hx1 := congrArg Prod.fst hx
  simp only [List.map_cons, List.map_nil] at hx1
  subst b0 b1
  simp only [DataW.agg.injEq, List.cons.injEq, DataW.lit.injEq, Lit.string.injEq, and_true] at hx1
  obtain ⟨g0, g1⟩ := hx1
  rw [e0, e1, g0, g1]
end
theorem ct_len : ctC.length = 16 := rfl
theorem colors_of {W : World} {fuel : Nat} {cs : List Value} {p : List MemPlace} (h : DataW.trod (fun _ => ()) Tryz.prog W 0 (fun _ => true) false fuel 173 cs = some (Rows.laid_gouache_value_colors, p)) : cs = ctC := by
  obtain ⟨xs, m, _, hx, hl, hxl, hel⟩ := DataW.trod_array Tryz.underlying173 h
  rw [k173] at hl
  have hx1 := congrArg Prod.fst hx
  simp only [] at hx1
  have hx2 : ∀ i (hi : i < xs.length), some ((xs[i]'hi).1) = (xs.map (·.1))[i]? := fun i hi => by rw [List.getElem?_map, List.getElem?_eq_getElem hi]; rfl
  unfold Rows.laid_gouache_value_colors at hx1
  injection hx1 with hx1
  refine chunks 8 cs ctC hl ct_len fun i hi => ?_
  have h1 := hel i hi
  rw [k172, List.getElem?_eq_getElem (by omega)] at h1
  have h2 := hx2 i (by omega)
  rw [← hx1] at h2
  have hcl : ((cs.drop (i * 2)).take 2).length = 2 := by rw [List.length_take, List.length_drop, hl]; omega
  obtain ⟨⟨xd, xp⟩, hxi⟩ : ∃ y, y = xs[i]'(by omega) := ⟨_, rfl⟩
  rw [← hxi] at h1 h2
  simp only [] at h2
  have hc : i = 0 ∨ i = 1 ∨ i = 2 ∨ i = 3 ∨ i = 4 ∨ i = 5 ∨ i = 6 ∨ i = 7 := by omega
  clear hxi
  rcases hc with rfl | rfl | rfl | rfl | rfl | rfl | rfl | rfl
  all_goals
    have h3 := Option.some.inj h2
    subst h3
    exact row2 h1 hcl
theorem k3 : Tryz.prog.cellsOf 3 = 1 := by kernel_rfl
theorem k73 : Tryz.prog.cellsOf 73 = 4 := by kernel_rfl
theorem k74 : Tryz.prog.cellsOf 74 = 16 := by kernel_rfl
theorem chunks4 : ∀ (n : Nat) (a b : List Value), a.length = 4 * n → b.length = 4 * n → (∀ i, i < n → (a.drop (i * 4)).take 4 = (b.drop (i * 4)).take 4) → a = b
  | 0, a, b, ha, hb, _ => by rw [List.length_eq_zero_iff.1 (by omega : a.length = 0), List.length_eq_zero_iff.1 (by omega : b.length = 0)]
  | n + 1, a, b, ha, hb, h => by
    have h0 := h 0 (by omega)
    rw [Nat.zero_mul, List.drop_zero, List.drop_zero] at h0
    have ih := chunks4 n (a.drop 4) (b.drop 4) (by rw [List.length_drop]; omega) (by rw [List.length_drop]; omega) fun i hi => by
      have := h (i + 1) (by omega)
      rw [List.drop_drop, List.drop_drop, show 4 + i * 4 = (i + 1) * 4 by omega]
      exact this
    rw [← List.take_append_drop 4 a, ← List.take_append_drop 4 b, h0, ih]
theorem row4 {H : Type} {enc : TypeId × Value → H} {W : World} {base : Nat} {sp : Nat → Bool} {held : Bool} {m : Nat} {cs : List Value} {a b c d : Int} {p : List MemPlace} (hf : DataW.trod enc Tryz.prog W base sp held m 73 cs = some (.agg [.lit (.int .i64 a), .lit (.int .i64 b), .lit (.int .i64 c), .lit (.int .i64 d)], p)) : cs = [.int .i64 a, .int .i64 b, .int .i64 c, .int .i64 d] := by
  obtain ⟨xs, n, _, hx, hl, hxl, hel⟩ := DataW.trod_array Tryz.underlying73 hf
  rw [k73] at hl
  obtain ⟨y0, y1, y2, y3, rfl⟩ : ∃ y0 y1 y2 y3, cs = [y0, y1, y2, y3] := by
    match cs, hl with
    | [a, b, c, d], _ => exact ⟨a, b, c, d, rfl⟩
  have hxl2 : xs.length = 4 := hxl
  obtain ⟨x0, x1, x2, x3, rfl⟩ : ∃ x0 x1 x2 x3, xs = [x0, x1, x2, x3] := by
    match xs, hxl2 with
    | [a, b, c, d], _ => exact ⟨a, b, c, d, rfl⟩
  have h0 := hel 0 (by omega)
  have h1 := hel 1 (by omega)
  have h2 := hel 2 (by omega)
  have h3 := hel 3 (by omega)
  rw [k3] at h0 h1 h2 h3
  obtain ⟨n0, a0, b0, _⟩ := DataW.trod_int Tryz.underlying3 h0
  obtain ⟨n1, a1, b1, _⟩ := DataW.trod_int Tryz.underlying3 h1
  obtain ⟨n2, a2, b2, _⟩ := DataW.trod_int Tryz.underlying3 h2
  obtain ⟨n3, a3, b3, _⟩ := DataW.trod_int Tryz.underlying3 h3
  have e0 : y0 = .int .i64 n0 := head_of (by rw [← a0]; rfl)
  have e1 : y1 = .int .i64 n1 := head_of (by rw [← a1]; rfl)
  have e2 : y2 = .int .i64 n2 := head_of (by rw [← a2]; rfl)
  have e3 : y3 = .int .i64 n3 := head_of (by rw [← a3]; rfl)
  have hx1 := congrArg Prod.fst hx
  simp only [List.map_cons, List.map_nil] at hx1
  subst b0 b1 b2 b3
  simp only [DataW.agg.injEq, List.cons.injEq, DataW.lit.injEq, Lit.int.injEq, and_true, true_and] at hx1
  obtain ⟨g0, g1, g2, g3⟩ := hx1
  rw [e0, e1, e2, e3, g0, g1, g2, g3]
def laid7 : List (String × DataW Unit) := [("math/bits.deBruijn32tab", Rows.laid_math_bits_deBruijn32tab), ("math/bits.deBruijn64tab", Rows.laid_math_bits_deBruijn64tab), ("internal/strconv.uint64pow10", Rows.laid_internal_strconv_uint64pow10), ("unicode/utf8.acceptRanges", Rows.laid_unicode_utf8_acceptRanges), ("gouache/value.colors", Rows.laid_gouache_value_colors), ("gouache/short.sides", Rows.laid_gouache_short_sides), ("unicode/utf8.first", Rows.laid_unicode_utf8_first)]
theorem gco : Tryz.prog.globalNamed "gouache/value.colors" = some 2 := by kernel_rfl
theorem tco : (Tryz.prog.globals[2]?).map (·.type) = some 173 := by kernel_rfl
theorem g10 : Tryz.prog.globalNamed "internal/strconv.uint64pow10" = some 5 := by kernel_rfl
theorem t10 : (Tryz.prog.globals[5]?).map (·.type) = some 189 := by kernel_rfl
theorem gsd : Tryz.prog.globalNamed "gouache/short.sides" = some 0 := by kernel_rfl
theorem tsd : (Tryz.prog.globals[0]?).map (·.type) = some 74 := by kernel_rfl
theorem sides_of {W : World} {fuel : Nat} {cs : List Value} {p : List MemPlace} (h : DataW.trod (fun _ => ()) Tryz.prog W 0 (fun _ => true) false fuel 74 cs = some (Rows.laid_gouache_short_sides, p)) : cs = S.sdC := by
  obtain ⟨xs, m, _, hx, hl, hxl, hel⟩ := DataW.trod_array Tryz.underlying74 h
  rw [k74] at hl
  have hx1 := congrArg Prod.fst hx
  simp only [] at hx1
  have hx2 : ∀ i (hi : i < xs.length), some ((xs[i]'hi).1) = (xs.map (·.1))[i]? := fun i hi => by rw [List.getElem?_map, List.getElem?_eq_getElem hi]; rfl
  unfold Rows.laid_gouache_short_sides at hx1
  injection hx1 with hx1
  refine chunks4 4 cs S.sdC hl rfl fun i hi => ?_
  have h1 := hel i hi
  rw [k73, List.getElem?_eq_getElem (by omega)] at h1
  have h2 := hx2 i (by omega)
  rw [← hx1] at h2
  obtain ⟨⟨xd, xp⟩, hxi⟩ : ∃ y, y = xs[i]'(by omega) := ⟨_, rfl⟩
  rw [← hxi] at h1 h2
  simp only [] at h2
  have hc : i = 0 ∨ i = 1 ∨ i = 2 ∨ i = 3 := by omega
  clear hxi
  rcases hc with rfl | rfl | rfl | rfl
  all_goals
    have h3 := Option.some.inj h2
    subst h3
    exact row4 h1
theorem pow_data : (Rows.laid_internal_strconv_uint64pow10 : DataW Unit) = Lib.tabData .u64 Lib.pow10Tab := by
  unfold Rows.laid_internal_strconv_uint64pow10 Lib.tabData Lib.pow10Tab
  rfl
theorem of_laid {X : World} (h : laidMetH Tryz.prog laid7 X) : Col X ∧ W.Pow X ∧ S.Sid X := by
  rw [MakeChecks.laidMetH_plain _ _ _ (by kernel_rfl)] at h
  obtain ⟨ps, ⟨g0, t0, cs0, f0, p0, q0, hg0, ht0, hv0, hd0, ⟨g1, t1, cs1, f1, p1, q1, hg1, ht1, hv1, hd1, ⟨g2, t2, cs2, f2, p2, q2, hg2, ht2, hv2, hd2, ⟨g3, t3, cs3, f3, p3, q3, hg3, ht3, hv3, hd3, ⟨g4, t4, cs4, f4, p4, q4, hg4, ht4, hv4, hd4, ⟨g5, t5, cs5, f5, p5, q5, hg5, ht5, hv5, hd5, _, _⟩, _⟩, _⟩, _⟩, _⟩, _⟩, _, _⟩ := h
  refine ⟨?_, ?_, ?_⟩
  · obtain rfl := Option.some.inj (gco.symm.trans hg4)
    obtain rfl := Option.some.inj (tco.symm.trans ht4)
    have e := colors_of hd4
    intro j v hv
    have := World.var?_cell gco hv4 j
    rw [Nat.zero_add]
    refine this.trans ?_
    rw [← e] at hv
    simpa using hv
  · obtain rfl := Option.some.inj (g10.symm.trans hg2)
    obtain rfl := Option.some.inj (t10.symm.trans ht2)
    unfold W.Pow Lib.TabIs
    rw [pow_data] at hd2
    rw [hv2, ← Lib.cells_of_tab Tryz.underlying189 Tryz.underlying146 (by kernel_rfl) (by kernel_rfl) hd2]
  · obtain rfl := Option.some.inj (gsd.symm.trans hg5)
    obtain rfl := Option.some.inj (tsd.symm.trans ht5)
    have e := sides_of hd5
    intro j v hv
    have := World.var?_cell gsd hv5 j
    rw [Nat.zero_add]
    refine this.trans ?_
    rw [← e] at hv
    simpa using hv
end Go.Proofs.YtlhdapckenjigaaGreatDoor.Z
