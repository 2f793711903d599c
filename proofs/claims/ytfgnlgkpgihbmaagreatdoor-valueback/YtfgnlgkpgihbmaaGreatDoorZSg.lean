/- The tables, as they are laid. -/
import Derived.Test.YtfgnlgkpgihbmaaGreatDoorZCo
import Derived.ProofKit
import Derived.OpenShut
import Derived.LaidMore
import Derived.Lib.LaidTab
import Derived.FnData
namespace Go.Proofs.YtfgnlgkpgihbmaaGreatDoor.Z
open Go.ChangeShapes Go.WideShapes Go.ChangeAt Go.RowKit
set_option maxRecDepth 100000

theorem head_of {a b : Value} (h : [a] = [b]) : a = b := by simpa using h
theorem k9 : Tryz.prog.cellsOf 9 = 1 := by kernel_rfl
theorem k91 : Tryz.prog.cellsOf 91 = 2 := by kernel_rfl
theorem k92 : Tryz.prog.cellsOf 92 = 16 := by kernel_rfl
theorem chunks : ∀ (n : Nat) (a b : List Value), a.length = 2 * n → b.length = 2 * n → (∀ i, i < n → (a.drop (i * 2)).take 2 = (b.drop (i * 2)).take 2) → a = b
  | 0, a, b, ha, hb, _ => by rw [List.length_eq_zero_iff.1 (by omega : a.length = 0), List.length_eq_zero_iff.1 (by omega : b.length = 0)]
  | n + 1, a, b, ha, hb, h => by
    have h0 := h 0 (by omega)
    rw [Nat.zero_mul, List.drop_zero, List.drop_zero] at h0
    have ih := chunks n (a.drop 2) (b.drop 2) (by rw [List.length_drop]; omega) (by rw [List.length_drop]; omega) fun i hi => by
      have := h (i + 1) (by omega)
      rw [List.drop_drop, List.drop_drop, show 2 + i * 2 = (i + 1) * 2 by omega]
      exact this
    rw [← List.take_append_drop 2 a, ← List.take_append_drop 2 b, h0, ih]
section
variable {H : Type} {enc : TypeId × Value → H} {W : World} {base : Nat} {sp : Nat → Bool} {held : Bool}
theorem row2 {m : Nat} {cs : List Value} {r s : List UInt8} {p : List MemPlace} (hf : DataW.trod enc Tryz.prog W base sp held m 91 cs = some (.agg [.lit (.string r), .lit (.string s)], p)) (hl : cs.length = 2) : cs = [.string ⟨r.toArray⟩, .string ⟨s.toArray⟩] := by
  obtain ⟨y0, y1, rfl⟩ : ∃ y0 y1, cs = [y0, y1] := by
    match cs, hl with
    | [a, b], _ => exact ⟨a, b, rfl⟩
  obtain ⟨xs, n, hmn, hx, hl2, hxl, hel⟩ := DataW.trod_struct Tryz.underlying91 hf
  have h0 := hel 0 _ rfl
  have h1 := hel 1 _ rfl
  have hxl2 : xs.length = 2 := hxl
  obtain ⟨x0, x1, rfl⟩ : ∃ x0 x1, xs = [x0, x1] := by
    match xs, hxl2 with
    | [a, b], _ => exact ⟨a, b, rfl⟩
  obtain ⟨n0, a0, b0, _⟩ := DataW.trod_string Tryz.underlying9 h0
  obtain ⟨n1, a1, b1, _⟩ := DataW.trod_string Tryz.underlying9 h1
  have e0 : y0 = .string n0 := head_of (by rw [← a0]; show _ = List.take (Tryz.prog.cellsOf 9) _; rw [k9]; rfl)
  have e1 : y1 = .string n1 := head_of (by rw [← a1]; show _ = List.take (Tryz.prog.cellsOf 9) _; rw [k9]; rfl)
  have hx1 := congrArg Prod.fst hx
  simp only [List.map_cons, List.map_nil] at hx1
  subst b0 b1
  simp only [DataW.agg.injEq, List.cons.injEq, DataW.lit.injEq, Lit.string.injEq, and_true] at hx1
  obtain ⟨g0, g1⟩ := hx1
  rw [e0, e1, g0, g1]
end
theorem ct_len : ctC.length = 16 := rfl
theorem colors_of {W : World} {fuel : Nat} {cs : List Value} {p : List MemPlace} (h : DataW.trod (fun _ => ()) Tryz.prog W 0 (fun _ => true) false fuel 92 cs = some (Rows.laid_gouache_value_colors, p)) : cs = ctC := by
  obtain ⟨xs, m, _, hx, hl, hxl, hel⟩ := DataW.trod_array Tryz.underlying92 h
  rw [k92] at hl
  have hx1 := congrArg Prod.fst hx
  simp only [] at hx1
  have hx2 : ∀ i (hi : i < xs.length), some ((xs[i]'hi).1) = (xs.map (·.1))[i]? := fun i hi => by rw [List.getElem?_map, List.getElem?_eq_getElem hi]; rfl
  unfold Rows.laid_gouache_value_colors at hx1
  injection hx1 with hx1
  refine chunks 8 cs ctC hl ct_len fun i hi => ?_
  have h1 := hel i hi
  rw [k91, List.getElem?_eq_getElem (by omega)] at h1
  have h2 := hx2 i (by omega)
  rw [← hx1] at h2
  have hcl : ((cs.drop (i * 2)).take 2).length = 2 := by rw [List.length_take, List.length_drop, hl]; omega
  obtain ⟨⟨xd, xp⟩, hxi⟩ : ∃ y, y = xs[i]'(by omega) := ⟨_, rfl⟩
  rw [← hxi] at h1 h2
  simp only [] at h2
  have hc : i = 0 ∨ i = 1 ∨ i = 2 ∨ i = 3 ∨ i = 4 ∨ i = 5 ∨ i = 6 ∨ i = 7 := by omega
  clear hxi
  rcases hc with rfl | rfl | rfl | rfl | rfl | rfl | rfl | rfl
  all_goals
    have h3 := Option.some.inj h2
    subst h3
    exact row2 h1 hcl
def laid6 : List (String × DataW Unit) := [("math/bits.deBruijn32tab", Rows.laid_math_bits_deBruijn32tab), ("math/bits.deBruijn64tab", Rows.laid_math_bits_deBruijn64tab), ("internal/strconv.uint64pow10", Rows.laid_internal_strconv_uint64pow10), ("unicode/utf8.acceptRanges", Rows.laid_unicode_utf8_acceptRanges), ("gouache/value.colors", Rows.laid_gouache_value_colors), ("unicode/utf8.first", Rows.laid_unicode_utf8_first)]
theorem gco : Tryz.prog.globalNamed "gouache/value.colors" = some 0 := by kernel_rfl
theorem tco : (Tryz.prog.globals[0]?).map (·.type) = some 92 := by kernel_rfl
theorem g10 : Tryz.prog.globalNamed "internal/strconv.uint64pow10" = some 4 := by kernel_rfl
theorem t10 : (Tryz.prog.globals[4]?).map (·.type) = some 166 := by kernel_rfl
theorem pow_data : (Rows.laid_internal_strconv_uint64pow10 : DataW Unit) = Lib.tabData .u64 Lib.pow10Tab := by
  unfold Rows.laid_internal_strconv_uint64pow10 Lib.tabData Lib.pow10Tab
  rfl
theorem of_laid {X : World} (h : laidMetH Tryz.prog laid6 X) : Col X ∧ W.Pow X := by
  rw [MakeChecks.laidMetH_plain _ _ _ (by kernel_rfl)] at h
  obtain ⟨ps, ⟨g0, t0, cs0, f0, p0, q0, hg0, ht0, hv0, hd0, ⟨g1, t1, cs1, f1, p1, q1, hg1, ht1, hv1, hd1, ⟨g2, t2, cs2, f2, p2, q2, hg2, ht2, hv2, hd2, ⟨g3, t3, cs3, f3, p3, q3, hg3, ht3, hv3, hd3, ⟨g4, t4, cs4, f4, p4, q4, hg4, ht4, hv4, hd4, _, _⟩, _⟩, _⟩, _⟩, _⟩, _, _⟩ := h
  constructor
  · obtain rfl := Option.some.inj (gco.symm.trans hg4)
    obtain rfl := Option.some.inj (tco.symm.trans ht4)
    have e := colors_of hd4
    intro j v hv
    have := World.var?_cell gco hv4 j
    rw [Nat.zero_add]
    refine this.trans ?_
    rw [← e] at hv
    simpa using hv
  · obtain rfl := Option.some.inj (g10.symm.trans hg2)
    obtain rfl := Option.some.inj (t10.symm.trans ht2)
    unfold W.Pow Lib.TabIs
    rw [pow_data] at hd2
    rw [hv2, ← Lib.cells_of_tab Tryz.underlying166 Tryz.underlying108 (by kernel_rfl) (by kernel_rfl) hd2]
end Go.Proofs.YtfgnlgkpgihbmaaGreatDoor.Z
