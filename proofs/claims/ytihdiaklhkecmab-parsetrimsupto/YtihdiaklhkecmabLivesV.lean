/- gouachelaw03.lives: the document's example is as it says. -/
import Derived.Test.YtihdiaklhkecmabDocV
namespace Go.Proofs.Ytihdiaklhkecmab
open Go.RowKit
set_option maxRecDepth 100000

theorem doc_parts : ∃ x0 x1 d v, rulesZ docV.length docV = [x0, x1] ∧ declsZ x0.2.length x0.2 = [d] ∧ (d.1.toList == ([99] : List UInt8)) = true ∧ d.2.2 = true ∧ d.2.1 = [v] ∧ (v.tok.tx.toList == ([100] : List UInt8)) = true ∧ V.most docV ∧ docV.length ≤ 1000 ∧ V.most x0.2 ∧ x0.2.length ≤ 1000 ∧ ∀ y ∈ x0.2, y.tok.tx.size ≤ 1000 := by
  have h := doc_true
  unfold docB at h
  rw [Bool.and_eq_true] at h
  obtain ⟨h1, h2⟩ := h
  obtain ⟨m1, m2, _⟩ := smallB_most _ _ h1
  split at h2
  · rename_i x0 x1 e
    rw [Bool.and_eq_true] at h2
    obtain ⟨h3, h4⟩ := h2
    obtain ⟨m3, m4, m5⟩ := smallB_most _ _ h3
    split at h4
    · rename_i d e2
      rw [Bool.and_eq_true, Bool.and_eq_true] at h4
      obtain ⟨⟨h5, h6⟩, h7⟩ := h4
      split at h7
      · rename_i v e3
        exact ⟨x0, x1, d, v, e, e2, h5, h6, e3, h7, m1, m2, m3, m4, m5⟩
      · cases h7
    · cases h4
  · cases h2
theorem runes_fine (s : ByteArray) (h : (runesZ s).length ≤ 1000000000) : Fine (runesZ s) := ⟨h, fun c hc => (runes_told s c hc).1⟩
theorem doc_len : (runesZ docS).length = 30 := by kernel_rfl
set_option maxHeartbeats 1000000 in
theorem lives_any (w : World) : Calls Try.prog 5 #[] w fun e w' => e = .returned (.bool true) ∧ Below w.heap.size w w' := by
  obtain ⟨x0, x1, d, v, hr, hd, d1, d2, d3, v1, m1, m2, m3, m4, m5⟩ := doc_parts
  have hv : Calls Try.prog 11 #[.string ⟨#[97, 32, 98, 123, 99, 58, 100, 33, 105, 109, 112, 111, 114, 116, 97, 110, 116, 59, 101, 125, 32, 64, 120, 32, 121, 59, 32, 102, 123, 125]⟩] w fun e w' => ∃ out, e = .returned out ∧ VsAt (fun b => w.heap.size ≤ b) w' out docV ∧ Below w.heap.size w w' := vtext_any docS w (by decide) (runes_fine docS (by rw [doc_len]; decide)) (by rw [doc_fine]; decide)
  go_enter Try.func5, Try.ntmps5
  go_wp2_with (go_at_call 11; fail)
  refine hv.mono ?_
  rintro e w1 ⟨o1, rfl, ho1, hb1⟩
  have hru := rules_any ho1 m1 (by omega)
  obtain ⟨a1, c1, rfl, _, _⟩ := ho1.slice
  clear hv ho1
  go_wp2_with (go_at_call 10; fail)
  refine hru.mono ?_
  rintro e w2 ⟨o2, ps, rfl, hrow, hps, hb2⟩
  rw [hr] at hps
  obtain ⟨p0, p1, rfl⟩ : ∃ p0 p1, ps = [p0, p1] := by
    rcases ps with _ | ⟨p0, _ | ⟨p1, _ | ⟨p2, r⟩⟩⟩
    · simp at hps
    · simp at hps
    · exact ⟨p0, p1, rfl⟩
    · simp at hps
  have hp0 : p0.bv = x0.2 := by
    simp only [List.map_cons, List.map_nil, List.cons.injEq] at hps
    rw [← hps.1]
    rfl
  obtain ⟨g2, c2, rfl⟩ := ownsRow_succ (k := 1) hrow.1
  have hcell : w2.cell? ⟨g2, 1, none⟩ = some p0.b := hrow.1.cellAt 1 (by decide)
  have hvb := (hrow.2.2 p0 (by simp)).2
  rw [hp0] at hvb
  obtain ⟨ab, cb, eb, _, _⟩ := hvb.slice
  rw [eb] at hcell hvb
  have hde := decls_any hvb m3 (fun y hy => Nat.le_trans (m5 y hy) (by decide)) (by omega)
  have hB2 : Below w.heap.size w w2 := hb1.trans (hb2.mono hb1.size)
  clear hru hrow hps hvb eb hr
  go_wp2_with (go_at_call 12; fail)
  refine hde.mono ?_
  rintro e w3 ⟨o3, ds, rfl, hrow, hds, hb3⟩
  rw [hd] at hds
  obtain ⟨d0, rfl⟩ : ∃ d0, ds = [d0] := by
    rcases ds with _ | ⟨d0, _ | ⟨d1, r⟩⟩
    · simp at hds
    · exact ⟨d0, rfl⟩
    · simp at hds
  have hd0 : d0.said = d := by simpa using hds
  subst hd0
  obtain ⟨g3, c3, rfl⟩ := ownsRow_succ (k := 0) hrow.1
  have y0 : w3.cell? ⟨g3, 0, none⟩ = some (.string d0.nm) := hrow.1.cellAt 0 (by decide)
  have y1 : w3.cell? ⟨g3, 1, none⟩ = some d0.v := hrow.1.cellAt 1 (by decide)
  have y2 : w3.cell? ⟨g3, 2, none⟩ = some (.bool d0.im) := hrow.1.cellAt 2 (by decide)
  have hvv := hrow.2.2 d0 (by simp)
  obtain ⟨nm, dv, dvv, im⟩ := d0
  have e3 : dvv = [v] := d3
  have e2 : im = true := d2
  have e1 : (nm.toList == ([99] : List UInt8)) = true := d1
  subst e3 e2
  obtain ⟨⟨tk, tx, un, wh, fl⟩, xk⟩ := v
  have ev : (tx.toList == ([100] : List UInt8)) = true := v1
  obtain ⟨b4, off4, cap4, ka, kc, rfl, hl4, hc4, _, hq⟩ := VsAt.head hvv
  obtain ⟨q0, q1, q2, q3, q4, q5⟩ := hq w3 (Below.refl _ _)
  have hB3 : Below w.heap.size w w3 := hB2.trans (hb3.mono hB2.size)
  simp only [List.length_nil, Nat.zero_add] at y1 hl4
  simp only [Nat.zero_add]
  clear hde hrow hds hvv hq hd d1 d2 d3 v1 m1 m2 m3 m4 m5 hcell
  go_wp2
  go_ret
  exact ⟨rfl, hB3⟩

end Go.Proofs.Ytihdiaklhkecmab
