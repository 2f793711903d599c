/- The very same keys. -/
import Derived.Test.YtdiljkmlneeboaaRsk
namespace Go.Proofs.Ytdiljkmlneeboaa
open Go.RowKit
set_option maxRecDepth 100000

/-- A slice in which these keys lie. -/
def RdK (W : World) (v : Value) (l : List Nat) : Prop := ∃ a c, v = .slice a l.length c ∧ l.length ≤ c ∧ c ≤ 9223372036854775807 ∧ ∀ t (ht : t < l.length), ∃ g o, a = some ⟨g, o, none⟩ ∧ g < W.heap.size ∧ W.cell? ⟨g, o + t, none⟩ = some (.int .u32 ((l[t]'ht : Nat) : Int))
theorem OwnK.rd {w : World} {B : Nat} {v : Value} {l : List Nat} (h : OwnK w B v l) : RdK w v l := by
  obtain ⟨a, c, h1, h2, h3, h4⟩ := h.at
  refine ⟨a, c, h1, h2, h3, fun t ht => ?_⟩
  obtain ⟨g, e, hg, hc⟩ := h4 t ht
  exact ⟨g, 0, e, hg, by rw [Nat.zero_add]; exact hc⟩
theorem take_eq_succ {l m : List Nat} {t : Nat} (hl : t < l.length) (hm : t < m.length) (h : l.take t = m.take t) : (l.take (t + 1) = m.take (t + 1)) ↔ l[t] = m[t] := by
  have e1 : l.take (t + 1) = l.take t ++ [l[t]] := by rw [List.take_add_one, List.getElem?_eq_getElem hl, Option.toList_some]
  have e2 : m.take (t + 1) = m.take t ++ [m[t]] := by rw [List.take_add_one, List.getElem?_eq_getElem hm, Option.toList_some]
  rw [e1, e2, h, List.append_cancel_left_eq]
  simp

set_option maxHeartbeats 1000000 in
theorem rsame_any {w : World} {v u : Value} {l m : List Nat} (hv : RdK w v l) (hu : RdK w u m) : Calls Try.prog 14 #[v, u] w fun e w' => e = .returned (.bool (decide (l = m))) ∧ Below w.heap.size w w' := by
  obtain ⟨a, c, rfl, hlc, hcm, hca⟩ := hv
  obtain ⟨b, d, rfl, hld, hdm, hcb⟩ := hu
  by_cases hl : l.length = m.length
  · have hne : ((l.length : Int) != (m.length : Int)) = false := by rw [bne_eq_false_iff_eq]; omega
    have HCA := hid_mk hca
    have HCB := hid_mk hcb
    have HL := hid_mk hl
    have hll : l.length ≤ 9223372036854775807 := by omega
    have HB0 := hid_mk (Below.refl w.heap.size w)
    clear hca hcb hl
    go_enter Try.func14, Try.ntmps14
    go_wp2
    go_loopw [13] (fun a9 wq => ∃ t : Nat, t ≤ l.length ∧ a9 = .int .i64 (t : Int) ∧ Hid (l.take t = m.take t) ∧ Hid (Below w.heap.size w wq)) (fun a9 _ => l.length + 1 - (intOf a9).toNat)
    case atStart => exact ⟨0, Nat.zero_le _, rfl, rfl, HB0⟩
    case round =>
      obtain ⟨t, ht, rfl, HT, HB⟩ := hrel
      clear HB0
      by_cases htl : t < l.length
      · have htm : t < m.length := by have := HL.out; omega
        obtain ⟨g, o, rfl, hg1, q1'⟩ := HCA.out t htl
        have q1 := (HB.out.cell (p := ⟨g, o + t, none⟩) hg1).trans q1'
        obtain ⟨h2, o2, rfl, hg2, q2'⟩ := HCB.out t htm
        have q2 := (HB.out.cell (p := ⟨h2, o2 + t, none⟩) hg2).trans q2'
        have HS := hid_mk (take_eq_succ htl htm HT.out)
        have HF : Hid (l[t] ≠ m[t] → decide (l = m) = false) := fun h => decide_eq_false fun e => h (by subst e; rfl)
        clear HCA HCB HT q1' q2'
        generalize l[t] = x at *
        generalize m[t] = y at *
        by_cases hxy : x = y
        · have HZ : Hid (l.take (t + 1) = m.take (t + 1)) := HS.out.2 hxy
          have g1 : ((x : Int) != (y : Int)) = false := by simp [hxy]
          have g2 : (x != y) = false := by simp [hxy]
          clear HS HF hxy
          go_upto_region 6 with (fail)
          go_quiet (fail)
          go_wp2
          exact ⟨⟨t + 1, htl, by go_num, HZ, ⟨HB.out.os, HB.out.tape, HB.out.output, HB.out.size, HB.out.block⟩⟩, by simp only [intOf]; omega⟩
        · have HZ := hid_mk (HF.out hxy)
          have g1 : ((x : Int) != (y : Int)) = true := bne_iff_ne.2 (by omega)
          have g2 : (x != y) = true := bne_iff_ne.2 hxy
          clear HS HF hxy
          go_upto_region 6 with (fail)
          go_quiet (fail)
          go_wp2
          go_ret
          exact ⟨by rw [HZ.out]; rfl, ⟨HB.out.os, HB.out.tape, HB.out.output, HB.out.size, HB.out.block⟩⟩
      · obtain rfl : t = l.length := by omega
        have HZ : Hid (decide (l = m) = true) := by
          have h := HT.out
          have h2 := HL.out
          rw [List.take_length, h2, List.take_length] at h
          exact decide_eq_true h
        clear HCA HCB HT
        go_wp2
        go_ret
        exact ⟨by rw [HZ.out]; rfl, HB.out⟩
  · have hne : ((l.length : Int) != (m.length : Int)) = true := bne_iff_ne.2 (by omega)
    have HZ : Hid (decide (l = m) = false) := decide_eq_false fun e => hl (by rw [e])
    clear hl hca hcb
    go_enter Try.func14, Try.ntmps14
    go_wp2
    go_ret
    exact ⟨by rw [HZ.out]; rfl, Below.refl _ _⟩
end Go.Proofs.Ytdiljkmlneeboaa
