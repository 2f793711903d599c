/- gouacheref14.Texts of the same texts. -/
import Derived.Test.YtdgbebgjenfmbaaMOp
namespace Go.Proofs.Ytdgbebgjenfmbaa.M
open Go.RowKit Go.Shelf
set_option maxRecDepth 100000

set_option maxHeartbeats 2000000 in
theorem texts_yes {P1 P2 : Nat → Prop} {w : World} {v1 v2 : Value} {l : List ByteArray} (h1 : SsAt P1 w v1 l) (h2 : SsAt P2 w v2 l) : Calls Try.prog 16 #[v1, v2] w fun e w' => e = .returned (.bool true) ∧ Below w.heap.size w w' := by
  obtain ⟨a1, c1, g1, o1, rfl, hc1, hm1, ha1, hx1⟩ := h1
  obtain ⟨a2, c2, g2, o2, rfl, hc2, hm2, ha2, hx2⟩ := h2
  have HA1 : Hid (0 < l.length → a1 = some ⟨g1, o1, none⟩) := fun h => (ha1 h).1
  have HA2 : Hid (0 < l.length → a2 = some ⟨g2, o2, none⟩) := fun h => (ha2 h).1
  have HL : Hid (∀ (k : Nat) (wq : World), k < l.length → Below w.heap.size w wq → ∃ s, wq.cell? ⟨g1, o1 + k, none⟩ = some (.string s) ∧ wq.cell? ⟨g2, o2 + k, none⟩ = some (.string s)) := fun k wq hk hb => by
    have e1 := hx1 k _ (List.getElem?_eq_getElem hk)
    have e2 := hx2 k _ (List.getElem?_eq_getElem hk)
    exact ⟨_, (hb.cell (p := ⟨g1, o1 + k, none⟩) (lt_of_cell e1)).trans e1, (hb.cell (p := ⟨g2, o2 + k, none⟩) (lt_of_cell e2)).trans e2⟩
  have hln : l.length ≤ 9223372036854775807 := by unfold maxLen at hm1; omega
  clear ha1 ha2 hx1 hx2 hc1 hc2 hm1 hm2
  generalize l.length = n at *
  go_enter Try.func16, Try.ntmps16
  go_wp2
  go_loopw [13] (fun p wr => ∃ k : Nat, p = .int .i64 (k : Int) ∧ k ≤ n ∧ Hid (Below w.heap.size w wr)) (fun p _ => n + 1 - (intOf p).toNat)
  case atStart => exact ⟨0, rfl, Nat.zero_le _, hid_mk (Below.refl _ _)⟩
  case round =>
    obtain ⟨k, rfl, hk, HB⟩ := hrel
    by_cases hlt : k < n
    · have ea1 := HA1.out (by omega)
      have ea2 := HA2.out (by omega)
      subst ea1 ea2
      obtain ⟨s, q1, q2⟩ := HL.out k wr hlt HB.out
      clear HA1 HA2
      go_upto_region 6 with fail
      go_quiet (fail)
      go_wp2
      refine ⟨⟨k + 1, by go_num, by omega, hid_mk (HB.out.trans ⟨rfl, rfl, rfl, Nat.le_refl _, fun _ _ => rfl⟩)⟩, ?_⟩
      simp only [intOf]
      omega
    · have HBo := HB.out
      go_wp2
      go_ret
      exact ⟨rfl, HBo⟩
end Go.Proofs.Ytdgbebgjenfmbaa.M
