/- text.Fold of texts as long as may be. -/
import Derived.Test.YtihdiaklhkecmabFold
namespace Go.Proofs.Ytihdiaklhkecmab
open Go.RowKit

set_option maxHeartbeats 4000000 in
set_option maxRecDepth 1000000 in
theorem foldw_any (s : ByteArray) (w : World) (hs : s.size ≤ 140737488355328) :
    Calls Try.prog 34 #[.string s] w fun e w' => e = .returned (.string (foldS s)) ∧ Below w.heap.size w w' := by
  obtain ⟨g, cap, W, hcv, hcap, hg, hcell, hfr, hb⟩ := bytesOf s w
  go_enter Try.func34, Try.ntmps34
  go_wp2
  clear hcv
  go_loopw [10] (fun i wr => ∃ k : Nat, k ≤ s.size ∧ i = .int .i64 k ∧ FoldAt s g k wr ∧ (∀ j, j < s.size → wr.frozen? ⟨g, j, none⟩ = false) ∧ Below w.heap.size w wr) (fun i _ => s.size - (intOf i).toNat)
  case atStart => exact ⟨0, Nat.zero_le _, rfl, fun j hj => by simpa using hcell j hj, hfr, hb⟩
  case round =>
    clear hcell hfr hb
    obtain ⟨k, hk, rfl, hcell, hfr, hb⟩ := hrel
    by_cases hlt : k < s.size
    · obtain ⟨c, hc⟩ : ∃ c : Nat, (s.get! k).toNat = c := ⟨_, rfl⟩
      have ck : wr.cell? ⟨g, k, none⟩ = some (.int .u8 c) := by
        have := hcell k hlt
        rw [if_neg (Nat.lt_irrefl k), hc] at this
        exact this
      have fk := hfr k hlt
      have h256 : c < 256 := by rw [← hc]; exact (s.get! k).toNat_lt
      have HF : Hid (∀ j, j < s.size → wr.frozen? ⟨g, j, none⟩ = false) := hfr
      clear hfr
      by_cases h : 65 ≤ c ∧ c ≤ 90
      · have HX : Hid (((c : Int) + 32) = foldN (s.get! k).toNat) := by
          show _ = _
          rw [hc, foldN, if_pos h]
          omega
        obtain ⟨h1, h2⟩ := h
        clear hc
        go_wp2
        go_roundw
        case rel => exact ⟨k + 1, by omega, by go_num, fold_step hcell hlt (by rw [← HX.out]; try omega), fun j hj => by rw [World.frozen?_setCell]; exact HF.out j hj, hb.setCell hg _⟩
        case measure => simp [intOf]; omega
      · have HX : Hid (foldN (s.get! k).toNat = (s.get! k).toNat) := by
          show _ = _
          rw [hc, foldN, if_neg h]
        clear hc
        rcases (show c < 65 ∨ 90 < c by omega) with h1 | h1
        all_goals
          clear h
          go_wp2
          go_roundw
          case rel => exact ⟨k + 1, by omega, by go_num, fold_keep hcell HX.out, HF.out, hb⟩
          case measure => simp [intOf]; omega
    · have hks : k = s.size := by omega
      rw [hks] at hcell
      have hcv2 := fold_conv (cap := cap) hcell
      clear hks
      go_wp2
      go_ret
      exact ⟨rfl, hb⟩


end Go.Proofs.Ytihdiaklhkecmab
