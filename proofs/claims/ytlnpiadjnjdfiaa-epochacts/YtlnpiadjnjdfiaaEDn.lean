/- container/heap's down. -/
import Derived.Test.YtlnpiadjnjdfiaaEUp
namespace Go.Proofs.Ytlnpiadjnjdfiaa.E
open Go.RowKit
set_option maxRecDepth 100000

/-- What down does in a round. -/
def DnGo (w : World) (X : EX) (g cap : Nat) (L : List It) (n m : Nat) (a7 : Value) (wr : World) : Prop := ∃ (i : Nat) (K : List It), i ≤ n ∧ n - i ≤ m ∧ a7 = .int .i64 (i : Int) ∧ DownAt bt K i n ∧ PAt wr X g cap K ∧ K.Perm L ∧ (∀ k, n ≤ k → K[k]? = L[k]?) ∧ Kx X.b g w wr
theorem swapL_far {α : Type} (l : List α) (i j n : Nat) (hi hj) (h1 : i < n) (h2 : j < n) (k : Nat) (hk : n ≤ k) : (swapL l i j hi hj)[k]? = l[k]? := by
  rw [swapL_get, if_neg (by omega), if_neg (by omega)]
theorem par_kids {c i : Nat} (h0 : 0 < c) (h : par c = i) : c = 2 * i + 1 ∨ c = 2 * i + 2 := by unfold par at h; omega

set_option maxHeartbeats 4000000 in
theorem down_any (o : Ord bt) {w : World} {X : EX} {g cap : Nat} {L : List It} (h : PAt w X g cap L) (hL : L.length ≤ 1000000) {n : Nat} (hu : DownAt bt L 0 n) : Calls Try.prog 63 #[.iface 78 (.pointer (some ⟨X.b, 12, none⟩)), .int .i64 0, .int .i64 (n : Int)] w fun e w' => (∃ v, e = .returned v) ∧ ∃ K : List It, HeapL bt n K ∧ PAt w' X g cap K ∧ K.Perm L ∧ (∀ k, n ≤ k → K[k]? = L[k]?) ∧ Kx X.b g w w' := by
  have HST : Hid (DnGo w X g cap L n n (.int .i64 0) w) := ⟨0, L, by omega, by omega, rfl, hu, h, List.Perm.refl _, fun _ _ => rfl, Kx.refl _ _ _⟩
  have HO := hid_mk o
  have hnL := hu.1
  clear h hu o
  go_enter Try.func63, Try.ntmps63
  go_wp2
  go_loopg [7] n (fun m a7 wr => DnGo w X g cap L n m a7 wr)
  case atStart => exact HST.out
  case round =>
    clear HST
    obtain ⟨i, K, hin, him, rfl, hu, hP, hp, hf, hx⟩ := hrel
    have hKl1 : K.length ≤ L.length := by rw [hp.length_eq]; exact Nat.le_refl _
    have hKl2 : L.length ≤ K.length := by rw [hp.length_eq]; exact Nat.le_refl _
    have HP := hid_mk hP
    have HX := hid_mk hx
    have HPM := hid_mk hp
    have HU := hid_mk hu
    have HF := hid_mk hf
    clear hP hx hp hu hf
    by_cases h1 : n ≤ 2 * i + 1
    · have hb : i ≤ 1000000 := by omega
      obtain ⟨c1, hc1⟩ : ∃ c1, c1 = 2 * i + 1 := ⟨_, rfl⟩
      have e1 : (2 * (i : Int) + 1) = (c1 : Int) := by omega
      have hcn : n ≤ c1 := by omega
      have HC1 := hid_mk hc1
      clear hc1
      go_wp2
      go_ret
      exact ⟨⟨_, rfl⟩, K, HU.out.leaf (by have := HC1.out; omega), HP.out, HPM.out, HF.out, HX.out⟩
    · obtain ⟨c1, hc1⟩ : ∃ c1, c1 = 2 * i + 1 := ⟨_, rfl⟩
      have e1 : (2 * (i : Int) + 1) = (c1 : Int) := by omega
      obtain ⟨c2, hc2⟩ : ∃ c2, c2 = 2 * i + 2 := ⟨_, rfl⟩
      have e2 : ((c1 : Int) + 1) = (c2 : Int) := by omega
      have hcn : c1 < n := by omega
      have hiK : i < K.length := by omega
      have h1K : c1 < K.length := by omega
      have hpc1 : par c1 = i := by unfold par; omega
      have hpc2 : par c2 = i := by unfold par; omega
      have hc10 : 0 < c1 := by omega
      have hic : i < c1 := by omega
      have HPC : Hid (par c1 = i ∧ par c2 = i ∧ ∀ c, 0 < c → par c = i → c = c1 ∨ c = c2) := ⟨hpc1, hpc2, fun c h0 h => by have := par_kids h0 h; omega⟩
      have hcc : c1 < c2 := by omega
      have hcb : (c2 : Int) ≤ 3000000 := by omega
      clear hc1 hc2 hpc1 hpc2
      have hm := m_less HP.out.cell
      by_cases h2 : c2 < n
      · have h2K : c2 < K.length := by omega
        obtain ⟨r, hr⟩ : ∃ r, r = bt K[c2] K[c1] := ⟨_, rfl⟩
        have HC : Hid (Calls Try.prog 110 #[.slice (some ⟨g, 0, none⟩) K.length cap, .int .i64 (c2 : Int), .int .i64 (c1 : Int)] wr fun e w' => e = .returned (.bool r) ∧ Below wr.heap.size wr w') := by
          have := pless_any HP.out.row c2 c1 h2K h1K
          rwa [← hr] at this
        have HR := hid_mk hr
        clear hr
        go_wp2_with (go_at_call 110; fail)
        with_reducible refine HC.out.mono ?_
        rintro e w1 ⟨rfl, hb⟩
        have HP1 : Hid (PAt w1 X g cap K) := HP.out.keep hb
        have HX1 : Hid (Kx X.b g w w1) := HX.out.trans (Kx.of_below hb)
        clear hb HC hm
        cases r
        · have HM : Hid (∀ c x, 0 < c → c < n → par c = i → K[c]? = some x → bt x (K[c1]'h1K) = false) := fun c x h0 hc hpc hx => by
            rcases HPC.out.2.2 c h0 hpc with rfl | rfl
            · rw [List.getElem?_eq_getElem h1K] at hx; cases hx; exact HO.out.irr _
            · rw [List.getElem?_eq_getElem h2K] at hx; cases hx; exact HR.out.symm
          have HPK : Hid (par c1 = i) := HPC.out.1
          clear HR HPC HP HX
          have hm := m_less HP1.out.cell
          obtain ⟨s, hs⟩ : ∃ s, s = bt K[c1] K[i] := ⟨_, rfl⟩
          have HC : Hid (Calls Try.prog 110 #[.slice (some ⟨g, 0, none⟩) K.length cap, .int .i64 (c1 : Int), .int .i64 (i : Int)] w1 fun e w' => e = .returned (.bool s) ∧ Below w1.heap.size w1 w') := by
            have := pless_any HP1.out.row c1 i h1K hiK
            rwa [← hs] at this
          have HS := hid_mk hs
          clear hs
          go_wp2_with (go_at_call 110; fail)
          with_reducible refine HC.out.mono ?_
          rintro e w2 ⟨rfl, hb⟩
          have HP2 : Hid (PAt w2 X g cap K) := HP1.out.keep hb
          have HX2 : Hid (Kx X.b g w w2) := HX1.out.trans (Kx.of_below hb)
          clear hb HC hm HP1 HX1
          cases s
          · go_wp2
            go_ret
            exact ⟨⟨_, rfl⟩, K, HU.out.done HO.out h1K hiK HM.out HS.out.symm, HP2.out, HPM.out, HF.out, HX2.out⟩
          · have hm := m_swap HP2.out.cell
            go_wp2_with (go_at_call 111; fail)
            with_reducible refine (swap_at HP2.out hiK h1K).mono ?_
            rintro e w3 ⟨⟨v3, rfl⟩, hP3, hx3⟩
            have HG : Hid (∀ m, n - c1 ≤ m → DnGo w X g cap L n m (.int .i64 (c1 : Int)) w3) := fun m hm => by
              have hb := HS.out.symm
              exact ⟨c1, _, by omega, hm, rfl, HU.out.step HO.out (by omega) (by omega) h1K hiK HPK.out HM.out hb, hP3, (swapL_perm _ _ _ _ _).trans HPM.out, fun k hk => (swapL_far _ _ _ n _ _ (by omega) (by omega) k hk).trans (HF.out k hk), HX2.out.trans hx3⟩
            clear hP3 hx3 hm
            go_wp2
            go_roundg (n - c1)
            case measure => omega
            case rel => exact HG.out _ (Nat.le_refl _)
        · have HM : Hid (∀ c x, 0 < c → c < n → par c = i → K[c]? = some x → bt x (K[c2]'h2K) = false) := fun c x h0 hc hpc hx => by
            rcases HPC.out.2.2 c h0 hpc with rfl | rfl
            · rw [List.getElem?_eq_getElem h1K] at hx; cases hx; exact HO.out.asym HR.out.symm
            · rw [List.getElem?_eq_getElem h2K] at hx; cases hx; exact HO.out.irr _
          have HPK : Hid (par c2 = i) := HPC.out.2.1
          clear HR HPC HP HX
          have hm := m_less HP1.out.cell
          obtain ⟨s, hs⟩ : ∃ s, s = bt K[c2] K[i] := ⟨_, rfl⟩
          have HC : Hid (Calls Try.prog 110 #[.slice (some ⟨g, 0, none⟩) K.length cap, .int .i64 (c2 : Int), .int .i64 (i : Int)] w1 fun e w' => e = .returned (.bool s) ∧ Below w1.heap.size w1 w') := by
            have := pless_any HP1.out.row c2 i h2K hiK
            rwa [← hs] at this
          have HS := hid_mk hs
          clear hs
          go_wp2_with (go_at_call 110; fail)
          with_reducible refine HC.out.mono ?_
          rintro e w2 ⟨rfl, hb⟩
          have HP2 : Hid (PAt w2 X g cap K) := HP1.out.keep hb
          have HX2 : Hid (Kx X.b g w w2) := HX1.out.trans (Kx.of_below hb)
          clear hb HC hm HP1 HX1
          cases s
          · go_wp2
            go_ret
            exact ⟨⟨_, rfl⟩, K, HU.out.done HO.out h2K hiK HM.out HS.out.symm, HP2.out, HPM.out, HF.out, HX2.out⟩
          · have hm := m_swap HP2.out.cell
            go_wp2_with (go_at_call 111; fail)
            with_reducible refine (swap_at HP2.out hiK h2K).mono ?_
            rintro e w3 ⟨⟨v3, rfl⟩, hP3, hx3⟩
            have HG : Hid (∀ m, n - c2 ≤ m → DnGo w X g cap L n m (.int .i64 (c2 : Int)) w3) := fun m hm => by
              have hb := HS.out.symm
              exact ⟨c2, _, by omega, hm, rfl, HU.out.step HO.out (by omega) (by omega) h2K hiK HPK.out HM.out hb, hP3, (swapL_perm _ _ _ _ _).trans HPM.out, fun k hk => (swapL_far _ _ _ n _ _ (by omega) (by omega) k hk).trans (HF.out k hk), HX2.out.trans hx3⟩
            clear hP3 hx3 hm
            go_wp2
            go_roundg (n - c2)
            case measure => omega
            case rel => exact HG.out _ (Nat.le_refl _)
      · have HP1 : Hid (PAt wr X g cap K) := HP.out
        have HX1 : Hid (Kx X.b g w wr) := HX.out
        obtain ⟨w1, hw1⟩ : ∃ w1, w1 = wr := ⟨_, rfl⟩
        have HM : Hid (∀ c x, 0 < c → c < n → par c = i → K[c]? = some x → bt x (K[c1]'h1K) = false) := fun c x h0 hc hpc hx => by
            rcases HPC.out.2.2 c h0 hpc with rfl | rfl
            · rw [List.getElem?_eq_getElem h1K] at hx; cases hx; exact HO.out.irr _
            · omega
        have HPK : Hid (par c1 = i) := HPC.out.1
        clear HPC HP HX hm
        rw [← hw1] at HP1 HX1 ⊢
        clear hw1
        have hm := m_less HP1.out.cell
        obtain ⟨s, hs⟩ : ∃ s, s = bt K[c1] K[i] := ⟨_, rfl⟩
        have HC : Hid (Calls Try.prog 110 #[.slice (some ⟨g, 0, none⟩) K.length cap, .int .i64 (c1 : Int), .int .i64 (i : Int)] w1 fun e w' => e = .returned (.bool s) ∧ Below w1.heap.size w1 w') := by
          have := pless_any HP1.out.row c1 i h1K hiK
          rwa [← hs] at this
        have HS := hid_mk hs
        clear hs
        go_wp2_with (go_at_call 110; fail)
        with_reducible refine HC.out.mono ?_
        rintro e w2 ⟨rfl, hb⟩
        have HP2 : Hid (PAt w2 X g cap K) := HP1.out.keep hb
        have HX2 : Hid (Kx X.b g w w2) := HX1.out.trans (Kx.of_below hb)
        clear hb HC hm HP1 HX1
        cases s
        · go_wp2
          go_ret
          exact ⟨⟨_, rfl⟩, K, HU.out.done HO.out h1K hiK HM.out HS.out.symm, HP2.out, HPM.out, HF.out, HX2.out⟩
        · have hm := m_swap HP2.out.cell
          go_wp2_with (go_at_call 111; fail)
          with_reducible refine (swap_at HP2.out hiK h1K).mono ?_
          rintro e w3 ⟨⟨v3, rfl⟩, hP3, hx3⟩
          have HG : Hid (∀ m, n - c1 ≤ m → DnGo w X g cap L n m (.int .i64 (c1 : Int)) w3) := fun m hm => by
            have hb := HS.out.symm
            exact ⟨c1, _, by omega, hm, rfl, HU.out.step HO.out (by omega) (by omega) h1K hiK HPK.out HM.out hb, hP3, (swapL_perm _ _ _ _ _).trans HPM.out, fun k hk => (swapL_far _ _ _ n _ _ (by omega) (by omega) k hk).trans (HF.out k hk), HX2.out.trans hx3⟩
          clear hP3 hx3 hm
          go_wp2
          go_roundg (n - c1)
          case measure => omega
          case rel => exact HG.out _ (Nat.le_refl _)
end Go.Proofs.Ytlnpiadjnjdfiaa.E
