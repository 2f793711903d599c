/- What the second reading of tokens goes by: an escape, blanks, digits. -/
import Derived.Test.YtihdiaklhkecmabRefAt
namespace Go.Proofs.Ytihdiaklhkecmab
open Go.RowKit

theorem row_cell {w : World} {v : Value} {xs : List Int} (hv : RowAt .i32 w v xs) (i : Nat) (h : i < xs.length) :
    ∃ b off cap, v = .slice (some ⟨b, off, none⟩) xs.length cap ∧ xs.length ≤ cap ∧ w.cell? ⟨b, off + i, none⟩ = some (.int .i32 (hd xs i)) := by
  obtain ⟨a, cap, rfl, hcap, hc⟩ := hv
  obtain ⟨b, off, rfl, hcell⟩ := hc (by omega)
  refine ⟨b, off, cap, rfl, hcap, ?_⟩
  have e : hd xs i = xs.getD i 0 := by simp [hd, List.getD, h]
  rw [e]
  exact hcell i h
theorem hex_bd (c : Int) : -1 ≤ hexZ c ∧ hexZ c ≤ 15 := by
  unfold hexZ
  repeat' split
  all_goals omega
theorem hexN_stop {m : Nat} {l : List Int} {n : Int} (h : m = 0 ∨ hexZ (hd l 0) < 0) : hexN m l n = (n, 0) := by
  rcases h with rfl | h
  · rfl
  · cases m with
    | zero => rfl
    | succ m => rw [hexN, if_neg (by omega)]
theorem hexN_step {m : Nat} {l : List Int} {n : Int} (h : 0 ≤ hexZ (hd l 0)) : hexN (m + 1) l n = ((hexN m (l.drop 1) (n * 16 + hexZ (hd l 0))).1, (hexN m (l.drop 1) (n * 16 + hexZ (hd l 0))).2 + 1) := by
  rw [hexN, if_pos h]
theorem ret2_ri {a c : Int} {b d : Int} (h1 : a = c) (h2 : b = d) : Ending.returned (.tuple #[.int .i32 a, .int .i64 b]) = .returned (.tuple #[.int .i32 c, .int .i64 d]) := by rw [h1, h2]
theorem esc_end {t l : List Int} {m k : Nat} {n c : Int} (HE : escT t = (numberedZ (hexN 6 t 0).1, if blankZ (hd t (hexN 6 t 0).2) then (hexN 6 t 0).2 + 1 else (hexN 6 t 0).2))
    (HR : hexN 6 t 0 = ((hexN m l n).1, (hexN m l n).2 + k)) (hs : hexN m l n = (n, 0)) (hc : hd t k = c) : escT t = (numberedZ n, if blankZ c then k + 1 else k) := by
  rw [HE, HR, hs]
  simp only [Nat.zero_add]
  rw [hc]
theorem num_cases (n : Int) (h0 : 0 ≤ n) : ((n == 0) = true ∧ numberedZ n = 65533) ∨ ((n == 0) = false ∧ 1114111 < n ∧ numberedZ n = 65533) ∨ ((n == 0) = false ∧ n ≤ 1114111 ∧ 55296 ≤ n ∧ n < 57344 ∧ numberedZ n = 65533) ∨
    ((n == 0) = false ∧ n ≤ 1114111 ∧ n < 55296 ∧ numberedZ n = n) ∨ ((n == 0) = false ∧ n ≤ 1114111 ∧ 55296 ≤ n ∧ 57344 ≤ n ∧ numberedZ n = n) := by
  unfold numberedZ
  by_cases h : n = 0
  · left; simp [h]
  · right
    have e : (n == 0) = false := by simpa using h
    by_cases h2 : 1114111 < n
    · left; exact ⟨e, h2, by rw [if_pos (by omega)]⟩
    · right
      by_cases h3 : 55296 ≤ n
      · by_cases h4 : n < 57344
        · left; exact ⟨e, by omega, h3, h4, by rw [if_pos (by omega)]⟩
        · right; right; exact ⟨e, by omega, h3, by omega, by rw [if_neg (by omega)]⟩
      · right; left; exact ⟨e, by omega, by omega, by rw [if_neg (by omega)]⟩
def pow16 (k : Nat) : Int := 16 ^ k
theorem pow16_le (k : Nat) (h : k ≤ 6) : pow16 k ≤ 16777216 := by
  unfold pow16
  have : ∀ m : Fin 7, (16 : Int) ^ m.val ≤ 16777216 := by decide
  exact this ⟨k, by omega⟩
theorem pow16_succ (k : Nat) : pow16 (k + 1) = pow16 k * 16 := by unfold pow16; rw [Int.pow_succ]

set_option maxHeartbeats 2000000 in
set_option maxRecDepth 100000 in
theorem rescaped_any {w : World} {v : Value} {xs : List Int} (hv : RowAt .i32 w v xs) (fx : Fine xs) (i : Nat) (j : Int) (hj : j = i) (hi : i < xs.length) :
    Calls Try.prog 53 #[v, .int .i64 j] w fun e w' => e = .returned (.tuple #[.int .i32 (escT (xs.drop (i + 1))).1, .int .i64 ((i + 1 + (escT (xs.drop (i + 1))).2 : Nat) : Int)]) ∧ w = w' := by
  subst hj
  have hl := fx.1
  by_cases hend : i + 1 < xs.length
  · have hne : xs.drop (i + 1) ≠ [] := by simp; omega
    have e0 : hd (xs.drop (i + 1)) 0 = hd xs (i + 1) := hd_drop xs (i + 1) 0
    have hbd := hd_bounds fx (i + 1)
    obtain ⟨b, off, cap, rfl, hcap, c0⟩ := row_cell hv (i + 1) hend
    by_cases hx : hexZ (hd xs (i + 1)) < 0
    · have HE : Hid (escT (xs.drop (i + 1)) = (hd xs (i + 1), 1)) := by show escT (xs.drop (i + 1)) = _; unfold escT; rw [if_neg hne, if_pos (by rw [e0]; exact hx), e0]
      clear e0
      have hh := refHex_any (hd xs (i + 1)) w (by omega)
      generalize hd xs (i + 1) = c at *
      clear hv fx
      have c0' : w.cell? ⟨b, off + i + 1, none⟩ = some (.int .i32 c) := by rw [Nat.add_assoc]; exact c0
      go_enter Try.func53, Try.ntmps53
      go_wp2_with (go_at_call 60; fail)
      refine (hh).mono ?_
      rintro e w' ⟨rfl, rfl⟩
      go_wp2
      go_ret2
      exact ⟨ret2_ri (by rw [HE.out]) (by rw [HE.out]; simp), rfl⟩
    · have HE : Hid (escT (xs.drop (i + 1)) = (numberedZ (hexN 6 (xs.drop (i + 1)) 0).1, if blankZ (hd (xs.drop (i + 1)) (hexN 6 (xs.drop (i + 1)) 0).2) then (hexN 6 (xs.drop (i + 1)) 0).2 + 1 else (hexN 6 (xs.drop (i + 1)) 0).2)) := by
        show escT (xs.drop (i + 1)) = _; unfold escT; rw [if_neg hne, if_neg (by rw [e0]; exact hx)]
      clear e0
      have hh := refHex_any (hd xs (i + 1)) w (by omega)
      have HR := hid_mk (And.intro hv fx)
      have hx2 : 0 ≤ hexZ (hd xs (i + 1)) := by omega
      have hxb := hex_bd (hd xs (i + 1))
      generalize hd xs (i + 1) = c at *
      clear hv fx
      have c0' : w.cell? ⟨b, off + i + 1, none⟩ = some (.int .i32 c) := by rw [Nat.add_assoc]; exact c0
      go_enter Try.func53, Try.ntmps53
      go_wp2_with (go_at_call 60; fail)
      refine (hh).mono ?_
      rintro e w' ⟨rfl, rfl⟩
      go_wp2
      go_loop [1, 6, 7] (fun a1 a6 a7 => ∃ (k : Nat) (n : Int), k ≤ 6 ∧ i + 1 + k ≤ xs.length ∧ a1 = .int .i64 ((i + 1 + k : Nat) : Int) ∧ a6 = .int .i64 n ∧ a7 = .int .i64 (k : Int) ∧ 0 ≤ n ∧ n < pow16 k ∧ hexN 6 (xs.drop (i + 1)) 0 = ((hexN (6 - k) (xs.drop (i + 1 + k)) n).1, (hexN (6 - k) (xs.drop (i + 1 + k)) n).2 + k)) (fun _ _ a7 => 6 - (intOf a7).toNat)
      case atStart => exact ⟨0, 0, by omega, by omega, by go_num, rfl, rfl, by omega, by decide, rfl⟩
      case round =>
        obtain ⟨k, n, hk, hik, rfl, rfl, rfl, hn0, hn1, hrec⟩ := hrel
        have hp16 := pow16_le k hk
        have HREC := hid_mk hrec
        have HN1 := hid_mk hn1
        have hn2 : n < 16777216 := by omega
        clear hrec hn1 c0 c0' hh hp16
        have hat := rat_any HR.out.1 HR.out.2 (i + 1 + k) ((i + 1 + k : Nat) : Int) rfl
        have hbk := hd_bounds HR.out.2 (i + 1 + k)
        have hhk := refHex_any (hd xs (i + 1 + k)) w (by omega)
        have hkb := hex_bd (hd xs (i + 1 + k))
        have e1 : hd (xs.drop (i + 1 + k)) 0 = hd xs (i + 1 + k) := hd_drop xs (i + 1 + k) 0
        have E1 := hid_mk e1
        clear e1
        by_cases h6 : k < 6
        · by_cases hd0 : 0 ≤ hexZ (hd xs (i + 1 + k))
          · have hlt : i + 1 + k < xs.length := by
              rcases Nat.lt_or_ge (i + 1 + k) xs.length with h | h
              · exact h
              · exfalso
                have : hd xs (i + 1 + k) = -1 := by simp [hd, List.getD, List.getElem?_eq_none h]
                rw [this] at hd0
                exact absurd hd0 (by decide)
            obtain ⟨b', off', cap', hv', _, c1⟩ := row_cell HR.out.1 (i + 1 + k) hlt
            cases hv'
            have HS := hid_mk (hexN_step (m := 6 - (k + 1)) (l := xs.drop (i + 1 + k)) (n := n) (by rw [E1.out]; exact hd0))
            rw [E1.out, List.drop_drop] at HS
            generalize hd xs (i + 1 + k) = ck at *
            have c1' : w.cell? ⟨b, off + (i + 1 + k), none⟩ = some (.int .i32 ck) := c1
            clear c1
            generalize hp : i + 1 + k = p at *
            have HP := hid_mk hp
            clear hp
            go_wp2_with (go_at_call 39; fail)
            refine (hat).mono ?_
            rintro e w' ⟨rfl, rfl⟩
            go_wp2_with (go_at_call 60; fail)
            refine (hhk).mono ?_
            rintro e w' ⟨rfl, rfl⟩
            go_wp2_with (go_at_call 60; fail)
            refine (hhk).mono ?_
            rintro e w' ⟨rfl, rfl⟩
            go_wp2
            go_round
            case rel =>
              refine ⟨k + 1, n * 16 + hexZ ck, by omega, by have := HP.out; omega, by have := HP.out; go_num, by first | rfl | (congr 1; omega), by go_num, by omega, ?_, ?_⟩
              · rw [pow16_succ]; have := HN1.out; omega
              · rw [HREC.out, show 6 - k = 6 - (k + 1) + 1 by omega, HS.out]
                have e3 : i + 1 + (k + 1) = p + 1 := by have := HP.out; omega
                rw [e3]
                simp only [Nat.add_assoc, Nat.add_comm 1 k]
            case measure => simp [intOf]; omega
          · have hst := hexN_stop (m := 6 - k) (l := xs.drop (i + 1 + k)) (n := n) (.inr (by rw [E1.out]; omega))
            have hd1 : hexZ (hd xs (i + 1 + k)) < 0 := by omega
            clear hd0
            have HF := hid_mk (esc_end HE.out HREC.out hst (hd_drop xs (i + 1) k))
            clear hst
            generalize hd xs (i + 1 + k) = ck at *
            generalize hp : i + 1 + k = p at *
            have HP := hid_mk hp
            clear hp
            have hbt := refBlank_any ck w
            cases hbl : blankZ ck
            all_goals
              rw [hbl] at hbt
              have HB := hid_mk hbl
              clear hbl
              rcases num_cases n hn0 with ⟨f1, hnz⟩ | ⟨f1, f2, hnz⟩ | ⟨f1, f2, f3, f4, hnz⟩ | ⟨f1, f2, f3, hnz⟩ | ⟨f1, f2, f3, f4, hnz⟩
              all_goals
                have HZ := hid_mk hnz
                clear hnz
                go_wp2_with (go_at_call 39; fail)
                refine (hat).mono ?_
                rintro e w' ⟨rfl, rfl⟩
                go_wp2_with (go_at_call 60; fail)
                refine (hhk).mono ?_
                rintro e w' ⟨rfl, rfl⟩
                go_wp2_with (go_at_call 39; fail)
                refine (hat).mono ?_
                rintro e w' ⟨rfl, rfl⟩
                go_wp2_with (go_at_call 40; fail)
                refine (hbt).mono ?_
                rintro e w' ⟨rfl, rfl⟩
                go_wp2
                go_ret2
                exact ⟨ret2_ri (by rw [HF.out, HZ.out]) (by rw [HF.out, HB.out]; have := HP.out; simp; try omega), rfl⟩
        · have hst := hexN_stop (m := 6 - k) (l := xs.drop (i + 1 + k)) (n := n) (.inl (by omega))
          have hk6 : (6 : Int) ≤ (k : Int) := by omega
          have HF := hid_mk (esc_end HE.out HREC.out hst (hd_drop xs (i + 1) k))
          clear hst
          generalize hd xs (i + 1 + k) = ck at *
          generalize hp : i + 1 + k = p at *
          have HP := hid_mk hp
          clear hp
          have hbt := refBlank_any ck w
          cases hbl : blankZ ck
          all_goals
            rw [hbl] at hbt
            have HB := hid_mk hbl
            clear hbl
            rcases num_cases n hn0 with ⟨f1, hnz⟩ | ⟨f1, f2, hnz⟩ | ⟨f1, f2, f3, f4, hnz⟩ | ⟨f1, f2, f3, hnz⟩ | ⟨f1, f2, f3, f4, hnz⟩
            all_goals
              have HZ := hid_mk hnz
              clear hnz
              go_wp2_with (go_at_call 39; fail)
              refine (hat).mono ?_
              rintro e w' ⟨rfl, rfl⟩
              go_wp2_with (go_at_call 40; fail)
              refine (hbt).mono ?_
              rintro e w' ⟨rfl, rfl⟩
              go_wp2
              go_ret2
              exact ⟨ret2_ri (by rw [HF.out, HZ.out]) (by rw [HF.out, HB.out]; have := HP.out; simp; try omega), rfl⟩
  · have hnil : xs.drop (i + 1) = [] := by simp; omega
    have HE : Hid (escT (xs.drop (i + 1)) = (65533, 0)) := by show escT (xs.drop (i + 1)) = _; rw [hnil]; rfl
    obtain ⟨b, off, cap, rfl, hcap, c0⟩ := row_cell hv i hi
    have h2 : (xs.length : Int) ≤ (i : Int) + 1 := by omega
    clear hv fx hnil c0
    go_enter Try.func53, Try.ntmps53
    go_wp2
    go_ret2
    exact ⟨ret2_ri (by rw [HE.out]) (by rw [HE.out]; simp), rfl⟩
end Go.Proofs.Ytihdiaklhkecmab
