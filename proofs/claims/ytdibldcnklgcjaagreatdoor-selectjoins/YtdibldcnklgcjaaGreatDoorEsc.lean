/- What an escape at the cutter's place stands for, and what is left behind it. -/
import Derived.Test.YtdibldcnklgcjaaGreatDoorBuild
namespace Go.Proofs.YtdibldcnklgcjaaGreatDoor
open Go.RowKit
set_option maxRecDepth 100000

def validB (c : Int) : Bool := decide ((0 ≤ c ∧ c < 55296) ∨ (57343 < c ∧ c ≤ 1114111))
theorem valid_any (c : Int) (w : World) : Calls Tryz.prog 86 #[.int .i32 c] w fun e w' => e = .returned (.bool (validB c)) ∧ w = w' := by
  rcases (show c < 0 ∨ (0 ≤ c ∧ c < 55296) ∨ (55296 ≤ c ∧ c ≤ 57343) ∨ (57343 < c ∧ c ≤ 1114111) ∨ 1114111 < c by omega) with h | ⟨h, k⟩ | ⟨h, k⟩ | ⟨h, k⟩ | h
  all_goals
    have HV : Hid (validB c = decide ((0 ≤ c ∧ c < 55296) ∨ (57343 < c ∧ c ≤ 1114111))) := rfl
    go_enter Tryz.func86, Tryz.ntmps86
    go_wp2
    go_ret
    exact ⟨ret_bool (by rw [HV.out]; simp; omega), rfl⟩

theorem numbered_any (n : Int) (w : World) (h0 : 0 ≤ n) (h1 : n ≤ 16777215) : Calls Tryz.prog 95 #[.int .i64 n] w fun e w' => e = .returned (.int .i32 (numberedZ n)) ∧ w = w' := by
  by_cases hz : n = 0
  · subst hz
    go_enter Tryz.func95, Tryz.ntmps95
    go_wp2
    go_ret
    exact ⟨rfl, rfl⟩
  · have e0 : (n == 0) = false := by simpa using hz
    have HN : Hid (numberedZ n = if validB n then n else 65533) := by
      show numberedZ n = _
      unfold numberedZ validB
      split <;> split <;> first | rfl | (exfalso; simp at *; omega)
    have hv := fun w => valid_any n w
    cases hb : validB n
    all_goals
      rw [hb] at hv
      go_enter Tryz.func95, Tryz.ntmps95
      go_wp2_with (go_at_call 86; fail)
      refine (hv _).mono ?_
      rintro e w' ⟨rfl, rfl⟩
      go_wp2
      go_ret
      exact ⟨ret_int (by rw [HN.out, hb]; rfl), rfl⟩

theorem hex_bound (c : Int) : -1 ≤ hexZ c ∧ hexZ c ≤ 15 := by
  unfold hexZ
  split
  · omega
  · split
    · omega
    · split <;> omega
def pw : Nat → Int
  | 0 => 1
  | k + 1 => 16 * pw k
theorem pw_le {k : Nat} (h : k ≤ 6) : pw k ≤ 16777216 := by
  rcases (show k = 0 ∨ k = 1 ∨ k = 2 ∨ k = 3 ∨ k = 4 ∨ k = 5 ∨ k = 6 by omega) with rfl | rfl | rfl | rfl | rfl | rfl | rfl <;> decide
theorem hexN_step {k : Nat} {c : Int} {t : List Int} {n : Int} (h : 0 ≤ hexZ c) : hexN (k + 1) (c :: t) n = ((hexN k t (n * 16 + hexZ c)).1, (hexN k t (n * 16 + hexZ c)).2 + 1) := by
  have e : hd (c :: t) 0 = c := rfl
  rw [hexN, e, if_pos h]
  rfl
theorem hexN_stop {k : Nat} {l : List Int} {n : Int} (h : k = 0 ∨ hexZ (hd l 0) < 0) : hexN k l n = (n, 0) := by
  cases k with
  | zero => rfl
  | succ k =>
    rw [hexN, if_neg]
    rcases h with h | h
    · omega
    · omega

section
variable {w : World} {b : Nat} {v out : Value} {xs l : List Int}
theorem fine_hd (fx : Fine xs) (h : At w b v out xs l) (i : Nat) : -1 ≤ hd l i ∧ hd l i ≤ 1114111 := by
  obtain ⟨p, _, _, _, _, rfl⟩ := h
  by_cases hi : p + i < xs.length
  · rw [hd_get hi]
    have := fx.2 (xs.getD (p + i) 0) (by simp [List.getD, hi])
    unfold IsChar at this
    omega
  · rw [hd_out hi]
    omega
theorem done_w (h : At w b v out xs l) (fx : Fine xs) :
    Calls Tryz.prog 28 #[.pointer (some ⟨b, 0, none⟩)] w fun e w' => e = .returned (.bool (decide (l = []))) ∧ ∃ m, w' = w.drewN m := done_r h fx 0
theorem next_w (h : At w b v out xs l) (fx : Fine xs) (c : Int) (t : List Int) (hl : l = c :: t) :
    Calls Tryz.prog 49 #[.pointer (some ⟨b, 0, none⟩)] w fun e w' => e = .returned (.int .i32 c) ∧ At w' b v out xs t ∧ Kept b w w' := next_r h fx c t hl 0

def GoneBy (w : World) (b : Nat) (v out : Value) (xs t : List Int) (wr : World) (n d : Value) : Prop :=
  ∃ (k : Nat) (acc : Int), n = .int .i64 acc ∧ d = .int .i64 k ∧ k ≤ 6 ∧ 0 ≤ acc ∧ acc < pw k ∧ At wr b v out xs (t.drop k) ∧ Kept b w wr ∧ hexN 6 t 0 = ((hexN (6 - k) (t.drop k) acc).1, k + (hexN (6 - k) (t.drop k) acc).2)

set_option maxHeartbeats 1000000 in
theorem escape_any (c : Int) (t : List Int) (h : At w b v out xs (c :: t)) (fx : Fine xs) :
    Calls Tryz.prog 73 #[.pointer (some ⟨b, 0, none⟩)] w fun e w' => e = .returned (.int .i32 (escT t).1) ∧ At w' b v out xs (t.drop (escT t).2) ∧ Kept b w w' := by
  have hn := next_w h fx c t rfl
  by_cases ht : t = []
  · subst ht
    have e1 : escT [] = (65533, 0) := rfl
    rw [e1]
    go_enter Tryz.func73, Tryz.ntmps73
    go_wp2_with (go_at_call 49; fail)
    refine (hn).mono ?_
    rintro e w1 ⟨rfl, h1, k1⟩
    have hd1 := done_w h1 fx
    go_wp2_with (go_at_call 28; fail)
    refine (hd1).mono ?_
    rintro e w' ⟨rfl, m, rfl⟩
    go_wp2
    go_ret
    exact ⟨rfl, at_drew h1 m, k1.trans (Kept.drewN b w1 m)⟩
  · have et : decide (t = []) = false := by simpa using ht
    obtain ⟨c2, t2, hct⟩ := List.exists_cons_of_ne_nil ht
    by_cases hx : hexZ c2 < 0
    · subst hct
      have e1 : escT (c2 :: t2) = (c2, 1) := by unfold escT; rw [if_neg ht, if_pos (show hexZ (hd (c2 :: t2) 0) < 0 from hx)]; rfl
      rw [e1]
      go_enter Tryz.func73, Tryz.ntmps73
      go_wp2_with (go_at_call 49; fail)
      refine (hn).mono ?_
      rintro e w1 ⟨rfl, h1, k1⟩
      have hd1 := done_w h1 fx
      rw [et] at hd1
      have hb := fine_hd fx h1 0
      have e2 : hd (c2 :: t2) 0 = c2 := rfl
      rw [e2] at hb
      go_wp2_with (go_at_call 28; fail)
      refine (hd1).mono ?_
      rintro e w' ⟨rfl, m, rfl⟩
      have ha := ahead_r h1 fx 0 0 rfl (by omega) m
      rw [e2] at ha
      go_wp2_with (go_at_call 46; fail)
      refine (ha).mono ?_
      rintro e w' ⟨rfl, m2, rfl⟩
      go_wp2_with (go_at_call 94; fail)
      refine (hex_any c2 _ (by omega)).mono ?_
      rintro e w' ⟨rfl, rfl⟩
      have hn2 := next_r h1 fx c2 t2 rfl m2
      go_wp2_with (go_at_call 49; fail)
      refine (hn2).mono ?_
      rintro e w3 ⟨rfl, h3, k3⟩
      go_wp2
      go_ret
      exact ⟨rfl, h3, k1.trans k3⟩
    · have hx0 : 0 ≤ hexZ c2 := by omega
      have e2 : hd t 0 = c2 := by rw [hct]; rfl
      have HE : Hid (escT t = (numberedZ (hexN 6 t 0).1, if blankZ (hd t (hexN 6 t 0).2) then (hexN 6 t 0).2 + 1 else (hexN 6 t 0).2)) := by
        show escT t = _
        unfold escT
        rw [if_neg ht, if_neg (by rw [e2]; exact hx)]
      clear hct
      go_enter Tryz.func73, Tryz.ntmps73
      go_wp2_with (go_at_call 49; fail)
      refine (hn).mono ?_
      rintro e w1 ⟨rfl, h1, k1⟩
      have hd1 := done_w h1 fx
      rw [et] at hd1
      have hb := fine_hd fx h1 0
      rw [e2] at hb
      go_wp2_with (go_at_call 28; fail)
      refine (hd1).mono ?_
      rintro e w' ⟨rfl, m, rfl⟩
      have ha := ahead_r h1 fx 0 0 rfl (by omega) m
      rw [e2] at ha
      go_wp2_with (go_at_call 46; fail)
      refine (ha).mono ?_
      rintro e w' ⟨rfl, m2, rfl⟩
      go_wp2_with (go_at_call 94; fail)
      refine (hex_any c2 _ (by omega)).mono ?_
      rintro e w' ⟨rfl, rfl⟩
      go_wp2
      have h2 := at_drew h1 m2
      have k2 : Kept b w (w1.drewN m2) := k1.trans (Kept.drewN b w1 m2)
      clear ha hd1 hn et
      clear e2
      go_loopw [3, 4] (fun n d wr => GoneBy w b v out xs t wr n d) (fun _ d _ => 6 - (intOf d).toNat)
      case atStart => exact ⟨0, 0, rfl, rfl, by omega, by omega, by decide, h2, k2, by simp⟩
      case round =>
        obtain ⟨k, acc, rfl, rfl, hk, ha0, hap, hat, hkp, heq⟩ := hrel
        have hpw := pw_le hk
        have HQ : Hid (hexN 6 t 0 = ((hexN (6 - k) (t.drop k) acc).1, k + (hexN (6 - k) (t.drop k) acc).2)) := heq
        have HP : Hid (acc < pw k) := hap
        have hab : acc < 16777216 := by omega
        clear heq hap hpw
        have hbd := fine_hd fx hat 0
        have ha := ahead_w hat fx 0 0 rfl (by omega)
        by_cases hgo : k < 6 ∧ 0 ≤ hexZ (hd (t.drop k) 0)
        · obtain ⟨hk6, hx1⟩ := hgo
          obtain ⟨c3, t3, hct⟩ : ∃ c3 t3, t.drop k = c3 :: t3 := by
            cases hc : t.drop k with
            | nil => rw [hc] at hx1; exact absurd hx1 (by decide)
            | cons a r => exact ⟨a, r, rfl⟩
          have e3 : hd (t.drop k) 0 = c3 := by rw [hct]; rfl
          have HT : Hid (t.drop (k + 1) = t3) := by
            have := congrArg (List.drop 1) hct
            show t.drop (k + 1) = t3
            simpa [List.drop_drop] using this
          have HC : Hid (t.drop k = c3 :: t3) := hct
          rw [e3] at ha hbd hx1
          have hxb := hex_bound c3
          have hn3 := fun m => next_r hat fx c3 t3 HC.out m
          clear hct e3
          go_wp2_with (go_at_call 46; fail)
          refine (ha).mono ?_
          rintro e w' ⟨rfl, m3, rfl⟩
          go_wp2_with (go_at_call 94; fail)
          refine (hex_any c3 _ (by omega)).mono ?_
          rintro e w' ⟨rfl, rfl⟩
          go_wp2_with (go_at_call 49; fail)
          refine (hn3 _).mono ?_
          rintro e w4 ⟨rfl, h4, k4⟩
          go_wp2_with (go_at_call 94; fail)
          refine (hex_any c3 _ (by omega)).mono ?_
          rintro e w' ⟨rfl, rfl⟩
          go_wp2
          go_roundw
          case rel =>
            have hp' := HP.out
            refine ⟨k + 1, acc * 16 + hexZ c3, rfl, by go_num, by omega, by omega, ?_, ?_, hkp.trans k4, ?_⟩
            · show acc * 16 + hexZ c3 < 16 * pw k
              omega
            · rw [HT.out]; exact h4
            · rw [HQ.out, HC.out, HT.out]
              obtain ⟨q, hq⟩ : ∃ q, 6 - k = q + 1 := ⟨5 - k, by omega⟩
              have hq2 : 6 - (k + 1) = q := by omega
              rw [hq, hq2, hexN_step hx1]
              simp only [Prod.mk.injEq, true_and]
              omega
          case measure => simp [intOf]; omega
        · by_cases hk6 : k < 6
          · have hx1 : hexZ (hd (t.drop k) 0) < 0 := by omega
            have hst : 6 - k = 0 ∨ hexZ (hd (t.drop k) 0) < 0 := .inr hx1
            clear hgo
            have ha5 := fun m => ahead_r hat fx 0 0 rfl (by omega) m
            have HX : Hid (hexN 6 t 0 = (acc, k)) := by
              show hexN 6 t 0 = (acc, k)
              rw [HQ.out, hexN_stop hst]
              simp
            have HE2 : Hid (escT t = (numberedZ acc, if blankZ (hd (t.drop k) 0) then k + 1 else k)) := by
              have := HE.out
              rw [HX.out] at this
              rw [hd_drop]
              exact this
            cases hbl : blankZ (hd (t.drop k) 0)
            · go_wp2_with (go_at_call 46; fail)
              refine (ha).mono ?_
              rintro e w' ⟨rfl, m3, rfl⟩
              go_wp2_with (go_at_call 94; fail)
              refine (hex_any _ _ (by omega)).mono ?_
              rintro e w' ⟨rfl, rfl⟩
              go_wp2_with (go_at_call 46; fail)
              refine (ha5 _).mono ?_
              rintro e w' ⟨rfl, m5, rfl⟩
              go_wp2_with (go_at_call 45; fail)
              refine (blank_any _ _).mono ?_
              rintro e w' ⟨rfl, rfl⟩
              go_wp2_with (go_at_call 95; fail)
              refine (numbered_any acc _ (by omega) (by omega)).mono ?_
              rintro e w' ⟨rfl, rfl⟩
              go_wp2
              go_ret
              exact ⟨ret_int (by rw [HE2.out]), by rw [HE2.out, hbl]; exact at_drew hat _, hkp.trans (Kept.drewN b wr _)⟩
            · obtain ⟨c3, t3, hct⟩ : ∃ c3 t3, t.drop k = c3 :: t3 := by
                cases hc : t.drop k with
                | nil => rw [hc] at hbl; exact absurd hbl (by decide)
                | cons a r => exact ⟨a, r, rfl⟩
              have HT : Hid (t.drop (k + 1) = t3) := by
                have := congrArg (List.drop 1) hct
                show t.drop (k + 1) = t3
                simpa [List.drop_drop] using this
              have hn3 := fun m => next_r hat fx c3 t3 hct m
              clear hct
              go_wp2_with (go_at_call 46; fail)
              refine (ha).mono ?_
              rintro e w' ⟨rfl, m3, rfl⟩
              go_wp2_with (go_at_call 94; fail)
              refine (hex_any _ _ (by omega)).mono ?_
              rintro e w' ⟨rfl, rfl⟩
              go_wp2_with (go_at_call 46; fail)
              refine (ha5 _).mono ?_
              rintro e w' ⟨rfl, m5, rfl⟩
              go_wp2_with (go_at_call 45; fail)
              refine (blank_any _ _).mono ?_
              rintro e w' ⟨rfl, rfl⟩
              go_wp2_with (go_at_call 49; fail)
              refine (hn3 _).mono ?_
              rintro e w6 ⟨rfl, h6, k6⟩
              go_wp2_with (go_at_call 95; fail)
              refine (numbered_any acc _ (by omega) (by omega)).mono ?_
              rintro e w' ⟨rfl, rfl⟩
              go_wp2
              go_ret
              exact ⟨ret_int (by rw [HE2.out]), by rw [HE2.out, hbl]; simp only [if_true]; rw [HT.out]; exact h6, hkp.trans k6⟩
          · have hst : 6 - k = 0 ∨ hexZ (hd (t.drop k) 0) < 0 := .inl (by omega)
            clear hgo
            have HX : Hid (hexN 6 t 0 = (acc, k)) := by
              show hexN 6 t 0 = (acc, k)
              rw [HQ.out, hexN_stop hst]
              simp
            have HE2 : Hid (escT t = (numberedZ acc, if blankZ (hd (t.drop k) 0) then k + 1 else k)) := by
              have := HE.out
              rw [HX.out] at this
              rw [hd_drop]
              exact this
            cases hbl : blankZ (hd (t.drop k) 0)
            · go_wp2_with (go_at_call 46; fail)
              refine (ha).mono ?_
              rintro e w' ⟨rfl, m5, rfl⟩
              go_wp2_with (go_at_call 45; fail)
              refine (blank_any _ _).mono ?_
              rintro e w' ⟨rfl, rfl⟩
              go_wp2_with (go_at_call 95; fail)
              refine (numbered_any acc _ (by omega) (by omega)).mono ?_
              rintro e w' ⟨rfl, rfl⟩
              go_wp2
              go_ret
              exact ⟨ret_int (by rw [HE2.out]), by rw [HE2.out, hbl]; exact at_drew hat _, hkp.trans (Kept.drewN b wr _)⟩
            · obtain ⟨c3, t3, hct⟩ : ∃ c3 t3, t.drop k = c3 :: t3 := by
                cases hc : t.drop k with
                | nil => rw [hc] at hbl; exact absurd hbl (by decide)
                | cons a r => exact ⟨a, r, rfl⟩
              have HT : Hid (t.drop (k + 1) = t3) := by
                have := congrArg (List.drop 1) hct
                show t.drop (k + 1) = t3
                simpa [List.drop_drop] using this
              have hn3 := fun m => next_r hat fx c3 t3 hct m
              clear hct
              go_wp2_with (go_at_call 46; fail)
              refine (ha).mono ?_
              rintro e w' ⟨rfl, m5, rfl⟩
              go_wp2_with (go_at_call 45; fail)
              refine (blank_any _ _).mono ?_
              rintro e w' ⟨rfl, rfl⟩
              go_wp2_with (go_at_call 49; fail)
              refine (hn3 _).mono ?_
              rintro e w6 ⟨rfl, h6, k6⟩
              go_wp2_with (go_at_call 95; fail)
              refine (numbered_any acc _ (by omega) (by omega)).mono ?_
              rintro e w' ⟨rfl, rfl⟩
              go_wp2
              go_ret
              exact ⟨ret_int (by rw [HE2.out]), by rw [HE2.out, hbl]; simp only [if_true]; rw [HT.out]; exact h6, hkp.trans k6⟩
end
end Go.Proofs.YtdibldcnklgcjaaGreatDoor
