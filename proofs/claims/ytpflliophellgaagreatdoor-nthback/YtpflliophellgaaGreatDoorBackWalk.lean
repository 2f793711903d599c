/- gouachelaw04.NthBack, whatever the two numbers. -/
import Derived.Test.YtpflliophellgaaGreatDoorBackM
import Derived.Test.YtpflliophellgaaGreatDoorNLives
namespace Go.Proofs.YtpflliophellgaaGreatDoor
open Go.RowKit
set_option maxRecDepth 100000

theorem charsFrom_len (s : ByteArray) : ∀ (f pos : Nat), (charsFrom s f pos).length ≤ f
  | 0, _ => by simp [charsFrom]
  | f + 1, pos => by
    rw [charsFrom]
    split
    · have := charsFrom_len s f (pos + (Utf8.decode s pos).2)
      simp only [List.length_cons]
      omega
    · simp
theorem norm_len : ∀ (l : List Int) (last : Int), (normZ last l).length ≤ l.length
  | [], last => by simp [normZ]
  | c :: r, last => by
    have h1 := norm_len r c
    rw [normZ]
    split
    · simp only [List.length_cons]; omega
    · simp only [List.length_cons]; omega
theorem runes_len (s : ByteArray) : (runesZ s).length ≤ s.size := Nat.le_trans (norm_len _ _) (charsFrom_len s _ _)
theorem runes_fine (s : ByteArray) (hs : s.size ≤ 1000000000) : Fine (runesZ s) := ⟨Nat.le_trans (runes_len s) hs, fun c hc => (runes_told s c hc).1⟩
theorem outs_toks {B : Nat} {w : World} {out : Value} {ts : List Tok} (h : Outs B w out ts) : N.ToksAt w out (ts.map toTk) := by
  apply N.toks_own (B := B)
  rw [List.length_map, List.flatMap_map]
  exact h

set_option maxHeartbeats 2000000 in
theorem back_in (W : World) (a b : Int) (a0 : -1000000 ≤ a) (a1 : a ≤ 1000000) (b0 : -1000000 ≤ b) (b1 : b ≤ 1000000) (hp : N.Pow W) :
    Calls Tryz.prog 3 #[.int .i64 a, .int .i64 b] W fun e w' => e = .returned (.bool true) ∧ Below W.heap.size W w' := by
  have hpr := N.print_any a b (by omega) (by omega) (by omega) (by omega) W hp
  rw [print_eq] at hpr
  have hpc := pc_print a b a0 a1 b0 b1
  have hsz : (strOfNums (printL a b)).size ≤ 60 := by
    rw [N.strOf_size]
    exact print_len a b
  have HRU : Hid (runesZ (strOfNums (printL a b)) = printL a b) := runes_print hpc
  obtain ⟨g1, g2, g3, g4⟩ := told2_of (told_print a b a0 a1 b0 b1)
  have HG1 := hid_mk g1
  have HG2 := hid_mk g2
  have HG3 := hid_mk g3
  have HG4 := hid_mk g4
  have HRD := hid_mk (read_print a b a0 a1 b0 b1)
  have hlv := fun w => N.lives_any w
  clear g1 g2 g3 g4 hpc hp
  generalize printL a b = L at *
  have HFI := hid_mk (runes_fine (strOfNums L) (by omega))
  have z1 : decide (a < -1000000) = false := by simp; omega
  have z2 : decide ((1000000 : Int) < a) = false := by simp; omega
  have z3 : decide (b < -1000000) = false := by simp; omega
  have z4 : decide ((1000000 : Int) < b) = false := by simp; omega
  go_enter Tryz.func3, Tryz.ntmps3
  go_wp2_with (go_at_call 9; fail)
  refine (hpr).mono ?_
  rintro e w1 ⟨rfl, b1w⟩
  clear hpr
  obtain ⟨g, cap, W2, hcv, hcap, hg, hcell, _, hB2⟩ := bytesOf (strOfNums L) w1
  have hba : BytesAt W2 (.slice (some ⟨g, 0, none⟩) (strOfNums L).size cap) (strOfNums L) := ⟨_, _, rfl, hcap, fun _ => ⟨g, 0, rfl, fun j hj => by simpa using hcell j hj⟩⟩
  have hru := runes_any _ (strOfNums L) W2 (by omega) hba
  have B2 := b1w.trans (hB2.mono b1w.size)
  clear hcell hba hB2 b1w hg
  go_wp2_with (go_at_call 8; fail)
  refine (hru).mono ?_
  rintro e w3 ⟨u, rfl, hown, hb3⟩
  have B3 : Below W.heap.size W w3 := B2.trans (hb3.mono B2.size)
  have hrow := RowAt.own hown
  obtain ⟨a', c2, hu⟩ : ∃ a c2, u = .slice a (runesZ (strOfNums L)).length c2 := by
    rcases hown.2 with ⟨hv, hz⟩ | ⟨g2, c2, cur, hv, _⟩
    · exact ⟨none, 0, by rw [hv, hz]⟩
    · exact ⟨_, c2, hv⟩
  have hlow : ∀ ad, a' = some ad → ad.block < w3.heap.size := by
    intro ad e
    rcases hown.2 with ⟨hv, _⟩ | ⟨g2, c3, cur, hv, _, hg2, _⟩
    · rw [hv, e] at hu; cases hu
    · rw [hv, e] at hu
      cases hu
      exact (Array.getElem?_eq_some_iff.1 hg2).1
  subst hu
  have ht0 := tokens_any a' c2 (runesZ (strOfNums L)) w3 HFI.out hrow hlow
  rw [HRU.out] at ht0
  rw [HRU.out]
  have ht : Calls Tryz.prog 7 #[.slice a' L.length c2] w3 fun e w' => ∃ out, e = .returned out ∧ N.ToksAt w' out ((toks L).map toTk) ∧ Below w3.heap.size w3 w' := by
    refine ht0.mono ?_
    rintro e w' ⟨out, he, ho, hb⟩
    exact ⟨out, he, outs_toks ho, hb⟩
  clear hown hrow hlow hru hb3 B2 hcv ht0 HFI HRU hsz
  generalize (toks L).map toTk = tks at *
  have HVA : Hid (∀ (w4 : World) out, N.ToksAt w4 out tks → Calls Tryz.prog 6 #[out] w4 fun e w' => ∃ out, e = .returned out ∧ N.ValsAt w' out tks ∧ Below w4.heap.size w4 w') := fun w4 out h => N.values_flat w4 out tks h (by have := HG2.out; omega) HG3.out
  have HPA : Hid (∀ (w5 : World) out, N.ValsAt w5 out tks → Calls Tryz.prog 5 #[out] w5 fun e w' => e = .returned (.tuple #[.int .i64 a, .int .i64 b, .bool true]) ∧ Below w5.heap.size w5 w') := by
    intro w5 out h
    have := N.parse_any w5 out tks h HG2.out HG4.out
    rw [HG1.out, HRD.out] at this
    exact this
  clear HG1 HG2 HG3 HG4 HRD
  go_wp2_with (go_at_call 7; fail)
  refine (ht).mono ?_
  rintro e w4 ⟨out, rfl, hta, hb4⟩
  have B4 := B3.trans (hb4.mono B3.size)
  have hva := HVA.out w4 out hta
  obtain ⟨a4, c4, e4, -⟩ := hta
  subst e4
  clear ht hb4 B3 HVA
  go_wp2_with (go_at_call 6; fail)
  refine (hva).mono ?_
  rintro e w5 ⟨out5, rfl, hv5, hb5⟩
  have B5 := B4.trans (hb5.mono B4.size)
  have hpa := HPA.out w5 out5 hv5
  obtain ⟨a5, c5, e5, -⟩ := hv5
  subst e5
  clear hva hb5 B4 HPA
  go_wp2_with (go_at_call 5; fail)
  refine (hpa).mono ?_
  rintro e w6 ⟨rfl, hb6⟩
  have B6 := B5.trans (hb6.mono B5.size)
  clear hpa hb6 B5
  go_wp2_with (go_at_call 4; fail)
  refine (hlv _).mono ?_
  rintro e w' ⟨rfl, rfl⟩
  go_wp2
  go_ret
  exact ⟨rfl, B6⟩
set_option maxHeartbeats 2000000 in
theorem back_walk (W : World) (a b : Int) (hp : N.Pow W) :
    Calls Tryz.prog 3 #[.int .i64 a, .int .i64 b] W fun e w' => e = .returned (.bool true) ∧ Below W.heap.size W w' := by
  by_cases h : (-1000000 ≤ a ∧ a ≤ 1000000) ∧ -1000000 ≤ b ∧ b ≤ 1000000
  · exact back_in W a b h.1.1 h.1.2 h.2.1 h.2.2 hp
  · have hlv := fun w => N.lives_any w
    have hB : Below W.heap.size W W := Below.refl _ W
    have key : ∀ (p q r s : Bool), p = decide (a < -1000000) → q = decide ((1000000 : Int) < a) → r = decide (b < -1000000) → s = decide ((1000000 : Int) < b) → (p || q || r || s) = true →
        Calls Tryz.prog 3 #[.int .i64 a, .int .i64 b] W fun e w' => e = .returned (.bool true) ∧ Below W.heap.size W w' := by
      intro p q r s z1 z2 z3 z4 hs
      clear h
      have z1' := z1.symm
      have z2' := z2.symm
      have z3' := z3.symm
      have z4' := z4.symm
      clear z1 z2 z3 z4
      cases p <;> cases q <;> cases r <;> cases s
      all_goals first
        | (exact absurd hs (by decide))
        | (clear hs
           go_enter Tryz.func3, Tryz.ntmps3
           go_wp2_with (go_at_call 4; fail)
           refine (hlv _).mono ?_
           rintro e w' ⟨rfl, rfl⟩
           go_wp2
           go_ret
           exact ⟨rfl, hB⟩)
    refine key _ _ _ _ rfl rfl rfl rfl ?_
    simp
    omega

end Go.Proofs.YtpflliophellgaaGreatDoor
