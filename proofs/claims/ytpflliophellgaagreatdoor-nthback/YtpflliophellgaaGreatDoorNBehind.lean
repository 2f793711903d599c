/- nth.cutBehind, whatever the text. -/
import Derived.Test.YtpflliophellgaaGreatDoorNSignAhead
namespace Go.Proofs.YtpflliophellgaaGreatDoor.N
open Go.RowKit

def trimZ (s : ByteArray) : ByteArray := if h : 0 < s.size then (if (s[0]'h).toNat = 32 then s.extract 1 s.size else s) else s
theorem trim_size (s : ByteArray) : (trimZ s).size ≤ s.size := by
  unfold trimZ
  split
  · split
    · simp
    · exact Nat.le_refl _
  · exact Nat.le_refl _
theorem sgn_size (s : ByteArray) : (sgnZ s).2.size ≤ s.size := by
  unfold sgnZ
  split
  · split
    · simp
    · split
      · simp
      · exact Nat.le_refl _
  · exact Nat.le_refl _
set_option maxHeartbeats 400000 in
theorem trimPrefix_any (s : ByteArray) (w : World) : Calls Tryz.prog 82 #[.string s, .string ⟨#[32]⟩] w fun e w' => e = .returned (.string (trimZ s)) ∧ w = w' := by
  by_cases h0 : 0 < s.size
  · have f1 := first_list s h0 32
    have h1 : (1 : Int) ≤ (s.size : Int) := by omega
    by_cases h32 : (s[0]'h0).toNat = 32
    · have e32 : (s[0]'h0) = 32 := UInt8.toNat_inj.1 h32
      have HS : Hid (trimZ s = s.extract 1 s.size) := by
        show _ = _
        unfold trimZ
        rw [dif_pos h0, if_pos h32]
      have z1 : ((s.extract 0 1).toList == [32]) = true := by rw [f1, e32]; rfl
      clear f1 h32 e32
      go_enter Tryz.func82, Tryz.ntmps82
      go_wp2
      go_ret
      exact ⟨congrArg (fun s => Ending.returned (.string s)) HS.out.symm, rfl⟩
    · have HS : Hid (trimZ s = s) := by
        show _ = _
        unfold trimZ
        rw [dif_pos h0, if_neg h32]
      have n32 : ((s[0]'h0) == 32) = false := by
        rw [Bool.eq_false_iff]
        intro h
        have : (s[0]'h0) = 32 := by simpa using h
        rw [this] at h32
        exact h32 rfl
      have z1 : ((s.extract 0 1).toList == [32]) = false := by rw [f1, n32]
      clear f1 h32 n32
      go_enter Tryz.func82, Tryz.ntmps82
      go_wp2
      go_ret
      exact ⟨congrArg (fun s => Ending.returned (.string s)) HS.out.symm, rfl⟩
  · have e0 := empty_of (show s.size = 0 by omega)
    subst e0
    go_enter Tryz.func82, Tryz.ntmps82
    go_wp2
    go_ret
    exact ⟨rfl, rfl⟩

theorem dig_take : ∀ l : List Int, Dig (l.take (digN l))
  | [], c, hc => by simp at hc
  | x :: r, c, hc => by
    rw [digN] at hc
    split at hc
    · rename_i h
      rw [List.take_succ_cons] at hc
      rcases List.mem_cons.1 hc with rfl | hc
      · unfold digitZ at h
        simp at h
        exact h
      · exact dig_take r c hc
    · simp at hc
def dirB (sg : ByteArray) : Int := if sg = ⟨#[45]⟩ then -1 else 1
theorem sgn_cases (s : ByteArray) : (sgnZ s).1 = ⟨#[43]⟩ ∨ (sgnZ s).1 = ⟨#[45]⟩ ∨ (sgnZ s).1 = ⟨#[]⟩ := by
  unfold sgnZ
  split
  · split
    · exact .inl rfl
    · split
      · exact .inr (.inl rfl)
      · exact .inr (.inr rfl)
  · exact .inr (.inr rfl)
/-- What stands behind n. -/
def behindZ (s : ByteArray) : Int × Bool :=
  if s.size = 0 then (0, true)
  else if (sgnZ (trimZ s)).1 = ⟨#[]⟩ ∨ digN (bytesL (trimZ (sgnZ (trimZ s)).2)) = 0 ∨ digN (bytesL (trimZ (sgnZ (trimZ s)).2)) < (trimZ (sgnZ (trimZ s)).2).size then (0, false)
  else (dirB (sgnZ (trimZ s)).1 * satL ((bytesL (trimZ (sgnZ (trimZ s)).2)).take (digN (bytesL (trimZ (sgnZ (trimZ s)).2)))), true)
theorem ret2_p {v : Int × Bool} {a : Int} {b : Bool} (h : v = (a, b)) : Ending.returned (.tuple #[.int .i64 a, .bool b]) = .returned (.tuple #[.int .i64 v.1, .bool v.2]) := by rw [h]
theorem empty_facts (s : ByteArray) : (s.size = 0 → s = ⟨#[]⟩) ∧ (0 < s.size → (s == ⟨#[]⟩) = false ∧ (s.toList == []) = false ∧ (s != ⟨#[]⟩) = true) := by
  refine ⟨empty_of, fun h => ?_⟩
  have h3 : (s.toList == []) = false := by
    rw [Bool.eq_false_iff]
    intro h2
    rw [beq_iff_eq, ByteArray.toList_eq] at h2
    have h4 := congrArg List.length h2
    have h5 : s.size = 0 := by simpa using h4
    omega
  have h4 : (s == ⟨#[]⟩) = false := by rw [beq_toListBytes, ByteArray.toList_eq ⟨#[]⟩]; exact h3
  exact ⟨h4, h3, by simp [bne, h4]⟩

set_option maxHeartbeats 2000000 in
set_option maxRecDepth 100000 in
theorem cutBehind_any (s : ByteArray) (hs : s.size ≤ 1000000) (w : World) :
    Calls Tryz.prog 51 #[.string s] w fun e w' => e = .returned (.tuple #[.int .i64 (behindZ s).1, .bool (behindZ s).2]) ∧ Below w.heap.size w w' := by
  have hB : Below w.heap.size w w := Below.refl _ w
  by_cases h0 : 0 < s.size
  · obtain ⟨n1, n2, n3⟩ := (empty_facts s).2 h0
    have ht := trimPrefix_any s w
    have hsg := fun w => signAhead_any (trimZ s) w
    have ht2 := fun w => trimPrefix_any (sgnZ (trimZ s)).2 w
    have hsz : (trimZ (sgnZ (trimZ s)).2).size ≤ 1000000 := Nat.le_trans (trim_size _) (Nat.le_trans (sgn_size _) (Nat.le_trans (trim_size _) hs))
    have hnu := fun w => numberAhead_any (trimZ (sgnZ (trimZ s)).2) hsz w
    have HV : Hid (behindZ s = if (sgnZ (trimZ s)).1 = ⟨#[]⟩ ∨ digN (bytesL (trimZ (sgnZ (trimZ s)).2)) = 0 ∨ digN (bytesL (trimZ (sgnZ (trimZ s)).2)) < (trimZ (sgnZ (trimZ s)).2).size then (0, false) else (dirB (sgnZ (trimZ s)).1 * satL ((bytesL (trimZ (sgnZ (trimZ s)).2)).take (digN (bytesL (trimZ (sgnZ (trimZ s)).2)))), true)) := by
      show _ = _
      unfold behindZ
      rw [if_neg (by omega)]
    have hsc := sgn_cases (trimZ s)
    have hbd : 0 ≤ satL ((bytesL (trimZ (sgnZ (trimZ s)).2)).take (digN (bytesL (trimZ (sgnZ (trimZ s)).2)))) ∧ satL ((bytesL (trimZ (sgnZ (trimZ s)).2)).take (digN (bytesL (trimZ (sgnZ (trimZ s)).2)))) ≤ 1000000 := satL_bd _ (dig_take _)
    have hrs : ((trimZ (sgnZ (trimZ s)).2).extract (digN (bytesL (trimZ (sgnZ (trimZ s)).2))) (trimZ (sgnZ (trimZ s)).2).size).size = (trimZ (sgnZ (trimZ s)).2).size - digN (bytesL (trimZ (sgnZ (trimZ s)).2)) := by simp
    have hef := empty_facts ((trimZ (sgnZ (trimZ s)).2).extract (digN (bytesL (trimZ (sgnZ (trimZ s)).2))) (trimZ (sgnZ (trimZ s)).2).size)
    generalize satL ((bytesL (trimZ (sgnZ (trimZ s)).2)).take (digN (bytesL (trimZ (sgnZ (trimZ s)).2)))) = n at *
    generalize (trimZ (sgnZ (trimZ s)).2).extract (digN (bytesL (trimZ (sgnZ (trimZ s)).2))) (trimZ (sgnZ (trimZ s)).2).size = rest at *
    generalize digN (bytesL (trimZ (sgnZ (trimZ s)).2)) = p at *
    generalize (trimZ (sgnZ (trimZ s)).2).size = tn at *
    generalize trimZ (sgnZ (trimZ s)).2 = t2 at *
    generalize (sgnZ (trimZ s)).1 = sg at *
    generalize (sgnZ (trimZ s)).2 = t1 at *
    generalize trimZ s = t0 at *
    go_enter Tryz.func51, Tryz.ntmps51
    go_wp2_with (go_at_call 82; fail)
    refine (ht).mono ?_
    rintro e w1 ⟨rfl, rfl⟩
    go_wp2_with (go_at_call 47; fail)
    refine (hsg _).mono ?_
    rintro e w2 ⟨rfl, b2⟩
    go_wp2_with (go_at_call 82; fail)
    refine (ht2 _).mono ?_
    rintro e w' ⟨rfl, rfl⟩
    go_wp2_with (go_at_call 48; fail)
    refine (hnu _).mono ?_
    rintro e w3 ⟨rfl, b3⟩
    have B3 := b2.trans (b3.mono b2.size)
    clear ht hsg ht2 hnu b2 b3
    rcases hsc with rfl | rfl | rfl
    · by_cases hp0 : p = 0
      · subst hp0
        have HR : Hid (behindZ s = (0, false)) := by show _ = _; rw [HV.out, if_pos (.inr (.inl rfl))]
        clear HV hef hrs
        go_wp2
        go_ret2
        exact ⟨ret2_p HR.out, B3⟩
      · have hp1 : 0 < p := by omega
        have zp : decide (0 < p) = true := by simp [hp1]
        by_cases hlt : p < tn
        · have HR : Hid (behindZ s = (0, false)) := by show _ = _; rw [HV.out, if_pos (.inr (.inr hlt))]
          obtain ⟨r1, r2, r3⟩ := hef.2 (by omega)
          clear HV hef hrs
          go_wp2
          go_ret2
          exact ⟨ret2_p HR.out, B3⟩
        · have HR : Hid (behindZ s = (1 * n, true)) := by
            show _ = _
            rw [HV.out, if_neg]
            · rfl
            · rintro (h | h | h)
              · exact absurd h (by decide)
              · omega
              · omega
          have er := hef.1 (by omega)
          subst er
          clear HV hef hrs
          go_wp2_with (go_at_call 49; fail)
          refine (direction_p _).mono ?_
          rintro e w' ⟨rfl, rfl⟩
          go_wp2
          go_ret2
          exact ⟨ret2_p (HR.out.trans (by congr 1; omega)), B3⟩
    · by_cases hp0 : p = 0
      · subst hp0
        have HR : Hid (behindZ s = (0, false)) := by show _ = _; rw [HV.out, if_pos (.inr (.inl rfl))]
        clear HV hef hrs
        go_wp2
        go_ret2
        exact ⟨ret2_p HR.out, B3⟩
      · have hp1 : 0 < p := by omega
        have zp : decide (0 < p) = true := by simp [hp1]
        by_cases hlt : p < tn
        · have HR : Hid (behindZ s = (0, false)) := by show _ = _; rw [HV.out, if_pos (.inr (.inr hlt))]
          obtain ⟨r1, r2, r3⟩ := hef.2 (by omega)
          clear HV hef hrs
          go_wp2
          go_ret2
          exact ⟨ret2_p HR.out, B3⟩
        · have HR : Hid (behindZ s = (-1 * n, true)) := by
            show _ = _
            rw [HV.out, if_neg]
            · rfl
            · rintro (h | h | h)
              · exact absurd h (by decide)
              · omega
              · omega
          have er := hef.1 (by omega)
          subst er
          clear HV hef hrs
          go_wp2_with (go_at_call 49; fail)
          refine (direction_m _).mono ?_
          rintro e w' ⟨rfl, rfl⟩
          go_wp2
          go_ret2
          exact ⟨ret2_p (HR.out.trans (by congr 1; omega)), B3⟩
    · have HR : Hid (behindZ s = (0, false)) := by show _ = _; rw [HV.out, if_pos (.inl rfl)]
      clear HV hef hrs
      go_wp2
      go_ret2
      exact ⟨ret2_p HR.out, B3⟩
  · have e0 := empty_of (show s.size = 0 by omega)
    subst e0
    go_enter Tryz.func51, Tryz.ntmps51
    go_wp2
    go_ret2
    exact ⟨rfl, hB⟩

end Go.Proofs.YtpflliophellgaaGreatDoor.N
