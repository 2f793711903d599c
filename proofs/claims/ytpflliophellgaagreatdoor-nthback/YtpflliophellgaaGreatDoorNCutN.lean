/- nth.cut, whatever the text. -/
import Derived.Test.YtpflliophellgaaGreatDoorNBehind
namespace Go.Proofs.YtpflliophellgaaGreatDoor.N
open Go.RowKit

def nB (s : ByteArray) : Bool := if h : 0 < s.size then (s[0]'h).toNat == 110 else false
set_option maxHeartbeats 400000 in
theorem cutPrefix_yes (s : ByteArray) (hn : nB s = true) (w : World) : Calls Tryz.prog 50 #[.string s, .string ⟨#[110]⟩] w fun e w' => e = .returned (.tuple #[.string (s.extract 1 s.size), .bool true]) ∧ Below w.heap.size w w' := by
  have hB : Below w.heap.size w w := Below.refl _ w
  have h0 : 0 < s.size := by
    unfold nB at hn
    split at hn
    · assumption
    · cases hn
  have e : (s[0]'h0) = 110 := by
    unfold nB at hn
    rw [dif_pos h0] at hn
    exact UInt8.toNat_inj.1 (by simpa using hn)
  have z1 : ((s.extract 0 1).toList == [110]) = true := by rw [first_list s h0 110, e]; rfl
  have h1 : (1 : Int) ≤ (s.size : Int) := by omega
  clear e hn
  go_enter Tryz.func50, Tryz.ntmps50
  go_wp2
  go_ret2
  exact ⟨rfl, hB⟩
set_option maxHeartbeats 400000 in
theorem cutPrefix_no (s : ByteArray) (hn : nB s = false) (w : World) : Calls Tryz.prog 50 #[.string s, .string ⟨#[110]⟩] w fun e w' => e = .returned (.tuple #[.string s, .bool false]) ∧ Below w.heap.size w w' := by
  have hB : Below w.heap.size w w := Below.refl _ w
  by_cases h0 : 0 < s.size
  · have z1 : ((s.extract 0 1).toList == [110]) = false := by
      rw [first_list s h0 110, Bool.eq_false_iff]
      intro h
      have e : (s[0]'h0) = 110 := by simpa using h
      unfold nB at hn
      rw [dif_pos h0, e] at hn
      exact absurd hn (by decide)
    have h1 : (1 : Int) ≤ (s.size : Int) := by omega
    clear hn
    go_enter Tryz.func50, Tryz.ntmps50
    go_wp2
    go_ret2
    exact ⟨rfl, hB⟩
  · have e0 := empty_of (show s.size = 0 by omega)
    subst e0
    clear hn
    go_enter Tryz.func50, Tryz.ntmps50
    go_wp2
    go_ret2
    exact ⟨rfl, hB⟩

/-- What a number, or A n B, says: of the sign's direction d, the number n, whether it has digits, and what is behind. -/
def cutN (d n : Int) (digits : Bool) (rest : ByteArray) : Int × Int × Bool :=
  if rest.size = 0 then (0, d * n, digits)
  else if nB rest = false then (0, 0, false)
  else if (behindZ (rest.extract 1 rest.size)).2 = false then (0, 0, false)
  else (d * (if digits then n else 1), (behindZ (rest.extract 1 rest.size)).1, true)
def cutT (s : ByteArray) : Int × Int × Bool :=
  cutN (dirB (sgnZ s).1) (satL ((bytesL (sgnZ s).2).take (digN (bytesL (sgnZ s).2)))) (decide (0 < digN (bytesL (sgnZ s).2))) ((sgnZ s).2.extract (digN (bytesL (sgnZ s).2)) (sgnZ s).2.size)
theorem ret3_p {v : Int × Int × Bool} {a b : Int} {c : Bool} (h : v = (a, b, c)) : Ending.returned (.tuple #[.int .i64 a, .int .i64 b, .bool c]) = .returned (.tuple #[.int .i64 v.1, .int .i64 v.2.1, .bool v.2.2]) := by rw [h]
theorem dir_any (sg : ByteArray) (h : sg = ⟨#[43]⟩ ∨ sg = ⟨#[45]⟩ ∨ sg = ⟨#[]⟩) (w : World) : Calls Tryz.prog 49 #[.string sg] w fun e w' => e = .returned (.int .i64 (dirB sg)) ∧ w = w' := by
  rcases h with rfl | rfl | rfl
  · exact direction_p w
  · exact direction_m w
  · exact direction_0 w
theorem dir_one (sg : ByteArray) : dirB sg = 1 ∨ dirB sg = -1 := by
  unfold dirB
  split
  · exact .inr rfl
  · exact .inl rfl

set_option maxHeartbeats 2000000 in
set_option maxRecDepth 100000 in
theorem cut_any (s : ByteArray) (hs : s.size ≤ 1000000) (w : World) :
    Calls Tryz.prog 15 #[.string s] w fun e w' => e = .returned (.tuple #[.int .i64 (cutT s).1, .int .i64 (cutT s).2.1, .bool (cutT s).2.2]) ∧ Below w.heap.size w w' := by
  have hsg := fun w => signAhead_any s w
  have hsz : (sgnZ s).2.size ≤ 1000000 := Nat.le_trans (sgn_size s) hs
  have hnu := fun w => numberAhead_any (sgnZ s).2 hsz w
  have hdr := fun w => dir_any (sgnZ s).1 (sgn_cases s) w
  have hd1 := dir_one (sgnZ s).1
  have hbd : 0 ≤ satL ((bytesL (sgnZ s).2).take (digN (bytesL (sgnZ s).2))) ∧ satL ((bytesL (sgnZ s).2).take (digN (bytesL (sgnZ s).2))) ≤ 1000000 := satL_bd _ (dig_take _)
  have hrs : ((sgnZ s).2.extract (digN (bytesL (sgnZ s).2)) (sgnZ s).2.size).size ≤ 1000000 := by
    have : ((sgnZ s).2.extract (digN (bytesL (sgnZ s).2)) (sgnZ s).2.size).size ≤ (sgnZ s).2.size := by simp
    omega
  unfold cutT
  generalize (sgnZ s).2.extract (digN (bytesL (sgnZ s).2)) (sgnZ s).2.size = rest at *
  generalize satL ((bytesL (sgnZ s).2).take (digN (bytesL (sgnZ s).2))) = n at *
  generalize decide (0 < digN (bytesL (sgnZ s).2)) = dg at *
  generalize (sgnZ s).2 = t1 at *
  generalize dirB (sgnZ s).1 = d at *
  generalize (sgnZ s).1 = sg at *
  have hef := empty_facts rest
  have hdn : -1000000 ≤ d * n ∧ d * n ≤ 1000000 := by
    rcases hd1 with rfl | rfl <;> omega
  have hdb : -1 ≤ d ∧ d ≤ 1 := by omega
  by_cases h0 : rest.size = 0
  · have er := hef.1 h0
    subst er
    have HR : Hid (cutN d n dg ⟨#[]⟩ = (0, d * n, dg)) := by show _ = _; unfold cutN; rw [if_pos h0]
    clear hef h0
    go_enter Tryz.func15, Tryz.ntmps15
    go_wp2_with (go_at_call 47; fail)
    refine (hsg _).mono ?_
    rintro e w2 ⟨rfl, b2⟩
    go_wp2_with (go_at_call 48; fail)
    refine (hnu _).mono ?_
    rintro e w3 ⟨rfl, b3⟩
    have B3 := b2.trans (b3.mono b2.size)
    go_wp2_with (go_at_call 49; fail)
    refine (hdr _).mono ?_
    rintro e w' ⟨rfl, rfl⟩
    go_wp2
    go_ret3
    exact ⟨ret3_p HR.out, B3⟩
  · obtain ⟨r1, r2, r3⟩ := hef.2 (by omega)
    clear hef
    cases hn : nB rest
    · have HR : Hid (cutN d n dg rest = (0, 0, false)) := by show _ = _; unfold cutN; rw [if_neg h0, if_pos hn]
      have hcp := fun w => cutPrefix_no rest hn w
      clear hn h0
      go_enter Tryz.func15, Tryz.ntmps15
      go_wp2_with (go_at_call 47; fail)
      refine (hsg _).mono ?_
      rintro e w2 ⟨rfl, b2⟩
      go_wp2_with (go_at_call 48; fail)
      refine (hnu _).mono ?_
      rintro e w3 ⟨rfl, b3⟩
      have B3 := b2.trans (b3.mono b2.size)
      go_wp2_with (go_at_call 50; fail)
      refine (hcp _).mono ?_
      rintro e w4 ⟨rfl, b4⟩
      have B4 := B3.trans (b4.mono B3.size)
      go_wp2
      go_ret3
      exact ⟨ret3_p HR.out, B4⟩
    · have hcp := fun w => cutPrefix_yes rest hn w
      have hts : (rest.extract 1 rest.size).size ≤ 1000000 := by
        have : (rest.extract 1 rest.size).size ≤ rest.size := by simp
        omega
      have hcb := fun w => cutBehind_any (rest.extract 1 rest.size) hts w
      have HC : Hid (cutN d n dg rest = if (behindZ (rest.extract 1 rest.size)).2 = false then (0, 0, false) else (d * (if dg then n else 1), (behindZ (rest.extract 1 rest.size)).1, true)) := by
        show _ = _
        unfold cutN
        rw [if_neg h0, if_neg (by rw [hn]; decide)]
      generalize behindZ (rest.extract 1 rest.size) = bz at *
      generalize rest.extract 1 rest.size = tail at *
      obtain ⟨bv, bo⟩ := bz
      clear hn h0
      cases bo
      · have HR : Hid (cutN d n dg rest = (0, 0, false)) := by show _ = _; rw [HC.out]; rfl
        simp only at hcb
        clear HC
        go_enter Tryz.func15, Tryz.ntmps15
        go_wp2_with (go_at_call 47; fail)
        refine (hsg _).mono ?_
        rintro e w2 ⟨rfl, b2⟩
        go_wp2_with (go_at_call 48; fail)
        refine (hnu _).mono ?_
        rintro e w3 ⟨rfl, b3⟩
        have B3 := b2.trans (b3.mono b2.size)
        go_wp2_with (go_at_call 50; fail)
        refine (hcp _).mono ?_
        rintro e w4 ⟨rfl, b4⟩
        have B4 := B3.trans (b4.mono B3.size)
        go_wp2_with (go_at_call 51; fail)
        refine (hcb _).mono ?_
        rintro e w5 ⟨rfl, b5⟩
        have B5 := B4.trans (b5.mono B4.size)
        go_wp2
        go_ret3
        exact ⟨ret3_p HR.out, B5⟩
      · simp only at hcb
        cases dg
        · have HR : Hid (cutN d n false rest = (d * 1, bv, true)) := by show _ = _; rw [HC.out]; rfl
          clear HC
          go_enter Tryz.func15, Tryz.ntmps15
          go_wp2_with (go_at_call 47; fail)
          refine (hsg _).mono ?_
          rintro e w2 ⟨rfl, b2⟩
          go_wp2_with (go_at_call 48; fail)
          refine (hnu _).mono ?_
          rintro e w3 ⟨rfl, b3⟩
          have B3 := b2.trans (b3.mono b2.size)
          go_wp2_with (go_at_call 50; fail)
          refine (hcp _).mono ?_
          rintro e w4 ⟨rfl, b4⟩
          have B4 := B3.trans (b4.mono B3.size)
          go_wp2_with (go_at_call 51; fail)
          refine (hcb _).mono ?_
          rintro e w5 ⟨rfl, b5⟩
          have B5 := B4.trans (b5.mono B4.size)
          go_wp2_with (go_at_call 49; fail)
          refine (hdr _).mono ?_
          rintro e w' ⟨rfl, rfl⟩
          go_wp2
          go_ret3
          exact ⟨ret3_p (HR.out.trans (by simp)), B5⟩
        · have HR : Hid (cutN d n true rest = (d * n, bv, true)) := by show _ = _; rw [HC.out]; rfl
          clear HC
          go_enter Tryz.func15, Tryz.ntmps15
          go_wp2_with (go_at_call 47; fail)
          refine (hsg _).mono ?_
          rintro e w2 ⟨rfl, b2⟩
          go_wp2_with (go_at_call 48; fail)
          refine (hnu _).mono ?_
          rintro e w3 ⟨rfl, b3⟩
          have B3 := b2.trans (b3.mono b2.size)
          go_wp2_with (go_at_call 50; fail)
          refine (hcp _).mono ?_
          rintro e w4 ⟨rfl, b4⟩
          have B4 := B3.trans (b4.mono B3.size)
          go_wp2_with (go_at_call 51; fail)
          refine (hcb _).mono ?_
          rintro e w5 ⟨rfl, b5⟩
          have B5 := B4.trans (b5.mono B4.size)
          go_wp2_with (go_at_call 49; fail)
          refine (hdr _).mono ?_
          rintro e w' ⟨rfl, rfl⟩
          go_wp2
          go_ret3
          exact ⟨ret3_p HR.out, B5⟩

end Go.Proofs.YtpflliophellgaaGreatDoor.N
