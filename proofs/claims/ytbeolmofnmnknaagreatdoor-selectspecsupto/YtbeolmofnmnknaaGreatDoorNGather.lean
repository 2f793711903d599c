/- nth.cutBehind, whatever the text. nth.cut, whatever the text. What a strings.Builder holds behind WriteString, and what String tells of it. -/
import Derived.Test.YtbeolmofnmnknaaGreatDoorNFoldN
import Derived.Lib.Builder
import Derived.Lib.AppendStr
import Derived.Shelf.RegionOpenPlain
import Derived.Lib.UnsafeStr
import Derived.Lib.OthersKept
namespace Go.Proofs.YtbeolmofnmnknaaGreatDoor.N
open Go.RowKit

def trimZ (s : ByteArray) : ByteArray := if h : 0 < s.size then (if (s[0]'h).toNat = 32 then s.extract 1 s.size else s) else s
theorem trim_size (s : ByteArray) : (trimZ s).size ≤ s.size := by
  unfold trimZ
  split
  · split
    · simp
    · exact Nat.le_refl _
  · exact Nat.le_refl _
theorem sgn_size (s : ByteArray) : (sgnZ s).2.size ≤ s.size := by
  unfold sgnZ
  split
  · split
    · simp
    · split
      · simp
      · exact Nat.le_refl _
  · exact Nat.le_refl _
set_option maxHeartbeats 400000 in
theorem trimPrefix_any (s : ByteArray) (w : World) : Calls Tryz.prog 132 #[.string s, .string ⟨#[32]⟩] w fun e w' => e = .returned (.string (trimZ s)) ∧ w = w' := by
  by_cases h0 : 0 < s.size
  · have f1 := first_list s h0 32
    have h1 : (1 : Int) ≤ (s.size : Int) := by omega
    by_cases h32 : (s[0]'h0).toNat = 32
    · have e32 : (s[0]'h0) = 32 := UInt8.toNat_inj.1 h32
      have HS : Hid (trimZ s = s.extract 1 s.size) := by
        show _ = _
        unfold trimZ
        rw [dif_pos h0, if_pos h32]
      have z1 : ((s.extract 0 1).toList == [32]) = true := by rw [f1, e32]; rfl
      clear f1 h32 e32
      go_enter Tryz.func132, Tryz.ntmps132
      go_wp2
      go_ret
      exact ⟨congrArg (fun s => Ending.returned (.string s)) HS.out.symm, rfl⟩
    · have HS : Hid (trimZ s = s) := by
        show _ = _
        unfold trimZ
        rw [dif_pos h0, if_neg h32]
      have n32 : ((s[0]'h0) == 32) = false := by
        rw [Bool.eq_false_iff]
        intro h
        have : (s[0]'h0) = 32 := by simpa using h
        rw [this] at h32
        exact h32 rfl
      have z1 : ((s.extract 0 1).toList == [32]) = false := by rw [f1, n32]
      clear f1 h32 n32
      go_enter Tryz.func132, Tryz.ntmps132
      go_wp2
      go_ret
      exact ⟨congrArg (fun s => Ending.returned (.string s)) HS.out.symm, rfl⟩
  · have e0 := empty_of (show s.size = 0 by omega)
    subst e0
    go_enter Tryz.func132, Tryz.ntmps132
    go_wp2
    go_ret
    exact ⟨rfl, rfl⟩

theorem dig_take : ∀ l : List Int, Dig (l.take (digN l))
  | [], c, hc => by simp at hc
  | x :: r, c, hc => by
    rw [digN] at hc
    split at hc
    · rename_i h
      rw [List.take_succ_cons] at hc
      rcases List.mem_cons.1 hc with rfl | hc
      · unfold digitZ at h
        simp at h
        exact h
      · exact dig_take r c hc
    · simp at hc
def dirB (sg : ByteArray) : Int := if sg = ⟨#[45]⟩ then -1 else 1
theorem sgn_cases (s : ByteArray) : (sgnZ s).1 = ⟨#[43]⟩ ∨ (sgnZ s).1 = ⟨#[45]⟩ ∨ (sgnZ s).1 = ⟨#[]⟩ := by
  unfold sgnZ
  split
  · split
    · exact .inl rfl
    · split
      · exact .inr (.inl rfl)
      · exact .inr (.inr rfl)
  · exact .inr (.inr rfl)
/-- What stands behind n. -/
def behindZ (s : ByteArray) : Int × Bool :=
  if s.size = 0 then (0, true)
  else if (sgnZ (trimZ s)).1 = ⟨#[]⟩ ∨ digN (bytesL (trimZ (sgnZ (trimZ s)).2)) = 0 ∨ digN (bytesL (trimZ (sgnZ (trimZ s)).2)) < (trimZ (sgnZ (trimZ s)).2).size then (0, false)
  else (dirB (sgnZ (trimZ s)).1 * satL ((bytesL (trimZ (sgnZ (trimZ s)).2)).take (digN (bytesL (trimZ (sgnZ (trimZ s)).2)))), true)
theorem ret2_p {v : Int × Bool} {a : Int} {b : Bool} (h : v = (a, b)) : Ending.returned (.tuple #[.int .i64 a, .bool b]) = .returned (.tuple #[.int .i64 v.1, .bool v.2]) := by rw [h]
theorem empty_facts (s : ByteArray) : (s.size = 0 → s = ⟨#[]⟩) ∧ (0 < s.size → (s == ⟨#[]⟩) = false ∧ (s.toList == []) = false ∧ (s != ⟨#[]⟩) = true) := by
  refine ⟨empty_of, fun h => ?_⟩
  have h3 : (s.toList == []) = false := by
    rw [Bool.eq_false_iff]
    intro h2
    rw [beq_iff_eq, ByteArray.toList_eq] at h2
    have h4 := congrArg List.length h2
    have h5 : s.size = 0 := by simpa using h4
    omega
  have h4 : (s == ⟨#[]⟩) = false := by rw [beq_toListBytes, ByteArray.toList_eq ⟨#[]⟩]; exact h3
  exact ⟨h4, h3, by simp [bne, h4]⟩

set_option maxHeartbeats 2000000 in
set_option maxRecDepth 100000 in
theorem cutBehind_any (s : ByteArray) (hs : s.size ≤ 1000000000000) (w : World) :
    Calls Tryz.prog 125 #[.string s] w fun e w' => e = .returned (.tuple #[.int .i64 (behindZ s).1, .bool (behindZ s).2]) ∧ Below w.heap.size w w' := by
  have hB : Below w.heap.size w w := Below.refl _ w
  by_cases h0 : 0 < s.size
  · obtain ⟨n1, n2, n3⟩ := (empty_facts s).2 h0
    have ht := trimPrefix_any s w
    have hsg := fun w => signAhead_any (trimZ s) w
    have ht2 := fun w => trimPrefix_any (sgnZ (trimZ s)).2 w
    have hsz : (trimZ (sgnZ (trimZ s)).2).size ≤ 1000000000000 := Nat.le_trans (trim_size _) (Nat.le_trans (sgn_size _) (Nat.le_trans (trim_size _) hs))
    have hnu := fun w => numberAhead_any (trimZ (sgnZ (trimZ s)).2) hsz w
    have HV : Hid (behindZ s = if (sgnZ (trimZ s)).1 = ⟨#[]⟩ ∨ digN (bytesL (trimZ (sgnZ (trimZ s)).2)) = 0 ∨ digN (bytesL (trimZ (sgnZ (trimZ s)).2)) < (trimZ (sgnZ (trimZ s)).2).size then (0, false) else (dirB (sgnZ (trimZ s)).1 * satL ((bytesL (trimZ (sgnZ (trimZ s)).2)).take (digN (bytesL (trimZ (sgnZ (trimZ s)).2)))), true)) := by
      show _ = _
      unfold behindZ
      rw [if_neg (by omega)]
    have hsc := sgn_cases (trimZ s)
    have hbd : 0 ≤ satL ((bytesL (trimZ (sgnZ (trimZ s)).2)).take (digN (bytesL (trimZ (sgnZ (trimZ s)).2)))) ∧ satL ((bytesL (trimZ (sgnZ (trimZ s)).2)).take (digN (bytesL (trimZ (sgnZ (trimZ s)).2)))) ≤ 1000000 := satL_bd _ (dig_take _)
    have hrs : ((trimZ (sgnZ (trimZ s)).2).extract (digN (bytesL (trimZ (sgnZ (trimZ s)).2))) (trimZ (sgnZ (trimZ s)).2).size).size = (trimZ (sgnZ (trimZ s)).2).size - digN (bytesL (trimZ (sgnZ (trimZ s)).2)) := by simp
    have hef := empty_facts ((trimZ (sgnZ (trimZ s)).2).extract (digN (bytesL (trimZ (sgnZ (trimZ s)).2))) (trimZ (sgnZ (trimZ s)).2).size)
    generalize satL ((bytesL (trimZ (sgnZ (trimZ s)).2)).take (digN (bytesL (trimZ (sgnZ (trimZ s)).2)))) = n at *
    generalize (trimZ (sgnZ (trimZ s)).2).extract (digN (bytesL (trimZ (sgnZ (trimZ s)).2))) (trimZ (sgnZ (trimZ s)).2).size = rest at *
    generalize digN (bytesL (trimZ (sgnZ (trimZ s)).2)) = p at *
    generalize (trimZ (sgnZ (trimZ s)).2).size = tn at *
    generalize trimZ (sgnZ (trimZ s)).2 = t2 at *
    generalize (sgnZ (trimZ s)).1 = sg at *
    generalize (sgnZ (trimZ s)).2 = t1 at *
    generalize trimZ s = t0 at *
    go_enter Tryz.func125, Tryz.ntmps125
    go_wp2_with (go_at_call 132; fail)
    refine (ht).mono ?_
    rintro e w1 ⟨rfl, rfl⟩
    go_wp2_with (go_at_call 121; fail)
    refine (hsg _).mono ?_
    rintro e w2 ⟨rfl, b2⟩
    go_wp2_with (go_at_call 132; fail)
    refine (ht2 _).mono ?_
    rintro e w' ⟨rfl, rfl⟩
    go_wp2_with (go_at_call 122; fail)
    refine (hnu _).mono ?_
    rintro e w3 ⟨rfl, b3⟩
    have B3 := b2.trans (b3.mono b2.size)
    clear ht hsg ht2 hnu b2 b3
    rcases hsc with rfl | rfl | rfl
    · by_cases hp0 : p = 0
      · subst hp0
        have HR : Hid (behindZ s = (0, false)) := by show _ = _; rw [HV.out, if_pos (.inr (.inl rfl))]
        clear HV hef hrs
        go_wp2
        go_ret2
        exact ⟨ret2_p HR.out, B3⟩
      · have hp1 : 0 < p := by omega
        have zp : decide (0 < p) = true := by simp [hp1]
        by_cases hlt : p < tn
        · have HR : Hid (behindZ s = (0, false)) := by show _ = _; rw [HV.out, if_pos (.inr (.inr hlt))]
          obtain ⟨r1, r2, r3⟩ := hef.2 (by omega)
          clear HV hef hrs
          go_wp2
          go_ret2
          exact ⟨ret2_p HR.out, B3⟩
        · have HR : Hid (behindZ s = (1 * n, true)) := by
            show _ = _
            rw [HV.out, if_neg]
            · rfl
            · rintro (h | h | h)
              · exact absurd h (by decide)
              · omega
              · omega
          have er := hef.1 (by omega)
          subst er
          clear HV hef hrs
          go_wp2_with (go_at_call 123; fail)
          refine (direction_p _).mono ?_
          rintro e w' ⟨rfl, rfl⟩
          go_wp2
          go_ret2
          exact ⟨ret2_p (HR.out.trans (by congr 1; omega)), B3⟩
    · by_cases hp0 : p = 0
      · subst hp0
        have HR : Hid (behindZ s = (0, false)) := by show _ = _; rw [HV.out, if_pos (.inr (.inl rfl))]
        clear HV hef hrs
        go_wp2
        go_ret2
        exact ⟨ret2_p HR.out, B3⟩
      · have hp1 : 0 < p := by omega
        have zp : decide (0 < p) = true := by simp [hp1]
        by_cases hlt : p < tn
        · have HR : Hid (behindZ s = (0, false)) := by show _ = _; rw [HV.out, if_pos (.inr (.inr hlt))]
          obtain ⟨r1, r2, r3⟩ := hef.2 (by omega)
          clear HV hef hrs
          go_wp2
          go_ret2
          exact ⟨ret2_p HR.out, B3⟩
        · have HR : Hid (behindZ s = (-1 * n, true)) := by
            show _ = _
            rw [HV.out, if_neg]
            · rfl
            · rintro (h | h | h)
              · exact absurd h (by decide)
              · omega
              · omega
          have er := hef.1 (by omega)
          subst er
          clear HV hef hrs
          go_wp2_with (go_at_call 123; fail)
          refine (direction_m _).mono ?_
          rintro e w' ⟨rfl, rfl⟩
          go_wp2
          go_ret2
          exact ⟨ret2_p (HR.out.trans (by congr 1; omega)), B3⟩
    · have HR : Hid (behindZ s = (0, false)) := by show _ = _; rw [HV.out, if_pos (.inl rfl)]
      clear HV hef hrs
      go_wp2
      go_ret2
      exact ⟨ret2_p HR.out, B3⟩
  · have e0 := empty_of (show s.size = 0 by omega)
    subst e0
    go_enter Tryz.func125, Tryz.ntmps125
    go_wp2
    go_ret2
    exact ⟨rfl, hB⟩

end Go.Proofs.YtbeolmofnmnknaaGreatDoor.N
namespace Go.Proofs.YtbeolmofnmnknaaGreatDoor.N
open Go.RowKit

def nB (s : ByteArray) : Bool := if h : 0 < s.size then (s[0]'h).toNat == 110 else false
set_option maxHeartbeats 400000 in
theorem cutPrefix_yes (s : ByteArray) (hn : nB s = true) (w : World) : Calls Tryz.prog 124 #[.string s, .string ⟨#[110]⟩] w fun e w' => e = .returned (.tuple #[.string (s.extract 1 s.size), .bool true]) ∧ Below w.heap.size w w' := by
  have hB : Below w.heap.size w w := Below.refl _ w
  have h0 : 0 < s.size := by
    unfold nB at hn
    split at hn
    · assumption
    · cases hn
  have e : (s[0]'h0) = 110 := by
    unfold nB at hn
    rw [dif_pos h0] at hn
    exact UInt8.toNat_inj.1 (by simpa using hn)
  have z1 : ((s.extract 0 1).toList == [110]) = true := by rw [first_list s h0 110, e]; rfl
  have h1 : (1 : Int) ≤ (s.size : Int) := by omega
  clear e hn
  go_enter Tryz.func124, Tryz.ntmps124
  go_wp2
  go_ret2
  exact ⟨rfl, hB⟩
set_option maxHeartbeats 400000 in
theorem cutPrefix_no (s : ByteArray) (hn : nB s = false) (w : World) : Calls Tryz.prog 124 #[.string s, .string ⟨#[110]⟩] w fun e w' => e = .returned (.tuple #[.string s, .bool false]) ∧ Below w.heap.size w w' := by
  have hB : Below w.heap.size w w := Below.refl _ w
  by_cases h0 : 0 < s.size
  · have z1 : ((s.extract 0 1).toList == [110]) = false := by
      rw [first_list s h0 110, Bool.eq_false_iff]
      intro h
      have e : (s[0]'h0) = 110 := by simpa using h
      unfold nB at hn
      rw [dif_pos h0, e] at hn
      exact absurd hn (by decide)
    have h1 : (1 : Int) ≤ (s.size : Int) := by omega
    clear hn
    go_enter Tryz.func124, Tryz.ntmps124
    go_wp2
    go_ret2
    exact ⟨rfl, hB⟩
  · have e0 := empty_of (show s.size = 0 by omega)
    subst e0
    clear hn
    go_enter Tryz.func124, Tryz.ntmps124
    go_wp2
    go_ret2
    exact ⟨rfl, hB⟩

/-- What a number, or A n B, says: of the sign's direction d, the number n, whether it has digits, and what is behind. -/
def cutN (d n : Int) (digits : Bool) (rest : ByteArray) : Int × Int × Bool :=
  if rest.size = 0 then (0, d * n, digits)
  else if nB rest = false then (0, 0, false)
  else if (behindZ (rest.extract 1 rest.size)).2 = false then (0, 0, false)
  else (d * (if digits then n else 1), (behindZ (rest.extract 1 rest.size)).1, true)
def cutT (s : ByteArray) : Int × Int × Bool :=
  cutN (dirB (sgnZ s).1) (satL ((bytesL (sgnZ s).2).take (digN (bytesL (sgnZ s).2)))) (decide (0 < digN (bytesL (sgnZ s).2))) ((sgnZ s).2.extract (digN (bytesL (sgnZ s).2)) (sgnZ s).2.size)
theorem ret3_p {v : Int × Int × Bool} {a b : Int} {c : Bool} (h : v = (a, b, c)) : Ending.returned (.tuple #[.int .i64 a, .int .i64 b, .bool c]) = .returned (.tuple #[.int .i64 v.1, .int .i64 v.2.1, .bool v.2.2]) := by rw [h]
theorem dir_any (sg : ByteArray) (h : sg = ⟨#[43]⟩ ∨ sg = ⟨#[45]⟩ ∨ sg = ⟨#[]⟩) (w : World) : Calls Tryz.prog 123 #[.string sg] w fun e w' => e = .returned (.int .i64 (dirB sg)) ∧ w = w' := by
  rcases h with rfl | rfl | rfl
  · exact direction_p w
  · exact direction_m w
  · exact direction_0 w
theorem dir_one (sg : ByteArray) : dirB sg = 1 ∨ dirB sg = -1 := by
  unfold dirB
  split
  · exact .inr rfl
  · exact .inl rfl

set_option maxHeartbeats 2000000 in
set_option maxRecDepth 100000 in
theorem cut_any (s : ByteArray) (hs : s.size ≤ 1000000000000) (w : World) :
    Calls Tryz.prog 110 #[.string s] w fun e w' => e = .returned (.tuple #[.int .i64 (cutT s).1, .int .i64 (cutT s).2.1, .bool (cutT s).2.2]) ∧ Below w.heap.size w w' := by
  have hsg := fun w => signAhead_any s w
  have hsz : (sgnZ s).2.size ≤ 1000000000000 := Nat.le_trans (sgn_size s) hs
  have hnu := fun w => numberAhead_any (sgnZ s).2 hsz w
  have hdr := fun w => dir_any (sgnZ s).1 (sgn_cases s) w
  have hd1 := dir_one (sgnZ s).1
  have hbd : 0 ≤ satL ((bytesL (sgnZ s).2).take (digN (bytesL (sgnZ s).2))) ∧ satL ((bytesL (sgnZ s).2).take (digN (bytesL (sgnZ s).2))) ≤ 1000000 := satL_bd _ (dig_take _)
  have hrs : ((sgnZ s).2.extract (digN (bytesL (sgnZ s).2)) (sgnZ s).2.size).size ≤ 1000000000000 := by
    have : ((sgnZ s).2.extract (digN (bytesL (sgnZ s).2)) (sgnZ s).2.size).size ≤ (sgnZ s).2.size := by simp
    omega
  unfold cutT
  generalize (sgnZ s).2.extract (digN (bytesL (sgnZ s).2)) (sgnZ s).2.size = rest at *
  generalize satL ((bytesL (sgnZ s).2).take (digN (bytesL (sgnZ s).2))) = n at *
  generalize decide (0 < digN (bytesL (sgnZ s).2)) = dg at *
  generalize (sgnZ s).2 = t1 at *
  generalize dirB (sgnZ s).1 = d at *
  generalize (sgnZ s).1 = sg at *
  have hef := empty_facts rest
  have hdn : -1000000 ≤ d * n ∧ d * n ≤ 1000000 := by
    rcases hd1 with rfl | rfl <;> omega
  have hdb : -1 ≤ d ∧ d ≤ 1 := by omega
  by_cases h0 : rest.size = 0
  · have er := hef.1 h0
    subst er
    have HR : Hid (cutN d n dg ⟨#[]⟩ = (0, d * n, dg)) := by show _ = _; unfold cutN; rw [if_pos h0]
    clear hef h0
    go_enter Tryz.func110, Tryz.ntmps110
    go_wp2_with (go_at_call 121; fail)
    refine (hsg _).mono ?_
    rintro e w2 ⟨rfl, b2⟩
    go_wp2_with (go_at_call 122; fail)
    refine (hnu _).mono ?_
    rintro e w3 ⟨rfl, b3⟩
    have B3 := b2.trans (b3.mono b2.size)
    go_wp2_with (go_at_call 123; fail)
    refine (hdr _).mono ?_
    rintro e w' ⟨rfl, rfl⟩
    go_wp2
    go_ret3
    exact ⟨ret3_p HR.out, B3⟩
  · obtain ⟨r1, r2, r3⟩ := hef.2 (by omega)
    clear hef
    cases hn : nB rest
    · have HR : Hid (cutN d n dg rest = (0, 0, false)) := by show _ = _; unfold cutN; rw [if_neg h0, if_pos hn]
      have hcp := fun w => cutPrefix_no rest hn w
      clear hn h0
      go_enter Tryz.func110, Tryz.ntmps110
      go_wp2_with (go_at_call 121; fail)
      refine (hsg _).mono ?_
      rintro e w2 ⟨rfl, b2⟩
      go_wp2_with (go_at_call 122; fail)
      refine (hnu _).mono ?_
      rintro e w3 ⟨rfl, b3⟩
      have B3 := b2.trans (b3.mono b2.size)
      go_wp2_with (go_at_call 124; fail)
      refine (hcp _).mono ?_
      rintro e w4 ⟨rfl, b4⟩
      have B4 := B3.trans (b4.mono B3.size)
      go_wp2
      go_ret3
      exact ⟨ret3_p HR.out, B4⟩
    · have hcp := fun w => cutPrefix_yes rest hn w
      have hts : (rest.extract 1 rest.size).size ≤ 1000000000000 := by
        have : (rest.extract 1 rest.size).size ≤ rest.size := by simp
        omega
      have hcb := fun w => cutBehind_any (rest.extract 1 rest.size) hts w
      have HC : Hid (cutN d n dg rest = if (behindZ (rest.extract 1 rest.size)).2 = false then (0, 0, false) else (d * (if dg then n else 1), (behindZ (rest.extract 1 rest.size)).1, true)) := by
        show _ = _
        unfold cutN
        rw [if_neg h0, if_neg (by rw [hn]; decide)]
      generalize behindZ (rest.extract 1 rest.size) = bz at *
      generalize rest.extract 1 rest.size = tail at *
      obtain ⟨bv, bo⟩ := bz
      clear hn h0
      cases bo
      · have HR : Hid (cutN d n dg rest = (0, 0, false)) := by show _ = _; rw [HC.out]; rfl
        simp only at hcb
        clear HC
        go_enter Tryz.func110, Tryz.ntmps110
        go_wp2_with (go_at_call 121; fail)
        refine (hsg _).mono ?_
        rintro e w2 ⟨rfl, b2⟩
        go_wp2_with (go_at_call 122; fail)
        refine (hnu _).mono ?_
        rintro e w3 ⟨rfl, b3⟩
        have B3 := b2.trans (b3.mono b2.size)
        go_wp2_with (go_at_call 124; fail)
        refine (hcp _).mono ?_
        rintro e w4 ⟨rfl, b4⟩
        have B4 := B3.trans (b4.mono B3.size)
        go_wp2_with (go_at_call 125; fail)
        refine (hcb _).mono ?_
        rintro e w5 ⟨rfl, b5⟩
        have B5 := B4.trans (b5.mono B4.size)
        go_wp2
        go_ret3
        exact ⟨ret3_p HR.out, B5⟩
      · simp only at hcb
        cases dg
        · have HR : Hid (cutN d n false rest = (d * 1, bv, true)) := by show _ = _; rw [HC.out]; rfl
          clear HC
          go_enter Tryz.func110, Tryz.ntmps110
          go_wp2_with (go_at_call 121; fail)
          refine (hsg _).mono ?_
          rintro e w2 ⟨rfl, b2⟩
          go_wp2_with (go_at_call 122; fail)
          refine (hnu _).mono ?_
          rintro e w3 ⟨rfl, b3⟩
          have B3 := b2.trans (b3.mono b2.size)
          go_wp2_with (go_at_call 124; fail)
          refine (hcp _).mono ?_
          rintro e w4 ⟨rfl, b4⟩
          have B4 := B3.trans (b4.mono B3.size)
          go_wp2_with (go_at_call 125; fail)
          refine (hcb _).mono ?_
          rintro e w5 ⟨rfl, b5⟩
          have B5 := B4.trans (b5.mono B4.size)
          go_wp2_with (go_at_call 123; fail)
          refine (hdr _).mono ?_
          rintro e w' ⟨rfl, rfl⟩
          go_wp2
          go_ret3
          exact ⟨ret3_p (HR.out.trans (by simp)), B5⟩
        · have HR : Hid (cutN d n true rest = (d * n, bv, true)) := by show _ = _; rw [HC.out]; rfl
          clear HC
          go_enter Tryz.func110, Tryz.ntmps110
          go_wp2_with (go_at_call 121; fail)
          refine (hsg _).mono ?_
          rintro e w2 ⟨rfl, b2⟩
          go_wp2_with (go_at_call 122; fail)
          refine (hnu _).mono ?_
          rintro e w3 ⟨rfl, b3⟩
          have B3 := b2.trans (b3.mono b2.size)
          go_wp2_with (go_at_call 124; fail)
          refine (hcp _).mono ?_
          rintro e w4 ⟨rfl, b4⟩
          have B4 := B3.trans (b4.mono B3.size)
          go_wp2_with (go_at_call 125; fail)
          refine (hcb _).mono ?_
          rintro e w5 ⟨rfl, b5⟩
          have B5 := B4.trans (b5.mono B4.size)
          go_wp2_with (go_at_call 123; fail)
          refine (hdr _).mono ?_
          rintro e w' ⟨rfl, rfl⟩
          go_wp2
          go_ret3
          exact ⟨ret3_p HR.out, B5⟩

end Go.Proofs.YtbeolmofnmnknaaGreatDoor.N
namespace Go.Proofs.YtbeolmofnmnknaaGreatDoor.N
open Go.RowKit

theorem Tryz.info5 : (Tryz.prog.info? 5).map (fun i => (i.zero, i.size, i.bytes)) = some (some (.int .u8 0), 1, 1) := by kernel_rfl

theorem Tryz.size100 : (Tryz.prog.info? 100).map (·.size) = some 2 := by kernel_rfl

theorem Tryz.lies100 : liesAt Tryz.prog Tryz.prog.depth 100 (2 / Tryz.prog.cellsOf 100) 0 100 1 = true := by kernel_rfl

abbrev Bld (b : Nat) (bs : List Value) (w : World) : Prop := Lib.IsBuilder 100 5 b b bs w

abbrev BldU (b : Nat) (bs : List Value) (w : World) : Prop := Lib.BuilderAt 100 5 b b (.pointer (some ⟨b, 0, none⟩)) bs w

set_option maxHeartbeats 1000000 in
set_option maxRecDepth 100000 in
theorem check_used (b : Nat) (w : World) (h0 : w.cell? ⟨b, 0, none⟩ = some (.pointer (some ⟨b, 0, none⟩))) :
    Calls Tryz.prog 70 #[.pointer (some ⟨b, 0, none⟩)] w fun e w' => e = .returned (.tuple #[]) ∧ w = w' := by
  obtain ⟨j, hj, _⟩ := Option.map_eq_some_iff.1 Tryz.size100
  go_enter Tryz.func70, Tryz.ntmps70
  go_wp2
  rw [Lib.run_neq_ptr_same w _ Tryz.underlying98 hj]
  go_wp2
  go_end0
  exact ⟨rfl, rfl⟩

set_option maxHeartbeats 1000000 in
set_option maxRecDepth 100000 in
theorem check_fresh (b : Nat) (w : World) (h0 : w.cell? ⟨b, 0, none⟩ = some (.pointer none)) (hsh : w.shape? b = some (100, 2)) (hfz : w.frozen? ⟨b, 0, none⟩ = false) :
    Calls Tryz.prog 70 #[.pointer (some ⟨b, 0, none⟩)] w fun e w' => e = .returned (.tuple #[]) ∧ w.setCell ⟨b, 0, none⟩ (.pointer (some ⟨b, 0, none⟩)) = w' := by
  obtain ⟨j, hj, hjs⟩ := Option.map_eq_some_iff.1 Tryz.size100
  have h1 := Lib.run_to_unsafe w ⟨b, 0, none⟩ Tryz.underlying98 Tryz.underlying122 hj (by rw [hjs]; decide) hsh (Nat.zero_lt_succ 1)
  have h2 := Lib.run_from_unsafe w ⟨b, 0, none⟩ Tryz.underlying122 Tryz.underlying98 hj hsh Tryz.lies100
  go_enter Tryz.func70, Tryz.ntmps70
  go_wp2
  rw [run_callFunc_extern Tryz.func90 (by kernel_rfl) (by kernel_rfl) (by kernel_rfl) (e := Extern.AbiNoEscape.same) (by kernel_rfl), Lib.run_noEscape]
  simp only [Result.andThen]
  rw [Oper.upon_value]
  go_wp2
  go_end0
  exact ⟨rfl, rfl⟩

/-- A writer that holds these bytes. -/
def Wr (b : Nat) (ns : List Int) (w : World) : Prop := Bld b (ns.map (Value.int .u8)) w ∧ (∀ n ∈ ns, 0 ≤ n ∧ n < 256) ∧ (ns = [] → ∃ p, w.heap[b]? = some (.cells #[p, .slice none 0 0] 100 (0, 0)))

theorem wr_new (w : World) : Wr w.heap.size [] (w.alloc (.cells #[.pointer none, .slice none 0 0] 100)) :=
  ⟨Lib.fresh_isBuilder 100 5 w, by simp, fun _ => ⟨_, heap_alloc_new w _⟩⟩

theorem Tryz.cells5 : Tryz.prog.cellsOf 5 = 1 := by kernel_rfl

theorem byte_back {n : Int} (h : 0 ≤ n ∧ n < 256) : ((UInt8.ofNat n.toNat).toNat : Int) = n := by
  simp only [UInt8.toNat_ofNat']
  omega

set_option maxHeartbeats 2000000 in
set_option maxRecDepth 100000 in
theorem wr_string (b : Nat) (ns : List Int) (w : World) (h : Wr b ns w) :
    Calls Tryz.prog 54 #[.pointer (some ⟨b, 0, none⟩)] w fun e w' => e = .returned (.string (strOfNums ns)) ∧ Below b w w' := by
  obtain ⟨hB, hby, hem⟩ := h
  have mixed : Tryz.prog.follows Departure.mixedOrders = true := by kernel_rfl
  by_cases h0 : ns = []
  · subst h0
    obtain ⟨p, hbk⟩ := hem rfl
    have c1 : w.drew.cell? ⟨b, 1, none⟩ = some (.slice none 0 0) := by
      have : w.drew.heap[b]? = some (.cells #[p, .slice none 0 0] 100 (0, 0)) := hbk
      rw [Lib.cell_of_heap this]; rfl
    have hSD : (Builtin.unsafeSliceData_ #[56] 116 #[.slice none 0 0]).run Tryz.prog w.drew = .ok (.pointer none) w.drew := rfl
    have hUS : ∀ p, (Builtin.unsafeString_ #[116, 3] 9 #[.pointer p, .int .i64 0]).run Tryz.prog w.drew = .ok (.string .empty) w.drew := fun p => Lib.run_unsafeString_none _ _ _ _ p
    go_enter Tryz.func54, Tryz.ntmps54
    go_wp2
    go_region_o
    all_goals (go_wp2; go_ret; exact ⟨rfl, Below.drew (Below.refl b w)⟩)
  · have hat : ∃ p, Lib.BuilderAt 100 5 b b p (ns.map (Value.int .u8)) w := by
      rcases hB with h | h
      · exact ⟨_, h⟩
      · exact ⟨_, h⟩
    obtain ⟨p, hBb, v, hbk, hown, hne⟩ := hat
    have hl0 : ns.length ≠ 0 := by simpa using h0
    rw [List.length_map] at hown
    obtain ⟨g, cap, cur, rfl, hbg, hg, hnc, hcm, hcur, htake⟩ : ∃ g cap cur, v = .slice (some ⟨g, 0, none⟩) ns.length cap ∧ b ≤ g ∧ w.heap[g]? = some (.cells cur 5 (0, 0)) ∧ ns.length ≤ cap ∧ cap ≤ maxLen ∧ cur.size = cap * 1 ∧ cur.toList.take (ns.length * 1) = ns.map (Value.int .u8) := by
      rcases hown.2 with ⟨_, hz⟩ | ⟨g, cap, cur, hv, r⟩
      · exact absurd hz hl0
      · exact ⟨g, cap, cur, hv, r⟩
    have c1 : w.drew.cell? ⟨b, 1, none⟩ = some (.slice (some ⟨g, 0, none⟩) ns.length cap) := by
      have : w.drew.heap[b]? = some (.cells #[p, .slice (some ⟨g, 0, none⟩) ns.length cap] 100 (0, 0)) := hbk
      rw [Lib.cell_of_heap this]; rfl
    have hSD : (Builtin.unsafeSliceData_ #[56] 116 #[.slice (some ⟨g, 0, none⟩) ns.length cap]).run Tryz.prog w.drew = .ok (.pointer (some ⟨g, 0, none⟩)) w.drew :=
      Lib.run_unsafeSliceData_row _ _ _ _ _ _ (by omega)
    have hUS : (Builtin.unsafeString_ #[116, 3] 9 #[.pointer (some ⟨g, 0, none⟩), .int .i64 ns.length]).run Tryz.prog w.drew = .ok (.string (strOfNums ns)) (w.drew.freeze ⟨g, 0, none⟩ ns.length) := by
      have := Lib.run_unsafeString_row w.drew 116 3 9 5 Tryz.underlying116 Tryz.cells5 g cur.size (by have hg' : w.drew.heap[g]? = some (.cells cur 5 (0, 0)) := hg; simp [World.shape?, hg']) (ns.map fun n => UInt8.ofNat n.toNat) (by simpa using h0) (by simp; omega) (by simp; unfold maxLen at hcm; omega) ?_
      · rw [List.length_map] at this
        exact this
      · intro j x hx
        simp only [List.getElem?_map, Option.map_eq_some_iff] at hx
        obtain ⟨n, hn, rfl⟩ := hx
        have hm := hby n (List.mem_of_getElem? hn)
        rw [byte_back hm]
        exact hown.cells (g := g) rfl j (.int .u8 n) (by simp [hn])
    have HB : Below b w (w.drew.freeze ⟨g, 0, none⟩ ns.length) := Lib.below_freeze (Below.drew (Below.refl b w)) (p := ⟨g, 0, none⟩) hbg _
    clear hB
    generalize strOfNums ns = S at hUS ⊢
    go_enter Tryz.func54, Tryz.ntmps54
    go_wp2
    go_region_o
    all_goals (go_wp2; go_ret; exact ⟨rfl, HB⟩)

/-- All blocks but one, and but a row of bytes, stand as they stood. -/
theorem check_k (b : Nat) (bs : List Value) (w : World) (h : Bld b bs w) :
    Calls Tryz.prog 70 #[.pointer (some ⟨b, 0, none⟩)] w fun e w' => e = .returned (.tuple #[]) ∧ BldU b bs w' ∧ Below b w w' ∧ Lib.OthersKept 5 (some b) w w' := by
  rcases h with h | h
  · refine (check_fresh b w h.cell0 h.shape h.frozen0).mono ?_
    rintro e w' ⟨rfl, rfl⟩
    exact ⟨rfl, h.used _, (Below.refl b w).setCell (p := ⟨b, 0, none⟩) (Nat.le_refl _) _, (Lib.OthersKept.refl _ _ w).setCell ⟨b, 0, none⟩ rfl _⟩
  · refine (check_used b w h.cell0).mono ?_
    rintro e w' ⟨rfl, rfl⟩
    exact ⟨rfl, h, Below.refl b w, Lib.OthersKept.refl _ _ w⟩

theorem str_cells (s : List Int) (hs : ∀ n ∈ s, 0 ≤ n ∧ n < 256) : Lib.strCells (strOfNums s) = s.map (Value.int .u8) := by
  rw [Lib.strCells_eq]
  show ((s.map fun n => UInt8.ofNat n.toNat).toArray.toList).map _ = _
  simp only [List.map_map]
  apply List.map_congr_left
  intro n hn
  show Value.int IntKind.u8 ((UInt8.ofNat n.toNat).toNat : Int) = _
  rw [byte_back (hs n hn)]

set_option maxHeartbeats 2000000 in
set_option maxRecDepth 100000 in
theorem wr_str_k (b : Nat) (ns s : List Int) (hs : ∀ n ∈ s, 0 ≤ n ∧ n < 256) (h0 : ns ++ s ≠ []) (w : World) (h : Wr b ns w) (hlen : ns.length + s.length ≤ 140737488355328) :
    Calls Tryz.prog 112 #[.pointer (some ⟨b, 0, none⟩), .string (strOfNums s)] w fun e w' => (∃ n : Int, e = .returned (.tuple #[.int .i64 n, .nilIface])) ∧ Wr b (ns ++ s) w' ∧ Below b w w' ∧ Lib.OthersKept 5 (some b) w w' := by
  obtain ⟨i0, hi, hz0, hz1, hz2⟩ := info_parts Tryz.info5
  obtain ⟨hB, hby, _⟩ := h
  have hss : (strOfNums s).size = s.length := strOf_size s
  have hs0 : 0 < ns.length + s.length := by have := List.length_pos_iff.2 h0; rwa [List.length_append] at this
  go_enter Tryz.func112, Tryz.ntmps112
  go_wp2_with (go_at_call 70; fail)
  refine (check_k b _ w hB).mono ?_
  rintro e w1 ⟨rfl, hU, hb1, hk1⟩
  obtain ⟨hBb, v, hbk, hown, hne⟩ := hU
  have hlt : b < w1.heap.size := (Array.getElem?_eq_some_iff.1 hbk).1
  have c0 : w1.cell? ⟨b, 0, none⟩ = some (.pointer (some ⟨b, 0, none⟩)) := by rw [Lib.cell_of_heap hbk]; rfl
  have c1 : w1.cell? ⟨b, 1, none⟩ = some v := by rw [Lib.cell_of_heap hbk]; rfl
  rw [List.length_map] at hown
  go_wp2_with (at_builtin; refine Lib.wpList_append_own_string _ rfl _ _ 56 9 rfl b 5 i0 Tryz.underlying56 Tryz.underlying9 hi hz0 hz1 hz2 _ _ _ rfl hown (strOfNums s) rfl ?c3 ?c4 ?c5 ?_)
  case c3 => unfold maxLen; omega
  case c4 => omega
  case c5 => omega
  intro v' w2 ho2 hg _
  have hb2 : w2.heap[b]? = some (.cells #[.pointer (some ⟨b, 0, none⟩), v] 100 (0, 0)) := by
    rw [hg.block b hlt (fun e => hne e.symm)]
    exact hbk
  have d0 : w2.cell? ⟨b, 0, none⟩ = some (.pointer (some ⟨b, 0, none⟩)) := by rw [Lib.cell_of_heap hb2]; rfl
  have d1 : w2.cell? ⟨b, 1, none⟩ = some v := by rw [Lib.cell_of_heap hb2]; rfl
  have f1 : w2.frozen? ⟨b, 1, none⟩ = false := Lib.frozen_of_heap hb2 1
  rw [str_cells s hs] at ho2
  obtain ⟨g, cap, rfl⟩ : ∃ g cap, v' = .slice (some ⟨g, 0, none⟩) (ns.length + s.length) cap := by
    rcases ho2.2 with ⟨_, h0⟩ | ⟨g, cap, cur, hv, _⟩
    · omega
    · exact ⟨g, cap, hv⟩
  have HP : BldU b ((ns ++ s).map (Value.int .u8)) (w2.setCell ⟨b, 1, none⟩ (.slice (some ⟨g, 0, none⟩) (ns.length + s.length) cap)) :=
    Lib.BuilderAt.put (T := 100) (e := 5) (bs' := (ns ++ s).map (Value.int .u8)) (Nat.le_refl _) hb2 (by simpa using ho2) (by decide)
  have HB : Below b w (w2.setCell ⟨b, 1, none⟩ (.slice (some ⟨g, 0, none⟩) (ns.length + s.length) cap)) := (hb1.grown hg (by omega) (fun k hk => (hown.lt k hk).1)).setCell (p := ⟨b, 1, none⟩) (Nat.le_refl _) _
  have HK : Lib.OthersKept 5 (some b) w (w2.setCell ⟨b, 1, none⟩ (.slice (some ⟨g, 0, none⟩) (ns.length + s.length) cap)) := (hk1.grown hg (Lib.ownsRowF_kind (World.ownsRowF_of hown))).setCell ⟨b, 1, none⟩ rfl _
  clear ho2 hg hown hne hss
  generalize strOfNums s = S at *
  go_wp2
  go_ret2
  refine ⟨⟨_, rfl⟩, ⟨.inr HP, ?_, fun h2 => ?_⟩, HB, HK⟩
  · intro n hn
    rcases List.mem_append.1 hn with hn | hn
    · exact hby n hn
    · exact hs n hn
  · exact absurd h2 h0


theorem append_nothing (w : World) (ty : TypeId) : (Builtin.append_ #[56, 9] ty #[.slice none 0 0, .string ⟨#[]⟩]).run Tryz.prog w = .ok (.slice none 0 0) w := by
  obtain ⟨i0, hi, hz0, hz1, hz2⟩ := info_parts Tryz.info5
  have h0 : (⟨#[]⟩ : ByteArray).size = 0 := rfl
  have hf := Lib.run_firstCells_string (P := Tryz.prog) w 1 ⟨#[]⟩
  rw [h0] at hf
  simp [hf, Builtin.append_, run_underlying Tryz.underlying56, run_underlying Tryz.underlying9, sizeOf, typeInfo, hi, hz1, Builtin.lenOf, h0]
theorem set2k {w : World} {b : Nat} {x0 x1 u : Value} {T : TypeId} (h : w.heap[b]? = some (.cells #[x0, x1] T (0, 0))) : (w.setCell ⟨b, 0, none⟩ u).heap[b]? = some (.cells #[u, x1] T (0, 0)) := by
  simp [World.setCell, Array.getElem?_modify, h]
theorem set2k1 {w : World} {b : Nat} {x0 x1 u : Value} {T : TypeId} (h : w.heap[b]? = some (.cells #[x0, x1] T (0, 0))) : (w.setCell ⟨b, 1, none⟩ u).heap[b]? = some (.cells #[x0, u] T (0, 0)) := by
  simp [World.setCell, Array.getElem?_modify, h]

set_option maxHeartbeats 2000000 in
set_option maxRecDepth 100000 in
/-- WriteString of an empty text to a builder that holds nothing. -/
theorem wr_nothing (b : Nat) (w : World) (h : Wr b [] w) :
    Calls Tryz.prog 112 #[.pointer (some ⟨b, 0, none⟩), .string ⟨#[]⟩] w fun e w' => (∃ n : Int, e = .returned (.tuple #[.int .i64 n, .nilIface])) ∧ Wr b [] w' ∧ Below b w w' ∧ Lib.OthersKept 5 (some b) w w' := by
  obtain ⟨hB, _, hnil⟩ := h
  obtain ⟨p, hp⟩ := hnil rfl
  have hap := fun w ty => append_nothing w ty
  have hck : Calls Tryz.prog 70 #[.pointer (some ⟨b, 0, none⟩)] w fun e w' => e = .returned (.tuple #[]) ∧ w'.heap[b]? = some (.cells #[.pointer (some ⟨b, 0, none⟩), .slice none 0 0] 100 (0, 0)) ∧ Below b w w' ∧ Lib.OthersKept 5 (some b) w w' := by
    rcases hB with h | h
    · have hpe : p = .pointer none := by
        obtain ⟨_, v, hb, _⟩ := h
        rw [hp] at hb
        simp at hb
        exact hb.1
      subst hpe
      refine (check_fresh b w h.cell0 h.shape h.frozen0).mono ?_
      rintro e w' ⟨rfl, rfl⟩
      exact ⟨rfl, set2k hp, (Below.refl b w).setCell (p := ⟨b, 0, none⟩) (Nat.le_refl _) _, (Lib.OthersKept.refl _ _ w).setCell ⟨b, 0, none⟩ rfl _⟩
    · have hpe : p = .pointer (some ⟨b, 0, none⟩) := by
        obtain ⟨_, v, hb, _⟩ := h
        rw [hp] at hb
        simp at hb
        exact hb.1
      subst hpe
      refine (check_used b w h.cell0).mono ?_
      rintro e w' ⟨rfl, rfl⟩
      exact ⟨rfl, hp, Below.refl b w, Lib.OthersKept.refl _ _ w⟩
  clear hB hp
  go_enter Tryz.func112, Tryz.ntmps112
  go_wp2_with (go_at_call 70; fail)
  refine (hck).mono ?_
  rintro e w1 ⟨rfl, hb1, hB1, hK1⟩
  have d0 : w1.cell? ⟨b, 0, none⟩ = some (.pointer (some ⟨b, 0, none⟩)) := by rw [Lib.cell_of_heap hb1]; rfl
  have d1 : w1.cell? ⟨b, 1, none⟩ = some (.slice none 0 0) := by rw [Lib.cell_of_heap hb1]; rfl
  have f1 : w1.frozen? ⟨b, 1, none⟩ = false := Lib.frozen_of_heap hb1 1
  have hs1 : (w1.setCell ⟨b, 1, none⟩ (.slice none 0 0)).heap[b]? = some (.cells #[.pointer (some ⟨b, 0, none⟩), .slice none 0 0] 100 (0, 0)) := set2k1 hb1
  have hB2 : Below b w (w1.setCell ⟨b, 1, none⟩ (.slice none 0 0)) := hB1.setCell (p := ⟨b, 1, none⟩) (Nat.le_refl _) _
  have hK2 : Lib.OthersKept 5 (some b) w (w1.setCell ⟨b, 1, none⟩ (.slice none 0 0)) := hK1.setCell ⟨b, 1, none⟩ rfl _
  go_wp2
  go_ret2
  refine ⟨⟨_, rfl⟩, ⟨.inr ⟨Nat.le_refl _, _, hs1, ?_, by simp [Value.ownBlock]⟩, by simp, fun _ => ⟨_, hs1⟩⟩, hB2, hK2⟩
  exact ⟨by simp, .inl ⟨rfl, by simp⟩⟩
/-- WriteString of any text. -/
theorem wr_any (b : Nat) (ns : List Int) (tx : ByteArray) (w : World) (h : Wr b ns w) (hlen : ns.length + tx.size ≤ 140737488355328) :
    Calls Tryz.prog 112 #[.pointer (some ⟨b, 0, none⟩), .string tx] w fun e w' => (∃ n : Int, e = .returned (.tuple #[.int .i64 n, .nilIface])) ∧ Wr b (ns ++ bytesL tx) w' ∧ Below b w w' ∧ Lib.OthersKept 5 (some b) w w' := by
  by_cases h0 : ns ++ bytesL tx = []
  · obtain ⟨h1, h2⟩ := List.append_eq_nil_iff.1 h0
    subst h1
    have h3 : tx.size = 0 := by
      have := bytesL_size tx
      rw [h2] at this
      simpa using this.symm
    have e := empty_of h3
    subst e
    exact wr_nothing b w h
  · have hk := wr_str_k b ns (bytesL tx) (bytesL_byte tx) h0 w h (by rw [bytesL_size]; exact hlen)
    rw [bytesL_str] at hk
    exact hk

end Go.Proofs.YtbeolmofnmnknaaGreatDoor.N
