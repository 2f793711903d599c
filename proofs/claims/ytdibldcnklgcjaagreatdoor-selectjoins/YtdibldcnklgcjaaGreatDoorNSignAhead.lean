/- The reader of selectors: a comb. nth.Fits and the document's Fits, in plain numbers. nth.First, nth.Print at what the examples ask, and the document's examples. The document's examples of layer 4 are as it says. A number's digits: strconv.Itoa's and the document's are the same. nth.direction, nth.signAhead and nth.numberAhead, whatever the text. nth.numberAhead, whatever the text. nth.signAhead, whatever the text. -/
import Derived.Test.YtdibldcnklgcjaaGreatDoorLSt
import Derived.Test.YtdibldcnklgcjaaGreatDoorRows
import Derived.WalkKit
import Derived.WalkLawsBesides
import Derived.IntWalk
import Derived.WalkSmall
import Derived.WalkMore
import Derived.Laws.IdiomStrings
import Derived.WalkSpells
import Derived.Laws.BytesArg
import Derived.Laws.Cover4
import Derived.Shelf.Strconv.Itoa3
import Derived.Shelf.Lay
import Derived.Lib.AppendIntMem
import Derived.Lib.DecodeN
import Derived.Lib.OthersKept
import Derived.BigQuiet
import Derived.Deep.QuietTactic
import Derived.Lib.RuneCount
import Derived.OwnWalk
namespace Go.Proofs.YtdibldcnklgcjaaGreatDoor.L
open Go.RowKit
set_option maxRecDepth 100000

/-- The sign of a comb that stands first; 0: none. -/
def cbN (us : List V) : Int := match us[0]? with
  | some u => if ahd us 0 9 = true then numZ 0 u.tok.tx else 0
  | none => 0
/-- The end of comb: no sign stood there. -/
def cbE (was : Bool) (us : List V) : Int := if was = true ∧ us ≠ [] ∧ ahd us 0 18 = false then 1 else 0
/-- How the next one stands behind the last one; and what is left. -/
def combR (vs : List V) : Int × List V := if cbN (spc vs) ≠ 0 then (cbN (spc vs), spc ((spc vs).drop 1)) else (cbE (ahd vs 0 13) (spc vs), spc vs)

set_option maxHeartbeats 1000000 in
theorem comb_any {W : World} {lo b : Nat} {kids : Value} {vs : List V} (h : Rd lo W b kids vs W) (hsg : Signs W) (hb : b ≠ sgB) :
    Calls Tryz.prog 71 #[.pointer (some ⟨b, 0, none⟩)] W fun e w' => e = .returned (.int .i64 (combR vs).1) ∧ Rd lo W b kids (combR vs).2 w' := by
  have hsp := spaces_any h
  have HSG : Hid (∀ w', KeepX b W w' → Signs w') := fun w' hk => hsg.keepX hk hb
  have HC : Hid (combR vs = if cbN (spc vs) ≠ 0 then (cbN (spc vs), spc ((spc vs).drop 1)) else (cbE (ahd vs 0 13) (spc vs), spc vs)) := rfl
  generalize ahd vs 0 13 = was at *
  generalize combR vs = R at *
  generalize spc vs = us at *
  clear h hsg
  go_enter Tryz.func71, Tryz.ntmps71
  go_wp2_with (go_at_call 35; fail)
  refine hsp.mono ?_
  rintro e w1 ⟨rfl, hR1⟩
  have ha := ahead_any hR1 0 9
  have HR1 := hid_mk hR1
  have hS1 := HSG.out w1 hR1.keep
  clear hsp hR1 HSG
  go_wp2_with (go_at_call 37; fail)
  refine ha.mono ?_
  rintro e wa ⟨rfl, rfl⟩
  clear ha
  cases hk : ahd us 0 9 with
  | true =>
    obtain ⟨u, hu⟩ := ahd_some hk
    have HN : Hid (cbN us = numZ 0 u.tok.tx) := by rw [Hid]; unfold cbN; rw [hu]; simp only [hk, if_true]
    obtain ⟨a, n, cap, hn, hc1, hc2, h1, _, hs⟩ := HR1.out.see
    have c0 : wa.cell? ⟨b, 0, none⟩ = some (.slice a n cap) := cellAt h1 0
    obtain ⟨hl, g, off, kv, rfl, q0, q1, q4, q5, hkv⟩ := hs 0 u hu
    rw [Nat.zero_mul, Nat.add_zero] at q0 q1 q4 q5
    have hnu := number_any hS1 0 u.tok.tx
    have hne : us ≠ [] := fun e => by rw [e] at hu; cases hu
    have hlen : 1 ≤ us.length := by have := (List.getElem?_eq_some_iff.1 hu).1; omega
    generalize numZ 0 u.tok.tx = z at *
    clear h1 hs hn hk q0 q4 q5 hkv hu hS1
    go_wp2_with (go_at_call 93; fail)
    refine hnu.mono ?_
    rintro e w2 ⟨rfl, hB2⟩
    have HR2 := hid_mk (HR1.out.then hB2)
    clear hnu hB2 HR1 q1 c0
    by_cases hz : z = 0
    · have hz1 : (z != 0) = false := by rw [hz]; rfl
      have HE : Hid (R = (cbE was us, us)) := by rw [Hid, HC.out, if_neg (by rw [HN.out]; exact fun h => h hz)]
      clear HC HN
      obtain ⟨a, n, cap, hn, hc1, hc2, h1, _, _⟩ := HR2.out.see
      have c0 : w2.cell? ⟨b, 0, none⟩ = some (.slice a n cap) := cellAt h1 0
      have hn0 : ((n : Int) == 0) = false := by simp; omega
      have ha := ahead_any HR2.out 0 18
      have HN0 := hid_mk hz
      clear h1 hn hz
      cases was with
      | false =>
        have HZ : Hid (cbE false us = 0) := by rw [Hid, cbE, if_neg (by simp)]
        clear ha
        go_wp2
        go_ret
        exact ⟨by rw [HE.out]; simp only []; rw [HZ.out]; try rfl, by rw [HE.out]; exact HR2.out⟩
      | true =>
        cases hcm : ahd us 0 18 with
        | true =>
          have HZ : Hid (cbE true us = 0) := by rw [Hid, cbE, if_neg (by rw [hcm]; simp)]
          rw [hcm] at ha
          clear hcm
          go_wp2_with (go_at_call 37; fail)
          refine ha.mono ?_
          rintro e w3 ⟨rfl, rfl⟩
          clear ha
          go_wp2
          go_ret
          exact ⟨by rw [HE.out]; simp only []; rw [HZ.out]; try rfl, by rw [HE.out]; exact HR2.out⟩
        | false =>
          have HZ : Hid (cbE true us = 1) := by rw [Hid, cbE, if_pos ⟨rfl, hne, hcm⟩]
          rw [hcm] at ha
          clear hcm
          go_wp2_with (go_at_call 37; fail)
          refine ha.mono ?_
          rintro e w3 ⟨rfl, rfl⟩
          clear ha
          go_wp2
          go_ret
          exact ⟨by rw [HE.out]; simp only []; rw [HZ.out]; try rfl, by rw [HE.out]; exact HR2.out⟩
    · have hz1 : (z != 0) = true := bne_iff_ne.2 hz
      have HE : Hid (R = (z, spc (us.drop 1))) := by rw [Hid, HC.out, if_pos (by rw [HN.out]; exact hz), HN.out]
      have hsk := skip_any HR2.out.self 1 hlen
      clear HC HN hz
      go_wp2_with (go_at_call 38; fail)
      refine hsk.mono ?_
      rintro e w3 ⟨rfl, hR3⟩
      have hsp := spaces_any hR3.self
      have HR3 := hid_mk (HR2.out.from hR3)
      clear hsk hR3 HR2
      go_wp2_with (go_at_call 35; fail)
      refine hsp.mono ?_
      rintro e w4 ⟨rfl, hR4⟩
      have HR4 := hid_mk (HR3.out.from hR4)
      clear hsp hR4 HR3
      go_wp2
      go_ret
      exact ⟨by rw [HE.out]; try rfl, by rw [HE.out]; exact HR4.out⟩
  | false =>
    have HN : Hid (cbN us = 0) := by
      rw [Hid]
      unfold cbN
      cases us[0]? with
      | none => rfl
      | some u => simp only []; rw [if_neg (by rw [hk]; decide)]
    have HE : Hid (R = (cbE was us, us)) := by rw [Hid, HC.out, if_neg (by rw [HN.out]; exact fun h => h rfl)]
    clear HC HN hk hS1
    obtain ⟨a, n, cap, hn, hc1, hc2, h1, _, _⟩ := HR1.out.see
    have c0 : wa.cell? ⟨b, 0, none⟩ = some (.slice a n cap) := cellAt h1 0
    have ha := ahead_any HR1.out 0 18
    cases was with
    | false =>
      have HZ : Hid (cbE false us = 0) := by rw [Hid, cbE, if_neg (by simp)]
      clear ha h1 hn
      go_wp2
      go_ret
      exact ⟨by rw [HE.out]; simp only []; rw [HZ.out]; try rfl, by rw [HE.out]; exact HR1.out⟩
    | true =>
      by_cases hne : us = []
      · have hn0 : ((n : Int) == 0) = true := by rw [beq_iff_eq, hn, hne]; rfl
        have HZ : Hid (cbE true us = 0) := by rw [Hid, cbE, if_neg (by simp [hne])]
        have hn1 : n = 0 := by rw [hn, hne]; rfl
        clear ha h1 hn hne
        subst hn1
        go_wp2
        go_ret
        exact ⟨by rw [HE.out]; simp only []; rw [HZ.out]; try rfl, by rw [HE.out]; exact HR1.out⟩
      · have hn0 : ((n : Int) == 0) = false := by
          have : us.length ≠ 0 := fun e => hne (List.length_eq_zero_iff.1 e)
          simp; omega
        cases hcm : ahd us 0 18 with
        | true =>
          have HZ : Hid (cbE true us = 0) := by rw [Hid, cbE, if_neg (by rw [hcm]; simp)]
          rw [hcm] at ha
          clear hcm h1 hn hne
          go_wp2_with (go_at_call 37; fail)
          refine ha.mono ?_
          rintro e w3 ⟨rfl, rfl⟩
          clear ha
          go_wp2
          go_ret
          exact ⟨by rw [HE.out]; simp only []; rw [HZ.out]; try rfl, by rw [HE.out]; exact HR1.out⟩
        | false =>
          have HZ : Hid (cbE true us = 1) := by rw [Hid, cbE, if_pos ⟨rfl, hne, hcm⟩]
          rw [hcm] at ha
          clear hcm h1 hn hne
          go_wp2_with (go_at_call 37; fail)
          refine ha.mono ?_
          rintro e w3 ⟨rfl, rfl⟩
          clear ha
          go_wp2
          go_ret
          exact ⟨by rw [HE.out]; simp only []; rw [HZ.out]; try rfl, by rw [HE.out]; exact HR1.out⟩
end Go.Proofs.YtdibldcnklgcjaaGreatDoor.L
namespace Go.Proofs.YtdibldcnklgcjaaGreatDoor.N
open Go.RowKit

theorem hid_mk {p : Prop} (h : p) : Hid p := h

def fitsB (a b n : Int) : Bool :=
  if n < 1 then false else if 0 < a then decide (b ≤ n) && decide ((n - b) % a = 0) else if a < 0 then decide (n ≤ b) && decide ((b - n) % a = 0) else decide (n = b)

end Go.Proofs.YtdibldcnklgcjaaGreatDoor.N
namespace Go.Proofs.YtdibldcnklgcjaaGreatDoor.N
open Go.RowKit

def leastZ (a b : Int) : Int := if 0 < a ∧ b < 1 then a - (-b) % a else if b < 1 then 0 else if a < 0 then (b - 1) % a + 1 else b
def firstZ (a b : Int) : Int := if 1000000 < leastZ a b then 0 else leastZ a b

end Go.Proofs.YtdibldcnklgcjaaGreatDoor.N
namespace Go.Proofs.YtdibldcnklgcjaaGreatDoor.N
open Go.RowKit

end Go.Proofs.YtdibldcnklgcjaaGreatDoor.N
namespace Go.Proofs.YtdibldcnklgcjaaGreatDoor.N
open Go.RowKit

theorem strOf_size (xs : List Int) : (strOfNums xs).size = xs.length := by
  show (xs.map _).toArray.size = _
  simp
theorem nums_two (a c : List Int) : strOfNums (a ++ c) = strOfNums a ++ strOfNums c := by
  apply ByteArray.ext
  show ((a ++ c).map _).toArray = _
  rw [ByteArray.data_append]
  simp [strOfNums]
def decF : Nat → Nat → List Int → List Int
  | 0, _, acc => acc
  | f + 1, u, acc => if u / 10 = 0 then ((48 + u % 10 : Nat) : Int) :: acc else decF f (u / 10) (((48 + u % 10 : Nat) : Int) :: acc)
def decU (u : Nat) : List Int := decF 20 u []
def signD (n : Int) : List Int := if n < 0 then 45 :: decU (-n).toNat else decU n.toNat
def digT : ByteArray := ⟨#[48, 49, 50, 51, 52, 53, 54, 55, 56, 57]⟩
theorem digT_at : ∀ m : Fin 10, digT.extract m.val (m.val + 1) = strOfNums [((48 + m.val : Nat) : Int)] := by decide +kernel
theorem nums_cons (c : Int) (l : List Int) : strOfNums [c] ++ strOfNums l = strOfNums (c :: l) := by rw [← nums_two]; rfl

theorem empty_str (l : List Int) : (⟨#[]⟩ ++ strOfNums l : ByteArray) = strOfNums l := by
  apply ByteArray.ext
  rw [ByteArray.data_append]
  simp
def p10 (f : Nat) : Nat := 10 ^ f
theorem p10_20 (u : Nat) (h : u ≤ 9223372036854775808) : u < p10 20 := by
  have : p10 20 = 100000000000000000000 := by decide
  omega

theorem wrap_neg {n : Int} {N : Nat} (hn : n = -(N : Int)) (h0 : n < 0) (h1 : (N : Int) ≤ 9223372036854775808) : IntKind.u64.wrap (-IntKind.u64.wrap n) = (N : Int) := by
  have e : ∀ x : Int, IntKind.u64.wrap x = x % 18446744073709551616 := by
    intro x
    have hb : IntKind.u64.bits = 64 := rfl
    have hsg : IntKind.u64.signed = false := rfl
    simp [IntKind.wrap, hb, hsg]
  rw [e, e]
  omega
theorem dec_map : ∀ (f u : Nat) (acc : List Int), u < p10 f → (0 < f) → (decF f u acc).map (fun n => UInt8.ofNat n.toNat) = Lib.decDigits u ++ acc.map (fun n => UInt8.ofNat n.toNat)
  | 0, _, _, _, h => by omega
  | f + 1, u, acc, hu, _ => by
    rw [decF]
    by_cases hq : u / 10 = 0
    · rw [if_pos hq, Lib.decDigits, dif_pos (by omega)]
      have : u % 10 = u := Nat.mod_eq_of_lt (by omega)
      rw [this]
      simp only [List.map_cons, Int.toNat_natCast, List.singleton_append]
    · rw [if_neg hq]
      have h3 : u / 10 < p10 f := by
        unfold p10 at hu ⊢
        rw [Nat.pow_succ] at hu
        omega
      have h4 : 0 < f := by
        cases f with
        | zero => unfold p10 at h3; simp at h3; omega
        | succ k => omega
      rw [dec_map f (u / 10) _ h3 h4, Lib.decDigits.eq_def u, dif_neg (by omega)]
      simp only [List.map_cons, Int.toNat_natCast, List.append_assoc, List.singleton_append]
theorem dec_str (N : Nat) (h : N ≤ 9223372036854775808) : strOfNums (decU N) = ⟨(Lib.decDigits N).toArray⟩ := by
  have := dec_map 20 N [] (p10_20 N h) (by omega)
  show (⟨((decU N).map _).toArray⟩ : ByteArray) = _
  unfold decU
  rw [this]
  simp
def itS (n : Int) : ByteArray := strOfNums (signD n)
theorem it_eq (n : Int) (h0 : -9223372036854775808 ≤ n) (h1 : n ≤ 9223372036854775807) : (⟨(Lib.itoa n).toArray⟩ : ByteArray) = itS n := by
  unfold itS signD Lib.itoa
  by_cases hn : n < 0
  · rw [if_pos hn, if_pos hn]
    have e : n.natAbs = (-n).toNat := by omega
    rw [← nums_cons, dec_str _ (by omega), e]
    apply ByteArray.ext
    rw [ByteArray.data_append]
    simp [strOfNums]
  · rw [if_neg hn, if_neg hn, dec_str _ (by omega)]
theorem decF_len : ∀ (f u : Nat) (acc : List Int), (decF f u acc).length ≤ acc.length + f
  | 0, _, _ => by simp [decF]
  | f + 1, u, acc => by
    rw [decF]
    split
    · rw [List.length_cons]
      omega
    · have := decF_len f (u / 10) (((48 + u % 10 : Nat) : Int) :: acc)
      rw [List.length_cons] at this
      omega
theorem it_size (n : Int) : (itS n).size ≤ 21 := by
  unfold itS signD
  rw [strOf_size]
  split
  · have := decF_len 20 (-n).toNat []
    simp [decU] at this ⊢
    omega
  · have := decF_len 20 n.toNat []
    simp [decU] at this ⊢
    omega
end Go.Proofs.YtdibldcnklgcjaaGreatDoor.N
namespace Go.Proofs.YtdibldcnklgcjaaGreatDoor.N
open Go.RowKit

def digitZ (c : Int) : Bool := decide (48 ≤ c) && decide (c ≤ 57)
set_option maxHeartbeats 400000 in
theorem digit_any (c : Int) (w : World) : Calls Tryz.prog 77 #[.int .i32 c] w fun e w' => e = .returned (.bool (digitZ c)) ∧ w = w' := by
  unfold digitZ
  by_cases h1 : 48 ≤ c
  · by_cases h2 : c ≤ 57
    · go_enter Tryz.func77, Tryz.ntmps77
      go_wp2
      go_ret
      exact ⟨by simp [h1, h2], rfl⟩
    · go_enter Tryz.func77, Tryz.ntmps77
      go_wp2
      go_ret
      exact ⟨by simp; omega, rfl⟩
  · go_enter Tryz.func77, Tryz.ntmps77
    go_wp2
    go_ret
    exact ⟨by simp; omega, rfl⟩
set_option maxHeartbeats 400000 in
theorem direction_m (w : World) : Calls Tryz.prog 129 #[.string ⟨#[45]⟩] w fun e w' => e = .returned (.int .i64 (-1)) ∧ w = w' := by
  go_enter Tryz.func129, Tryz.ntmps129
  go_wp2
  go_ret
  exact ⟨rfl, rfl⟩
set_option maxHeartbeats 400000 in
theorem direction_p (w : World) : Calls Tryz.prog 129 #[.string ⟨#[43]⟩] w fun e w' => e = .returned (.int .i64 1) ∧ w = w' := by
  go_enter Tryz.func129, Tryz.ntmps129
  go_wp2
  go_ret
  exact ⟨rfl, rfl⟩
set_option maxHeartbeats 400000 in
theorem direction_0 (w : World) : Calls Tryz.prog 129 #[.string ⟨#[]⟩] w fun e w' => e = .returned (.int .i64 1) ∧ w = w' := by
  go_enter Tryz.func129, Tryz.ntmps129
  go_wp2
  go_ret
  exact ⟨rfl, rfl⟩

def bytesL (a : ByteArray) : List Int := a.data.toList.map fun x => (x.toNat : Int)
theorem bytesL_size (a : ByteArray) : (bytesL a).length = a.size := by
  unfold bytesL
  rw [List.length_map]
  rfl
theorem bytesL_byte (a : ByteArray) : ∀ n ∈ bytesL a, 0 ≤ n ∧ n < 256 := by
  intro n hn
  unfold bytesL at hn
  obtain ⟨x, _, rfl⟩ := List.mem_map.1 hn
  have := x.toNat_lt
  omega
theorem empty_of {s : ByteArray} (h : s.size = 0) : s = ⟨#[]⟩ := by
  cases s with
  | mk d =>
    have h1 : d.size = 0 := h
    have h2 : d = #[] := by simpa using h1
    subst h2
    rfl
theorem strOf (s : ByteArray) : strOfNums (s.data.toList.map fun b => (b.toNat : Int)) = s := by
  cases s with
  | mk d =>
    have e : ((fun n : Int => UInt8.ofNat n.toNat) ∘ fun b : UInt8 => (b.toNat : Int)) = id := by
      funext b
      simp
    simp [strOfNums, e]

theorem bytesL_str (a : ByteArray) : strOfNums (bytesL a) = a := strOf a
theorem str_get {l : List Int} (hl : ∀ n ∈ l, 0 ≤ n ∧ n < 256) (j : Nat) : ((strOfNums l).get! j).toNat = (l.getD j 0).toNat := by
  by_cases hj : j < l.length
  · have hm : l.getD j 0 ∈ l := by simp [List.getD, hj]
    have hb := hl _ hm
    have e : (strOfNums l).get! j = UInt8.ofNat (l.getD j 0).toNat := by
      show (l.map fun n => UInt8.ofNat n.toNat).toArray[j]! = _
      rw [getElem!_pos _ j (by simpa using hj)]
      simp [List.getD, hj]
    rw [e]
    simp only [UInt8.toNat_ofNat']
    omega
  · have e : (strOfNums l).get! j = default := by
      show (l.map fun n => UInt8.ofNat n.toNat).toArray[j]! = _
      exact getElem!_neg _ j (by simpa using hj)
    rw [e]
    simp [List.getD, List.getElem?_eq_none (Nat.le_of_not_lt hj)]
    rfl

def Dig (l : List Int) : Prop := ∀ c ∈ l, 48 ≤ c ∧ c ≤ 57
def satZ (n : Int) (c : Int) : Int := if 1000000 < n * 10 + (c - 48) then 1000000 else n * 10 + (c - 48)
def satL (l : List Int) : Int := l.foldl satZ 0
theorem satZ_bd {n c : Int} (h0 : 0 ≤ n) (hc : 48 ≤ c) : 0 ≤ satZ n c ∧ satZ n c ≤ 1000000 := by
  unfold satZ
  split <;> omega
theorem satL_snoc (l : List Int) (c : Int) : satL (l ++ [c]) = satZ (satL l) c := by unfold satL; rw [List.foldl_append]; rfl
theorem satL_bd : ∀ (l : List Int), Dig l → 0 ≤ satL l ∧ satL l ≤ 1000000 := by
  intro l h
  unfold satL
  have : ∀ (l : List Int) (n : Int), 0 ≤ n → n ≤ 1000000 → Dig l → 0 ≤ l.foldl satZ n ∧ l.foldl satZ n ≤ 1000000 := by
    intro l
    induction l with
    | nil => intro n h0 h1 _; exact ⟨h0, h1⟩
    | cons c r ih =>
      intro n h0 _ hd
      have hb := satZ_bd h0 (hd c (by simp)).1
      exact ih _ hb.1 hb.2 (fun x hx => hd x (by simp [hx]))
  exact this l 0 (by omega) (by omega) h
theorem dec_byte (t : ByteArray) (p : Nat) (hp : p < t.size) : (48 ≤ (bytesL t).getD p 0 ∧ (bytesL t).getD p 0 ≤ 57 ∧ (((Utf8.decode t p).1 : Nat) : Int) = (bytesL t).getD p 0 ∧ (Utf8.decode t p).2 = 1) ∨ (¬ (48 ≤ (bytesL t).getD p 0 ∧ (bytesL t).getD p 0 ≤ 57) ∧ digitZ (((Utf8.decode t p).1 : Nat) : Int) = false) := by
  have hg : (bytesL t).getD p 0 = ((t.get! p).toNat : Int) := by
    have hs := str_get (bytesL_byte t) p
    rw [bytesL_str] at hs
    have hb : 0 ≤ (bytesL t).getD p 0 := (bytesL_byte t _ (by
      have : p < (bytesL t).length := by rw [bytesL_size]; exact hp
      simp [List.getD, this])).1
    omega
  rw [hg, Lib.decode_at]
  have hb := (t.get! p).toNat_lt
  generalize (t.get! p).toNat = b0 at *
  generalize (t.get! (p + 1)).toNat = b1
  generalize (t.get! (p + 2)).toNat = b2
  generalize (t.get! (p + 3)).toNat = b3
  by_cases h : 48 ≤ b0 ∧ b0 ≤ 57
  · left
    have e : Lib.decodeN (t.size - p) b0 b1 b2 b3 = (b0, 1) := by
      unfold Lib.decodeN
      rw [if_pos (by omega)]
    rw [e]
    exact ⟨by omega, by omega, rfl, rfl⟩
  · right
    refine ⟨by omega, ?_⟩
    have key : (((Lib.decodeN (t.size - p) b0 b1 b2 b3).1 : Nat) : Int) = b0 ∨ 128 ≤ (((Lib.decodeN (t.size - p) b0 b1 b2 b3).1 : Nat) : Int) := by
      unfold Lib.decodeN
      repeat' split
      all_goals (simp only; first | exact .inl trivial | omega)
    unfold digitZ
    simp
    omega
theorem byte_at (t : ByteArray) (p : Nat) (hp : p < t.size) : (bytesL t).getD p 0 = (((t[p]'hp).toNat : Nat) : Int) := by
  unfold bytesL
  have h1 : t.data[p]? = some (t.data[p]'hp) := Array.getElem?_eq_getElem hp
  simp [List.getD, h1]
  rfl
theorem digit_yes {c : Int} (h : 48 ≤ c ∧ c ≤ 57) : digitZ c = true := by unfold digitZ; simp; omega
/-- How many digits a text opens with. -/
def digN : List Int → Nat
  | [] => 0
  | c :: r => if digitZ c then digN r + 1 else 0
theorem digN_le : ∀ l : List Int, digN l ≤ l.length
  | [] => Nat.le_refl _
  | c :: r => by
    rw [digN]
    have := digN_le r
    split
    · rw [List.length_cons]
      omega
    · omega
/-- Where p digits stand ahead, and then none, they are all. -/
theorem digN_at : ∀ (l : List Int) (p : Nat), Dig (l.take p) → p ≤ l.length → (p = l.length ∨ digitZ (l.getD p 0) = false) → digN l = p
  | [], p, _, h, _ => by simp at h; simp [digN, h]
  | c :: r, 0, _, _, h => by
    rcases h with h | h
    · simp at h
    · rw [digN, if_neg]
      have h' : digitZ c = false := h
      rw [h']
      decide
  | c :: r, p + 1, hd, hl, h => by
    have hc := hd c (by simp)
    rw [digN, if_pos (digit_yes hc)]
    have ih := digN_at r p (fun x hx => hd x (by simp [hx])) (by simpa using hl) (by
      rcases h with h | h
      · left; simpa using h
      · right; exact h)
    rw [ih]

end Go.Proofs.YtdibldcnklgcjaaGreatDoor.N
namespace Go.Proofs.YtdibldcnklgcjaaGreatDoor.N
open Go.RowKit

theorem below_drewN3 (B : Nat) (w : World) (n : Nat) : Below B w (w.drewN n) := ⟨rfl, rfl, rfl, Nat.le_refl _, fun _ _ => rfl⟩
theorem ret3 {n m : Int} {a c : ByteArray} {x y : Bool} (h1 : n = m) (h2 : a = c) (h3 : x = y) : Ending.returned (.tuple #[.int .i64 n, .string a, .bool x]) = .returned (.tuple #[.int .i64 m, .string c, .bool y]) := by rw [h1, h2, h3]
theorem satZ_min (n c : Int) : satZ n c = min (n * 10 + (c - 48)) 1000000 := by
  unfold satZ
  split <;> omega
theorem extract_all (s : ByteArray) : s.extract s.size s.size = ⟨#[]⟩ := empty_of (by simp)

set_option maxHeartbeats 1000000 in
set_option maxRecDepth 100000 in
theorem numberAhead_any (s : ByteArray) (hs : s.size ≤ 1000000000000) (w : World) :
    Calls Tryz.prog 128 #[.string s] w fun e w' => e = .returned (.tuple #[.int .i64 (satL ((bytesL s).take (digN (bytesL s)))), .string (s.extract (digN (bytesL s)) s.size), .bool (decide (0 < digN (bytesL s)))]) ∧ Below w.heap.size w w' := by
  have HDEC := hid_mk (fun p hp => dec_byte s p hp)
  have HSZ := hid_mk (bytesL_size s)
  have hsne : s.size = 0 ∨ (s == ⟨#[]⟩) = false ∧ (s.toList == []) = false := by
    by_cases h : s.size = 0
    · exact .inl h
    · right
      have h3 : (s.toList == []) = false := by
        rw [Bool.eq_false_iff]
        intro h2
        rw [beq_iff_eq, ByteArray.toList_eq] at h2
        have h4 := congrArg List.length h2
        exact h (by simpa using h4)
      exact ⟨by rw [beq_toListBytes, ByteArray.toList_eq ⟨#[]⟩]; exact h3, h3⟩
  have HNE := hid_mk hsne
  clear hsne
  generalize hds : bytesL s = ds at *
  go_enter Tryz.func128, Tryz.ntmps128
  go_wp2
  go_loopw [5] (fun a5 wr => ∃ p : Nat, wr.heap[w.heap.size]? = some (.stringIter s p) ∧ Below w.heap.size w wr ∧ a5 = .int .i64 (satL (ds.take p)) ∧ p ≤ ds.length ∧ Dig (ds.take p)) (fun _ wr => s.size - wr.iterPos w.heap.size)
  case atStart => exact ⟨0, World.iter_heap w s 0, (Below.refl _ w).alloc (Nat.le_refl _) _, rfl, Nat.zero_le _, fun c hc => by simp at hc⟩
  case round =>
    obtain ⟨p, hit, hbw, rfl, hp, hdig⟩ := hrel
    have hsb := satL_bd (ds.take p) hdig
    have HDG := hid_mk hdig
    have HD := hid_mk (fun h => digN_at ds p hdig hp h)
    clear hdig hds
    by_cases hlt : p < ds.length
    · have hps : p < s.size := by rw [← HSZ.out]; exact hlt
      have hnx : ∀ ty, (Instr.next (.pointer (some ⟨w.heap.size, 0, none⟩)) true ty).run Tryz.prog wr = _ := fun ty => Lib.run_next_any_at wr w.heap.size s p ty hit hps
      have hit3 := Lib.iterAt_heap wr w.heap.size s p (p + (Utf8.decode s p).2) hit
      have hbw3 := Lib.below_iterAt hbw (k := w.heap.size) (Nat.le_refl _) s (p + (Utf8.decode s p).2)
      have HTK : Hid (ds.take (p + 1) = ds.take p ++ [ds.getD p 0]) := by
        show _ = _
        rw [List.take_add_one]
        simp [List.getD, hlt]
      rcases HDEC.out p hps with ⟨hc1, hc2, hdc, hwd⟩ | ⟨hnd, hdz⟩
      · rw [hwd] at hnx hit3 hbw3
        rw [hdc] at hnx
        have HS : Hid (satL (ds.take (p + 1)) = satZ (satL (ds.take p)) (ds.getD p 0)) := by
          show satL (ds.take (p + 1)) = _
          rw [HTK.out, satL_snoc]
        have HD2 : Hid (Dig (ds.take (p + 1))) := by
          show Dig _
          rw [HTK.out]
          intro c hc
          rcases List.mem_append.1 hc with hc | hc
          · exact HDG.out c hc
          · rw [List.mem_singleton.1 hc]
            exact ⟨hc1, hc2⟩
        have hdg := digit_any (ds.getD p 0) (wr.iterAt w.heap.size s (p + 1))
        rw [digit_yes ⟨hc1, hc2⟩] at hdg
        generalize ds.getD p 0 = c at *
        generalize wr.iterAt w.heap.size s (p + 1) = W3 at *
        have hm : s.size - W3.iterPos w.heap.size < s.size - wr.iterPos w.heap.size := by
          simp only [World.iterPos, hit3, hit]
          omega
        clear hdc hwd hit hbw
        generalize satL (ds.take p) = sn at *
        go_wp2_with (go_at_call 77; fail)
        refine (hdg).mono ?_
        rintro e w' ⟨rfl, rfl⟩
        go_wp2
        go_roundw
        case rel => exact ⟨p + 1, hit3, hbw3, congrArg (Value.int .i64) ((satZ_min _ _).symm.trans HS.out.symm), by omega, HD2.out⟩
        case measure => exact hm
      · have HP : Hid (digN ds = p) := HD.out (.inr (by
          cases h : digitZ (ds.getD p 0)
          · rfl
          · unfold digitZ at h
            simp at h
            exact absurd h (by simpa using hnd)))
        have hdg := digit_any (((Utf8.decode s p).1 : Nat) : Int) (wr.iterAt w.heap.size s (p + (Utf8.decode s p).2))
        rw [hdz] at hdg
        generalize ((Utf8.decode s p).1 : Nat) = cd at *
        generalize wr.iterAt w.heap.size s (p + (Utf8.decode s p).2) = W3 at *
        clear hdz hnd hit hbw
        have HSN : Hid (satL (ds.take (digN ds)) = satL (ds.take p)) := by show _ = _; rw [HP.out]
        generalize satL (ds.take p) = sn at *
        go_wp2_with (go_at_call 77; fail)
        refine (hdg).mono ?_
        rintro e w' ⟨rfl, rfl⟩
        go_wp2
        go_quiet (fail)
        go_wp2
        go_ret3
        exact ⟨ret3 HSN.out.symm (by rw [HP.out]) (by rw [HP.out]; first | done | simp), hbw3.trans (below_drewN3 _ _ _)⟩
    · have hps : ¬ p < s.size := by rw [← HSZ.out]; exact hlt
      have hnx : ∀ ty, (Instr.next (.pointer (some ⟨w.heap.size, 0, none⟩)) true ty).run Tryz.prog wr = _ := fun ty => Lib.run_next_end_at wr w.heap.size s p ty hit hps
      have HP : Hid (digN ds = p) := HD.out (.inl (by omega))
      have HPS : Hid (p = s.size) := by show _ = _; rw [← HSZ.out]; omega
      have HSN : Hid (satL (ds.take (digN ds)) = satL (ds.take p)) := by show _ = _; rw [HP.out]
      generalize satL (ds.take p) = sn at *
      rcases HNE.out with h0 | ⟨n1, n2⟩
      · have e0 := empty_of h0
        subst e0
        go_wp2
        go_ret3
        exact ⟨ret3 HSN.out.symm (by rw [HP.out, HPS.out]; exact (extract_all ⟨#[]⟩).symm) (by rw [HP.out, HPS.out]; rfl), hbw⟩
      · have hp0 : 0 < p := by
          by_cases h : s.size = 0
          · have e0 := empty_of h
            subst e0
            exact absurd n2 (by rw [ByteArray.toList_eq]; decide)
          · rw [HPS.out]
            omega
        go_wp2
        go_ret3
        exact ⟨ret3 HSN.out.symm (by rw [HP.out, HPS.out]; exact (extract_all s).symm) (by rw [HP.out]; simp [hp0]), hbw⟩

end Go.Proofs.YtdibldcnklgcjaaGreatDoor.N
namespace Go.Proofs.YtdibldcnklgcjaaGreatDoor.N
open Go.RowKit

theorem get_at (s : ByteArray) (h0 : 0 < s.size) : s.get! 0 = s[0]'h0 := by
  show s.data[0]! = s.data[0]
  rw [getElem!_pos s.data 0 h0]
theorem first_byte (s : ByteArray) (h0 : 0 < s.size) : s.extract 0 1 = ⟨#[s[0]'h0]⟩ := by
  apply ByteArray.ext
  apply Array.ext
  · simp
    have : 0 < s.data.size := h0
    omega
  · intro i h1 h2
    have hi : i = 0 := by
      have : i < 1 := h2
      omega
    subst hi
    simp
    rfl
theorem first_list (s : ByteArray) (h0 : 0 < s.size) (c : UInt8) : ((s.extract 0 1).toList == [c]) = ((s[0]'h0) == c) := by
  rw [first_byte s h0, ByteArray.toList_eq]
  simp
/-- The sign ahead, and what is behind. -/
def sgnZ (s : ByteArray) : ByteArray × ByteArray := if h : 0 < s.size then (if (s[0]'h).toNat = 43 then (⟨#[43]⟩, s.extract 1 s.size) else if (s[0]'h).toNat = 45 then (⟨#[45]⟩, s.extract 1 s.size) else (⟨#[]⟩, s)) else (⟨#[]⟩, s)
theorem ret_ss {a b c d : ByteArray} (h1 : a = c) (h2 : b = d) : Ending.returned (.tuple #[.string a, .string b]) = .returned (.tuple #[.string c, .string d]) := by rw [h1, h2]

set_option maxHeartbeats 400000 in
theorem signAhead_any (s : ByteArray) (w : World) : Calls Tryz.prog 127 #[.string s] w fun e w' => e = .returned (.tuple #[.string (sgnZ s).1, .string (sgnZ s).2]) ∧ Below w.heap.size w w' := by
  have hB : Below w.heap.size w w := Below.refl _ w
  by_cases h0 : 0 < s.size
  · have f1 := first_list s h0 43
    have f2 := first_list s h0 45
    have fb := first_byte s h0
    have h1 : (1 : Int) ≤ (s.size : Int) := by omega
    by_cases h43 : (s[0]'h0).toNat = 43
    · have e43 : (s[0]'h0) = 43 := UInt8.toNat_inj.1 h43
      have HS : Hid (sgnZ s = (⟨#[43]⟩, s.extract 1 s.size)) := by
        show _ = _
        unfold sgnZ
        rw [dif_pos h0, if_pos h43]
      have HF : Hid (s.extract 0 1 = ⟨#[43]⟩) := by show _ = _; rw [fb, e43]
      have z1 : ((s.extract 0 1).toList == [43]) = true := by rw [f1, e43]; rfl
      clear f1 f2 fb h43 e43
      go_enter Tryz.func127, Tryz.ntmps127
      go_wp2
      go_quiet (fail)
      go_wp2
      go_ret2
      exact ⟨ret_ss (by rw [HS.out, HF.out]) (by rw [HS.out]), hB.trans (below_drewN3 _ _ _)⟩
    · have n43 : ((s[0]'h0) == 43) = false := by
        rw [Bool.eq_false_iff]
        intro h
        have : (s[0]'h0) = 43 := by simpa using h
        rw [this] at h43
        exact h43 rfl
      by_cases h45 : (s[0]'h0).toNat = 45
      · have e45 : (s[0]'h0) = 45 := UInt8.toNat_inj.1 h45
        have HS : Hid (sgnZ s = (⟨#[45]⟩, s.extract 1 s.size)) := by
          show _ = _
          unfold sgnZ
          rw [dif_pos h0, if_neg h43, if_pos h45]
        have HF : Hid (s.extract 0 1 = ⟨#[45]⟩) := by show _ = _; rw [fb, e45]
        have z1 : ((s.extract 0 1).toList == [43]) = false := by rw [f1, n43]
        have z2 : ((s.extract 0 1).toList == [45]) = true := by rw [f2, e45]; rfl
        clear f1 f2 fb h43 h45 e45 n43
        go_enter Tryz.func127, Tryz.ntmps127
        go_wp2
        go_quiet (fail)
        go_wp2
        go_ret2
        exact ⟨ret_ss (by rw [HS.out, HF.out]) (by rw [HS.out]), hB.trans (below_drewN3 _ _ _)⟩
      · have HS : Hid (sgnZ s = (⟨#[]⟩, s)) := by
          show _ = _
          unfold sgnZ
          rw [dif_pos h0, if_neg h43, if_neg h45]
        have n45 : ((s[0]'h0) == 45) = false := by
          rw [Bool.eq_false_iff]
          intro h
          have : (s[0]'h0) = 45 := by simpa using h
          rw [this] at h45
          exact h45 rfl
        have z1 : ((s.extract 0 1).toList == [43]) = false := by rw [f1, n43]
        have z2 : ((s.extract 0 1).toList == [45]) = false := by rw [f2, n45]
        clear f1 f2 fb h43 h45 n43 n45
        go_enter Tryz.func127, Tryz.ntmps127
        go_wp2
        go_ret2
        exact ⟨ret_ss (by rw [HS.out]) (by rw [HS.out]), hB⟩
  · have e0 := empty_of (show s.size = 0 by omega)
    subst e0
    go_enter Tryz.func127, Tryz.ntmps127
    go_wp2
    go_ret2
    exact ⟨rfl, hB⟩

end Go.Proofs.YtdibldcnklgcjaaGreatDoor.N
