/- Numbers in digits, by the library and by the document. -/
import Derived.Test.YtlhdapckenjigaaGreatDoorJoins
import Derived.Laws.BytesArg
import Derived.WalkSmall
import Derived.WalkMore
import Derived.Laws.IdiomStrings
import Derived.Laws.Cover4
import Derived.WalkSpells
import Derived.Shelf.Strconv.Itoa3
import Derived.Shelf.Lay
import Derived.Lib.AppendIntMem
namespace Go.Proofs.YtlhdapckenjigaaGreatDoor.W
open Go.RowKit
set_option maxRecDepth 100000

theorem strOf_size (xs : List Int) : (strOfNums xs).size = xs.length := by
  show (xs.map _).toArray.size = _
  simp
theorem nums_two (a c : List Int) : strOfNums (a ++ c) = strOfNums a ++ strOfNums c := by
  apply ByteArray.ext
  show ((a ++ c).map _).toArray = _
  rw [ByteArray.data_append]
  simp [strOfNums]
def decF : Nat → Nat → List Int → List Int
  | 0, _, acc => acc
  | f + 1, u, acc => if u / 10 = 0 then ((48 + u % 10 : Nat) : Int) :: acc else decF f (u / 10) (((48 + u % 10 : Nat) : Int) :: acc)
def decU (u : Nat) : List Int := decF 20 u []
def signD (n : Int) : List Int := if n < 0 then 45 :: decU (-n).toNat else decU n.toNat
def digT : ByteArray := ⟨#[48, 49, 50, 51, 52, 53, 54, 55, 56, 57]⟩
theorem digT_at : ∀ m : Fin 10, digT.extract m.val (m.val + 1) = strOfNums [((48 + m.val : Nat) : Int)] := by decide +kernel
theorem nums_cons (c : Int) (l : List Int) : strOfNums [c] ++ strOfNums l = strOfNums (c :: l) := by rw [← nums_two]; rfl

theorem empty_str (l : List Int) : (⟨#[]⟩ ++ strOfNums l : ByteArray) = strOfNums l := by
  apply ByteArray.ext
  rw [ByteArray.data_append]
  simp
def p10 (f : Nat) : Nat := 10 ^ f
theorem p10_20 (u : Nat) (h : u ≤ 9223372036854775808) : u < p10 20 := by
  have : p10 20 = 100000000000000000000 := by decide
  omega

set_option maxHeartbeats 400000 in
set_option maxRecDepth 100000 in
theorem digits_pos (N : Nat) (h1 : (N : Int) ≤ 9223372036854775807) (w : World) : Calls Tryz.prog 113 #[.int .i64 (N : Int)] w fun e w' => e = .returned (.string (strOfNums (decU N))) ∧ w = w' := by
  have hn0 : ¬ (N : Int) < 0 := by omega
  go_enter Tryz.func113, Tryz.ntmps113
  go_wp2
  go_loop [3, 5] (fun a3 a5 => ∃ (f u : Nat) (acc : List Int), a3 = .int .u64 (u : Int) ∧ a5 = .string (strOfNums acc) ∧ decF f u acc = decU N ∧ u < p10 f ∧ (u : Int) ≤ 9223372036854775808 ∧ acc.length + f = 20 ∧ 0 < f) (fun a3 _ => (intOf a3).toNat)
  case atStart => exact ⟨20, N, [], rfl, rfl, rfl, p10_20 N (by omega), by omega, rfl, by omega⟩
  case round =>
    obtain ⟨f, u, acc, rfl, rfl, hdec, hu, hub, hlen, hf0⟩ := hrel
    have HD := hid_mk hdec
    have HU := hid_mk hu
    clear hdec hu
    have hm0 : 0 ≤ (u : Int) % 10 := by omega
    have hm1 : (u : Int) % 10 < 10 := by omega
    have hsa : (strOfNums acc).size ≤ 20 := by rw [strOf_size]; omega
    have hse : ((⟨#[48, 49, 50, 51, 52, 53, 54, 55, 56, 57]⟩ : ByteArray).extract (u % 10) (u % 10 + 1)).size ≤ 1 := by simp; omega
    have HX : Hid ((⟨#[48, 49, 50, 51, 52, 53, 54, 55, 56, 57]⟩ : ByteArray).extract (u % 10) (u % 10 + 1) ++ strOfNums acc = strOfNums (((48 + u % 10 : Nat) : Int) :: acc)) := by
      show (⟨#[48, 49, 50, 51, 52, 53, 54, 55, 56, 57]⟩ : ByteArray).extract (u % 10) (u % 10 + 1) ++ strOfNums acc = _
      have := digT_at ⟨u % 10, by omega⟩
      show digT.extract (u % 10) (u % 10 + 1) ++ strOfNums acc = _
      rw [this, nums_cons]
    by_cases hq : u / 10 = 0
    · have hz : ((u : Int) / 10 == 0) = true := by
        have : (u : Int) / 10 = 0 := by omega
        rw [this]; rfl
      have HE : Hid (((48 + u % 10 : Nat) : Int) :: acc = decU N) := by
        show ((48 + u % 10 : Nat) : Int) :: acc = decU N
        have h := HD.out
        obtain ⟨f', rfl⟩ : ∃ f', f = f' + 1 := ⟨f - 1, by omega⟩
        rw [decF, if_pos hq] at h
        exact h
      go_wp2
      go_ret
      exact ⟨congrArg (fun x => Ending.returned (Value.string x)) (by show (⟨#[]⟩ ++ (_ ++ strOfNums acc) : ByteArray) = _; rw [HX.out, HE.out]; exact empty_str _), rfl⟩
    · have hz : ((u : Int) / 10 == 0) = false := by
        have : (u : Int) / 10 ≠ 0 := by omega
        simpa using this
      go_wp2
      go_round
      case rel =>
        have h := HD.out
        have h2 := HU.out
        obtain ⟨f', rfl⟩ : ∃ f', f = f' + 1 := ⟨f - 1, by omega⟩
        rw [decF, if_neg hq] at h
        have h3 : u / 10 < p10 f' := by
          unfold p10 at h2 ⊢
          rw [Nat.pow_succ] at h2
          omega
        have h4 : 0 < f' := by
          cases f' with
          | zero => unfold p10 at h3; simp at h3; omega
          | succ k => omega
        exact ⟨f', u / 10, _, by go_num, congrArg Value.string HX.out, h, h3, by omega, by simp; omega, h4⟩
      case measure => simp [intOf]; omega
theorem wrap_neg {n : Int} {N : Nat} (hn : n = -(N : Int)) (h0 : n < 0) (h1 : (N : Int) ≤ 9223372036854775808) : IntKind.u64.wrap (-IntKind.u64.wrap n) = (N : Int) := by
  have e : ∀ x : Int, IntKind.u64.wrap x = x % 18446744073709551616 := by
    intro x
    have hb : IntKind.u64.bits = 64 := rfl
    have hsg : IntKind.u64.signed = false := rfl
    simp [IntKind.wrap, hb, hsg]
  rw [e, e]
  omega
set_option maxHeartbeats 400000 in
set_option maxRecDepth 100000 in
theorem digits_neg (N : Nat) (n : Int) (hn : n = -(N : Int)) (h0 : n < 0) (h1 : (N : Int) ≤ 9223372036854775808) (w : World) : Calls Tryz.prog 113 #[.int .i64 n] w fun e w' => e = .returned (.string (strOfNums (45 :: decU N))) ∧ w = w' := by
  have hwr : IntKind.u64.wrap (-IntKind.u64.wrap n) = (N : Int) := wrap_neg hn h0 h1
  have hn9 : -9223372036854775808 ≤ n := by omega
  clear hn
  go_enter Tryz.func113, Tryz.ntmps113
  go_wp2
  go_loop [3, 5] (fun a3 a5 => ∃ (f u : Nat) (acc : List Int), a3 = .int .u64 (u : Int) ∧ a5 = .string (strOfNums acc) ∧ decF f u acc = decU N ∧ u < p10 f ∧ (u : Int) ≤ 9223372036854775808 ∧ acc.length + f = 20 ∧ 0 < f) (fun a3 _ => (intOf a3).toNat)
  case atStart => exact ⟨20, N, [], rfl, rfl, rfl, p10_20 N (by omega), by omega, rfl, by omega⟩
  case round =>
    obtain ⟨f, u, acc, rfl, rfl, hdec, hu, hub, hlen, hf0⟩ := hrel
    have HD := hid_mk hdec
    have HU := hid_mk hu
    clear hdec hu
    have hm0 : 0 ≤ (u : Int) % 10 := by omega
    have hm1 : (u : Int) % 10 < 10 := by omega
    have hsa : (strOfNums acc).size ≤ 20 := by rw [strOf_size]; omega
    have hse : ((⟨#[48, 49, 50, 51, 52, 53, 54, 55, 56, 57]⟩ : ByteArray).extract (u % 10) (u % 10 + 1)).size ≤ 1 := by simp; omega
    have HX : Hid ((⟨#[48, 49, 50, 51, 52, 53, 54, 55, 56, 57]⟩ : ByteArray).extract (u % 10) (u % 10 + 1) ++ strOfNums acc = strOfNums (((48 + u % 10 : Nat) : Int) :: acc)) := by
      show (⟨#[48, 49, 50, 51, 52, 53, 54, 55, 56, 57]⟩ : ByteArray).extract (u % 10) (u % 10 + 1) ++ strOfNums acc = _
      have := digT_at ⟨u % 10, by omega⟩
      show digT.extract (u % 10) (u % 10 + 1) ++ strOfNums acc = _
      rw [this, nums_cons]
    by_cases hq : u / 10 = 0
    · have hz : ((u : Int) / 10 == 0) = true := by
        have : (u : Int) / 10 = 0 := by omega
        rw [this]; rfl
      have HE : Hid (((48 + u % 10 : Nat) : Int) :: acc = decU N) := by
        show ((48 + u % 10 : Nat) : Int) :: acc = decU N
        have h := HD.out
        obtain ⟨f', rfl⟩ : ∃ f', f = f' + 1 := ⟨f - 1, by omega⟩
        rw [decF, if_pos hq] at h
        exact h
      go_wp2
      go_ret
      exact ⟨congrArg (fun x => Ending.returned (Value.string x)) (by show (⟨#[45]⟩ ++ (_ ++ strOfNums acc) : ByteArray) = _; rw [HX.out, HE.out]; exact nums_cons 45 _), rfl⟩
    · have hz : ((u : Int) / 10 == 0) = false := by
        have : (u : Int) / 10 ≠ 0 := by omega
        simpa using this
      go_wp2
      go_round
      case rel =>
        have h := HD.out
        have h2 := HU.out
        obtain ⟨f', rfl⟩ : ∃ f', f = f' + 1 := ⟨f - 1, by omega⟩
        rw [decF, if_neg hq] at h
        have h3 : u / 10 < p10 f' := by
          unfold p10 at h2 ⊢
          rw [Nat.pow_succ] at h2
          omega
        have h4 : 0 < f' := by
          cases f' with
          | zero => unfold p10 at h3; simp at h3; omega
          | succ k => omega
        exact ⟨f', u / 10, _, by go_num, congrArg Value.string HX.out, h, h3, by omega, by simp; omega, h4⟩
      case measure => simp [intOf]; omega

theorem dec_map : ∀ (f u : Nat) (acc : List Int), u < p10 f → (0 < f) → (decF f u acc).map (fun n => UInt8.ofNat n.toNat) = Lib.decDigits u ++ acc.map (fun n => UInt8.ofNat n.toNat)
  | 0, _, _, _, h => by omega
  | f + 1, u, acc, hu, _ => by
    rw [decF]
    by_cases hq : u / 10 = 0
    · rw [if_pos hq, Lib.decDigits, dif_pos (by omega)]
      have : u % 10 = u := Nat.mod_eq_of_lt (by omega)
      rw [this]
      simp only [List.map_cons, Int.toNat_natCast, List.singleton_append]
    · rw [if_neg hq]
      have h3 : u / 10 < p10 f := by
        unfold p10 at hu ⊢
        rw [Nat.pow_succ] at hu
        omega
      have h4 : 0 < f := by
        cases f with
        | zero => unfold p10 at h3; simp at h3; omega
        | succ k => omega
      rw [dec_map f (u / 10) _ h3 h4, Lib.decDigits.eq_def u, dif_neg (by omega)]
      simp only [List.map_cons, Int.toNat_natCast, List.append_assoc, List.singleton_append]
theorem dec_str (N : Nat) (h : N ≤ 9223372036854775808) : strOfNums (decU N) = ⟨(Lib.decDigits N).toArray⟩ := by
  have := dec_map 20 N [] (p10_20 N h) (by omega)
  show (⟨((decU N).map _).toArray⟩ : ByteArray) = _
  unfold decU
  rw [this]
  simp
def itS (n : Int) : ByteArray := strOfNums (signD n)
theorem it_eq (n : Int) (h0 : -9223372036854775808 ≤ n) (h1 : n ≤ 9223372036854775807) : (⟨(Lib.itoa n).toArray⟩ : ByteArray) = itS n := by
  unfold itS signD Lib.itoa
  by_cases hn : n < 0
  · rw [if_pos hn, if_pos hn]
    have e : n.natAbs = (-n).toNat := by omega
    rw [← nums_cons, dec_str _ (by omega), e]
    apply ByteArray.ext
    rw [ByteArray.data_append]
    simp [strOfNums]
  · rw [if_neg hn, if_neg hn, dec_str _ (by omega)]
theorem decF_len : ∀ (f u : Nat) (acc : List Int), (decF f u acc).length ≤ acc.length + f
  | 0, _, _ => by simp [decF]
  | f + 1, u, acc => by
    rw [decF]
    split
    · rw [List.length_cons]
      omega
    · have := decF_len f (u / 10) (((48 + u % 10 : Nat) : Int) :: acc)
      rw [List.length_cons] at this
      omega
theorem it_size (n : Int) : (itS n).size ≤ 21 := by
  unfold itS signD
  rw [strOf_size]
  split
  · have := decF_len 20 (-n).toNat []
    simp [decU] at this ⊢
    omega
  · have := decF_len 20 n.toNat []
    simp [decU] at this ⊢
    omega
theorem rdigits_any (n : Int) (h0 : -9223372036854775808 ≤ n) (h1 : n ≤ 9223372036854775807) (w : World) : Calls Tryz.prog 113 #[.int .i64 n] w fun e w' => e = .returned (.string (itS n)) ∧ w = w' := by
  by_cases hn : n < 0
  · have e : itS n = strOfNums (45 :: decU (-n).toNat) := by unfold itS signD; rw [if_pos hn]
    rw [e]
    exact digits_neg (-n).toNat n (by omega) hn (by omega) w
  · have e : itS n = strOfNums (decU n.toNat) := by unfold itS signD; rw [if_neg hn]
    rw [e]
    have h := digits_pos n.toNat (by omega) w
    rw [show ((n.toNat : Nat) : Int) = n by omega] at h
    exact h

shelf_lay LaysM.n171 Nm 171 at Tryz as laysIt
def Pow (w : World) : Prop := Lib.TabIs Tryz.prog w "internal/strconv.uint64pow10" .u64 Lib.pow10Tab
theorem pow_below {w w' : World} (h : Pow w) (hb : Below w.heap.size w w') : Pow w' := Lib.tabBelow_of_tabIs h w' hb
theorem itoa_any (n : Int) (h0 : -9223372036854775808 ≤ n) (h1 : n ≤ 9223372036854775807) (w : World) (h : Pow w) :
    Calls Tryz.prog 158 #[.int .i64 n] w fun e w' => e = .returned (.string (itS n)) ∧ Below w.heap.size w w' := by
  refine (Go.Proofs.Any.strconv_Itoa laysIt n h0 h1 w h).mono ?_
  rintro e w' ⟨rfl, k, os, rfl⟩
  exact ⟨by rw [it_eq n h0 h1], Lib.below_grow _ w (Nat.le_refl _) k os⟩

end Go.Proofs.YtlhdapckenjigaaGreatDoor.W
