/- The key of a name: the program's and the document's. -/
import Derived.Test.YtdiljkmlneeboaaHas
import Derived.Lib.Bytealg
import Derived.WalkMore
namespace Go.Proofs.Ytdiljkmlneeboaa
open Go.RowKit
set_option maxRecDepth 100000

/-- A number with a byte more. -/
def mixN (h b : Nat) : Nat := (h ^^^ b) * 16777619 % 4294967296
theorem mixN_lt (h b : Nat) : mixN h b < 4294967296 := Nat.mod_lt _ (by decide)
def bytesL (s : ByteArray) : List Nat := s.data.toList.map (·.toNat)
theorem bytesL_len (s : ByteArray) : (bytesL s).length = s.size := by simp [bytesL]
theorem bytesL_at (s : ByteArray) (t : Nat) (h : t < s.size) : (bytesL s)[t]? = some s[t].toNat := by
  have hd : t < s.data.size := h
  have hgs : s[t] = s.data[t] := rfl
  rw [hgs, bytesL, List.getElem?_map, Array.getElem?_toList, Array.getElem?_eq_getElem hd]
  rfl
def keyAt (h0 : Nat) (l : List Nat) (t : Nat) : Nat := (l.take t).foldl mixN h0
def keyN (k : Nat) (s : ByteArray) : Nat := keyAt 2166136261 (k :: bytesL s) (s.size + 1)
theorem foldl_take {α β : Type} (f : β → α → β) {h0 : β} {l : List α} {t : Nat} {b : α} (h : l[t]? = some b) : (l.take (t + 1)).foldl f h0 = f ((l.take t).foldl f h0) b := by
  rw [List.take_add_one, h, List.foldl_append]
  rfl
theorem foldl_none {α β : Type} (f : β → α → β) {h0 : β} {l : List α} {t : Nat} (h : l[t]? = none) : (l.take (t + 1)).foldl f h0 = (l.take t).foldl f h0 := by
  rw [List.take_add_one, h]
  simp
theorem keyAt_succ {h0 : Nat} {l : List Nat} {t b : Nat} (h : l[t]? = some b) : keyAt h0 l (t + 1) = mixN (keyAt h0 l t) b := foldl_take mixN h
theorem keyAt_lt {h0 : Nat} (hh : h0 < 4294967296) (l : List Nat) : ∀ t, keyAt h0 l t < 4294967296
  | 0 => by simpa [keyAt] using hh
  | t + 1 => by
    cases h : l[t]? with
    | none =>
      have : keyAt h0 l (t + 1) = keyAt h0 l t := foldl_none mixN h
      rw [this]; exact keyAt_lt hh l t
    | some b => rw [keyAt_succ h]; exact mixN_lt _ _
theorem keyAt_zero (h0 : Nat) (l : List Nat) : keyAt h0 l 0 = h0 := by simp [keyAt]

theorem bits_xor_u32_nat (a b : Nat) (ha : a < 4294967296) (hb : b < 4294967296) :
    bits .xor .u32 (a : Int) (b : Int) = ((a ^^^ b : Nat) : Int) := by
  have hx : a ^^^ b < 2 ^ 32 := Nat.xor_lt_two_pow (by omega) (by omega)
  have h1 : (BitVec.ofInt 32 (a : Int)).toNat = a := by
    rw [BitVec.ofInt_natCast, BitVec.toNat_ofNat]; exact Nat.mod_eq_of_lt (by omega)
  have h2 : (BitVec.ofInt 32 (b : Int)).toNat = b := by
    rw [BitVec.ofInt_natCast, BitVec.toNat_ofNat]; exact Nat.mod_eq_of_lt (by omega)
  show IntKind.u32.wrap ((BitVec.ofInt 32 (a : Int) ^^^ BitVec.ofInt 32 (b : Int)).toNat : Int) = _
  rw [BitVec.toNat_xor, h1, h2, IntKind.wrap_u32]
  omega
theorem mix_int (h b : Nat) (hh : h < 4294967296) (hb : b < 256) : bits .xor .u32 (h : Int) (b : Int) * 16777619 % 4294967296 = ((mixN h b : Nat) : Int) := by
  rw [bits_xor_u32_nat h b hh (by omega)]
  unfold mixN
  omega

set_option maxHeartbeats 400000 in
theorem mixed_any (h b : Nat) (hh : h < 4294967296) (hb : b < 256) (w : World) :
    Calls Try.prog 19 #[.int .u32 (h : Int), .int .u8 (b : Int)] w fun e w' => e = .returned (.int .u32 (mixN h b : Nat)) ∧ w' = w := by
  have HM := hid_mk (mix_int h b hh hb)
  go_enter Try.func19, Try.ntmps19
  go_wp2
  go_ret
  rw [HM.out]
  exact ⟨rfl, rfl⟩

set_option maxHeartbeats 1000000 in
theorem key_run (kind : Int) (s : ByteArray) (hs : s.size ≤ 140737488351232) (kb : Nat) (hkb : kind % 256 = kb) (KA : Nat → Nat) (HK0 : Hid (KA 1 = mixN 2166136261 kb)) (HKL : Hid (∀ t, KA t < 4294967296)) (HKS : Hid (∀ (t : Nat) (_ : t < s.size), KA (t + 1 + 1) = mixN (KA (t + 1)) s[t].toNat)) (w : World) :
    Calls Try.prog 7 #[.int .i64 kind, .string s] w fun e w' => e = .returned (.int .u32 (KA (s.size + 1) : Nat)) ∧ w' = w := by
  have hk2 : kb < 256 := by omega
  have h0 : ∀ w, Calls Try.prog 19 #[.int .u32 2166136261, .int .u8 (kb : Int)] w fun e w' => e = .returned (.int .u32 (KA 1 : Nat)) ∧ w' = w := fun w => by
    rw [HK0.out]
    exact mixed_any 2166136261 kb (by decide) hk2 w
  clear HK0
  obtain ⟨R, hR⟩ : ∃ R, R = KA (s.size + 1) := ⟨_, rfl⟩
  rw [← hR]
  have HR := hid_mk hR
  clear hR
  go_enter Try.func7, Try.ntmps7
  go_wp2_with (go_at_call 19; fail)
  refine (h0 _).mono ?_
  rintro e w' ⟨rfl, rfl⟩
  go_wp2
  go_loopw [5, 12] (fun a5 a12 wq => ∃ t : Nat, t ≤ s.size ∧ a5 = .int .u32 (KA (t + 1) : Nat) ∧ a12 = .int .i64 (t : Int) ∧ wq = w') (fun _ a12 _ => s.size + 1 - (intOf a12).toNat)
  case atStart => exact ⟨0, Nat.zero_le _, rfl, rfl, rfl⟩
  case round =>
    obtain ⟨t, ht, rfl, rfl, rfl⟩ := hrel
    by_cases htl : t < s.size
    · have h1 : ∀ w, Calls Try.prog 19 #[.int .u32 (KA (t + 1) : Nat), .int .u8 (s[t].toNat : Int)] w fun e w' => e = .returned (.int .u32 (KA (t + 1 + 1) : Nat)) ∧ w' = w := fun w => by
        rw [HKS.out t htl]
        exact mixed_any _ _ (HKL.out _) (UInt8.toNat_lt _) w
      clear h0 HKL HKS HR
      generalize KA (t + 1) = ka at *
      obtain ⟨kc, hkc⟩ : ∃ kc, kc = KA (t + 1 + 1) := ⟨_, rfl⟩
      have HKC := hid_mk hkc
      rw [← hkc] at h1
      clear hkc
      go_wp2_with (go_at_call 19; fail)
      refine (h1 _).mono ?_
      rintro e w' ⟨rfl, rfl⟩
      clear h1
      go_wp2
      exact ⟨⟨t + 1, htl, by rw [HKC.out], by go_num, trivial⟩, by simp only [intOf]; omega⟩
    · obtain rfl : t = s.size := by omega
      clear h0 HKL HKS
      rw [← HR.out]
      clear HR
      go_wp2
      go_ret
      exact ⟨rfl, rfl⟩
theorem key_any (kind : Int) (s : ByteArray) (hs : s.size ≤ 140737488351232) (w : World) :
    Calls Try.prog 7 #[.int .i64 kind, .string s] w fun e w' => e = .returned (.int .u32 (keyN (kind % 256).toNat s : Nat)) ∧ w' = w := by
  refine key_run kind s hs (kind % 256).toNat (by omega) (keyAt 2166136261 ((kind % 256).toNat :: bytesL s)) ?_ (keyAt_lt (by decide) _) (fun t ht => keyAt_succ (by rw [List.getElem?_cons_succ]; exact bytesL_at s t ht)) w
  rw [Hid, keyAt_succ (t := 0) (b := (kind % 256).toNat) rfl, keyAt_zero]

end Go.Proofs.Ytdiljkmlneeboaa
