/- gouacheref15.Color. gouacheref15.Part. gouachelaw15.ValueColors: the walk, all of it. gouacheref15.Part of any form in small letters; Parse; Wide. gouacheref15.Parse, gouacheref15.Wide. -/
import Derived.Test.YtlhdapckenjigaaGreatDoorZRf
import Derived.Test.YtlhdapckenjigaaGreatDoorZGr
namespace Go.Proofs.YtlhdapckenjigaaGreatDoor.Z
open Go.RowKit
open Go.Proofs.YtlhdapckenjigaaGreatDoor.L (T5 V VsAt t5Cells vCells cell_of_heap hid_mk)
set_option maxRecDepth 100000

theorem low_byte : ∀ n : Fin 256, hexI (lowZ ((n.val : Nat) : Int)) = hexI ((n.val : Nat) : Int) ∧ (foldB (UInt8.ofNat n.val)).toNat = (lowZ ((n.val : Nat) : Int)).toNat ∧ 0 ≤ lowZ ((n.val : Nat) : Int) := by decide +kernel
/-- The bytes of a text in small letters. -/
theorem fold_bytes (s : ByteArray) : W.bytesL (foldS s) = (W.bytesL s).map lowZ := by
  unfold W.bytesL foldS
  simp only [Array.toList_map, List.map_map]
  apply List.map_congr_left
  intro x _
  have h := low_byte ⟨x.toNat, x.toNat_lt⟩
  simp only [UInt8.ofNat_toNat] at h
  simp only [Function.comp]
  omega
/-- A byte of a text in small letters. -/
theorem fold_at (s : ByteArray) (p : Nat) (hp : p < (foldS s).size) : (((foldS s)[p]'hp).toNat : Int) = lowZ ((W.bytesL s).getD p 0) ∧ (foldS s).extract p (p + 1) = strOfNums [lowZ ((W.bytesL s).getD p 0)] ∧ hexI (lowZ ((W.bytesL s).getD p 0)) = hexI ((W.bytesL s).getD p 0) := by
  have hl : p < (W.bytesL s).length := by rw [W.bytesL_size]; rw [foldS_size] at hp; exact hp
  have e : (W.bytesL (foldS s)).getD p 0 = lowZ ((W.bytesL s).getD p 0) := by
    rw [fold_bytes]
    simp [List.getD, hl]
  have e2 : (((foldS s)[p]'hp).toNat : Int) = (W.bytesL (foldS s)).getD p 0 := (W.byte_at (foldS s) p hp).symm
  have hm : (W.bytesL s).getD p 0 ∈ W.bytesL s := by simp [List.getD, hl]
  have hb := W.bytesL_byte s _ hm
  refine ⟨e2.trans e, ?_, ?_⟩
  · have h1 := P.ext_one (foldS s) p hp
    apply ByteArray.ext
    apply Array.ext'
    rw [h1]
    show _ = [UInt8.ofNat (lowZ ((W.bytesL s).getD p 0)).toNat]
    rw [← e, ← e2]
    simp
  · obtain ⟨n, hn⟩ : ∃ n : Nat, (W.bytesL s).getD p 0 = n := ⟨((W.bytesL s).getD p 0).toNat, by omega⟩
    rw [hn]
    exact (low_byte ⟨n, by omega⟩).1
theorem find_none {f : ByteArray} (b0 : (f.toList == [98, 108, 97, 99, 107]) = false) (b1 : (f.toList == [119, 104, 105, 116, 101]) = false) (b2 : (f.toList == [114, 101, 100]) = false) (b3 : (f.toList == [103, 114, 101, 101, 110]) = false) (b4 : (f.toList == [98, 108, 117, 101]) = false) (b5 : (f.toList == [103, 114, 97, 121]) = false) (b6 : (f.toList == [121, 101, 108, 108, 111, 119]) = false) (b7 : (f.toList == [112, 117, 114, 112, 108, 101]) = false) : fndC f CT = none := by
  have e : ∀ a b : List UInt8, (a == b) = (b == a) := fun a b => by
    rw [Bool.eq_iff_iff, beq_iff_eq, beq_iff_eq]
    exact eq_comm
  have g : ∀ l : List UInt8, (⟨l.toArray⟩ : ByteArray).toList = l := fun l => by rw [ByteArray.toList_eq]
  unfold CT
  simp only [fndC_cons]
  rw [show (⟨#[98, 108, 97, 99, 107]⟩ : ByteArray).toList = [98, 108, 97, 99, 107] from g _, e, b0, if_neg (by decide)]
  rw [show (⟨#[119, 104, 105, 116, 101]⟩ : ByteArray).toList = [119, 104, 105, 116, 101] from g _, e, b1, if_neg (by decide)]
  rw [show (⟨#[114, 101, 100]⟩ : ByteArray).toList = [114, 101, 100] from g _, e, b2, if_neg (by decide)]
  rw [show (⟨#[103, 114, 101, 101, 110]⟩ : ByteArray).toList = [103, 114, 101, 101, 110] from g _, e, b3, if_neg (by decide)]
  rw [show (⟨#[98, 108, 117, 101]⟩ : ByteArray).toList = [98, 108, 117, 101] from g _, e, b4, if_neg (by decide)]
  rw [show (⟨#[103, 114, 97, 121]⟩ : ByteArray).toList = [103, 114, 97, 121] from g _, e, b5, if_neg (by decide)]
  rw [show (⟨#[121, 101, 108, 108, 111, 119]⟩ : ByteArray).toList = [121, 101, 108, 108, 111, 119] from g _, e, b6, if_neg (by decide)]
  rw [show (⟨#[112, 117, 114, 112, 108, 101]⟩ : ByteArray).toList = [112, 117, 114, 112, 108, 101] from g _, e, b7, if_neg (by decide)]
  rfl
theorem fx_0 : fndC (⟨#[98, 108, 97, 99, 107]⟩ : ByteArray) CT = some (⟨#[35, 48, 48, 48, 48, 48, 48]⟩ : ByteArray) := by kernel_rfl
theorem find_0 {f : ByteArray} (b0 : (f.toList == [98, 108, 97, 99, 107]) = true) : fndC f CT = some ⟨#[35, 48, 48, 48, 48, 48, 48]⟩ := by
  have : f = ⟨#[98, 108, 97, 99, 107]⟩ := by
    have h := beq_iff_eq.1 b0
    rw [ByteArray.toList_eq] at h
    exact ByteArray.ext (Array.ext' h)
  subst this
  exact fx_0
theorem fx_1 : fndC (⟨#[119, 104, 105, 116, 101]⟩ : ByteArray) CT = some (⟨#[35, 102, 102, 102, 102, 102, 102]⟩ : ByteArray) := by kernel_rfl
theorem find_1 {f : ByteArray} (b1 : (f.toList == [119, 104, 105, 116, 101]) = true) : fndC f CT = some ⟨#[35, 102, 102, 102, 102, 102, 102]⟩ := by
  have : f = ⟨#[119, 104, 105, 116, 101]⟩ := by
    have h := beq_iff_eq.1 b1
    rw [ByteArray.toList_eq] at h
    exact ByteArray.ext (Array.ext' h)
  subst this
  exact fx_1
theorem fx_2 : fndC (⟨#[114, 101, 100]⟩ : ByteArray) CT = some (⟨#[35, 102, 102, 48, 48, 48, 48]⟩ : ByteArray) := by kernel_rfl
theorem find_2 {f : ByteArray} (b2 : (f.toList == [114, 101, 100]) = true) : fndC f CT = some ⟨#[35, 102, 102, 48, 48, 48, 48]⟩ := by
  have : f = ⟨#[114, 101, 100]⟩ := by
    have h := beq_iff_eq.1 b2
    rw [ByteArray.toList_eq] at h
    exact ByteArray.ext (Array.ext' h)
  subst this
  exact fx_2
theorem fx_3 : fndC (⟨#[103, 114, 101, 101, 110]⟩ : ByteArray) CT = some (⟨#[35, 48, 48, 56, 48, 48, 48]⟩ : ByteArray) := by kernel_rfl
theorem find_3 {f : ByteArray} (b3 : (f.toList == [103, 114, 101, 101, 110]) = true) : fndC f CT = some ⟨#[35, 48, 48, 56, 48, 48, 48]⟩ := by
  have : f = ⟨#[103, 114, 101, 101, 110]⟩ := by
    have h := beq_iff_eq.1 b3
    rw [ByteArray.toList_eq] at h
    exact ByteArray.ext (Array.ext' h)
  subst this
  exact fx_3
theorem fx_4 : fndC (⟨#[98, 108, 117, 101]⟩ : ByteArray) CT = some (⟨#[35, 48, 48, 48, 48, 102, 102]⟩ : ByteArray) := by kernel_rfl
theorem find_4 {f : ByteArray} (b4 : (f.toList == [98, 108, 117, 101]) = true) : fndC f CT = some ⟨#[35, 48, 48, 48, 48, 102, 102]⟩ := by
  have : f = ⟨#[98, 108, 117, 101]⟩ := by
    have h := beq_iff_eq.1 b4
    rw [ByteArray.toList_eq] at h
    exact ByteArray.ext (Array.ext' h)
  subst this
  exact fx_4
theorem fx_5 : fndC (⟨#[103, 114, 97, 121]⟩ : ByteArray) CT = some (⟨#[35, 56, 48, 56, 48, 56, 48]⟩ : ByteArray) := by kernel_rfl
theorem find_5 {f : ByteArray} (b5 : (f.toList == [103, 114, 97, 121]) = true) : fndC f CT = some ⟨#[35, 56, 48, 56, 48, 56, 48]⟩ := by
  have : f = ⟨#[103, 114, 97, 121]⟩ := by
    have h := beq_iff_eq.1 b5
    rw [ByteArray.toList_eq] at h
    exact ByteArray.ext (Array.ext' h)
  subst this
  exact fx_5
theorem fx_6 : fndC (⟨#[121, 101, 108, 108, 111, 119]⟩ : ByteArray) CT = some (⟨#[35, 102, 102, 102, 102, 48, 48]⟩ : ByteArray) := by kernel_rfl
theorem find_6 {f : ByteArray} (b6 : (f.toList == [121, 101, 108, 108, 111, 119]) = true) : fndC f CT = some ⟨#[35, 102, 102, 102, 102, 48, 48]⟩ := by
  have : f = ⟨#[121, 101, 108, 108, 111, 119]⟩ := by
    have h := beq_iff_eq.1 b6
    rw [ByteArray.toList_eq] at h
    exact ByteArray.ext (Array.ext' h)
  subst this
  exact fx_6
theorem fx_7 : fndC (⟨#[112, 117, 114, 112, 108, 101]⟩ : ByteArray) CT = some (⟨#[35, 56, 48, 48, 48, 56, 48]⟩ : ByteArray) := by kernel_rfl
theorem find_7 {f : ByteArray} (b7 : (f.toList == [112, 117, 114, 112, 108, 101]) = true) : fndC f CT = some ⟨#[35, 56, 48, 48, 48, 56, 48]⟩ := by
  have : f = ⟨#[112, 117, 114, 112, 108, 101]⟩ := by
    have h := beq_iff_eq.1 b7
    rw [ByteArray.toList_eq] at h
    exact ByteArray.ext (Array.ext' h)
  subst this
  exact fx_7
theorem rhexC (f : ByteArray) (p : Nat) (hp : p < f.size) (lc : Int) (h : ((f[p]'hp).toNat : Int) = lc) (w : World) : Calls Tryz.prog 114 #[.int .i32 ((f[p]'hp).toNat : Int)] w fun e w' => e = .returned (.int .i64 (hexZ lc)) ∧ w = w' := by
  have hb := (f[p]'hp).toNat_lt
  rw [← h]
  exact refHex_any _ w (by omega)
theorem num_cat2 (x : Int) : strOfNums [x] ++ strOfNums [x] = strOfNums [x, x] := (W.nums_two [x] [x]).symm
set_option maxHeartbeats 2000000 in
theorem rcolor_any (t : T5) (ka : Option Addr) (kn kc : Nat) (hz : t.tx.size ≤ 1000000) (w : World) :
    Calls Tryz.prog 81 #[vA t (.slice ka kn kc)] w fun e w' => e = .returned (res (colorO t)) ∧ Below w.heap.size w w' := by
  obtain ⟨k, tx, un, wh, fl⟩ := t
  have hz : tx.size ≤ 1000000 := hz
  have hB : Below w.heap.size w (w.alloc (.cells #[.int .i64 k, .string tx, .string un, .bool wh, .bool fl, .slice ka kn kc] 57)) := (Below.refl _ w).alloc (Nat.le_refl _) _
  have hX := World.alloc_heap_new w (.cells #[.int .i64 k, .string tx, .string un, .bool wh, .bool fl, .slice ka kn kc] 57)
  have hid : Calls Tryz.prog 49 #[.agg #[.int .i64 k, .string tx, .string un, .bool wh, .bool fl, .slice ka kn kc]] (w.alloc (.cells #[.int .i64 k, .string tx, .string un, .bool wh, .bool fl, .slice ka kn kc] 57)) _ := rident_any ⟨k, tx, un, wh, fl⟩ ka kn kc hz (w.alloc (.cells #[.int .i64 k, .string tx, .string un, .bool wh, .bool fl, .slice ka kn kc] 57))
  have HFO : Hid (∀ w', Calls Tryz.prog 78 #[.string tx] w' fun e w'' => e = .returned (.string (foldS tx)) ∧ Below w'.heap.size w' w'') := fun w' => refFold_any tx w' (by omega)
  have HB := hid_mk hB
  have HX := hid_mk hX
  show Calls Tryz.prog 81 #[.agg #[.int .i64 k, .string tx, .string un, .bool wh, .bool fl, .slice ka kn kc]] w _
  clear hB hX
  by_cases h1 : k = 1
  · have HR : Hid (colorO ⟨k, tx, un, wh, fl⟩ = fndC (foldS tx) CT) := by show _ = _; unfold colorO; rw [if_pos h1]; rfl
    have hi : idS ⟨k, tx, un, wh, fl⟩ = foldS tx := by unfold idS; rw [if_pos h1]
    rw [hi] at hid
    rw [HR.out]
    have k4 : (k != 4) = true := by rw [h1]; rfl
    clear HR hi h1
    generalize foldS tx = f at *
    by_cases e0 : (f.toList == [98, 108, 97, 99, 107]) = true
    · rw [find_0 e0]
      clear HFO 
      go_enter Tryz.func81, Tryz.ntmps81
      go_wp2_with (go_at_call 49; fail)
      refine hid.mono ?_
      rintro e w1 ⟨rfl, hb1⟩
      have hb2 : Below w.heap.size w w1 := HB.out.trans (hb1.mono HB.out.size)
      clear hid hb1
      go_wp2
      go_ret2
      exact ⟨rfl, hb2⟩
    by_cases e1 : (f.toList == [119, 104, 105, 116, 101]) = true
    · rw [find_1 e1]
      have b0 : (f.toList == [98, 108, 97, 99, 107]) = false := by simpa using e0
      clear HFO e0
      go_enter Tryz.func81, Tryz.ntmps81
      go_wp2_with (go_at_call 49; fail)
      refine hid.mono ?_
      rintro e w1 ⟨rfl, hb1⟩
      have hb2 : Below w.heap.size w w1 := HB.out.trans (hb1.mono HB.out.size)
      clear hid hb1
      go_wp2
      go_ret2
      exact ⟨rfl, hb2⟩
    by_cases e2 : (f.toList == [114, 101, 100]) = true
    · rw [find_2 e2]
      have b0 : (f.toList == [98, 108, 97, 99, 107]) = false := by simpa using e0
      have b1 : (f.toList == [119, 104, 105, 116, 101]) = false := by simpa using e1
      clear HFO e0 e1
      go_enter Tryz.func81, Tryz.ntmps81
      go_wp2_with (go_at_call 49; fail)
      refine hid.mono ?_
      rintro e w1 ⟨rfl, hb1⟩
      have hb2 : Below w.heap.size w w1 := HB.out.trans (hb1.mono HB.out.size)
      clear hid hb1
      go_wp2
      go_ret2
      exact ⟨rfl, hb2⟩
    by_cases e3 : (f.toList == [103, 114, 101, 101, 110]) = true
    · rw [find_3 e3]
      have b0 : (f.toList == [98, 108, 97, 99, 107]) = false := by simpa using e0
      have b1 : (f.toList == [119, 104, 105, 116, 101]) = false := by simpa using e1
      have b2 : (f.toList == [114, 101, 100]) = false := by simpa using e2
      clear HFO e0 e1 e2
      go_enter Tryz.func81, Tryz.ntmps81
      go_wp2_with (go_at_call 49; fail)
      refine hid.mono ?_
      rintro e w1 ⟨rfl, hb1⟩
      have hb2 : Below w.heap.size w w1 := HB.out.trans (hb1.mono HB.out.size)
      clear hid hb1
      go_wp2
      go_ret2
      exact ⟨rfl, hb2⟩
    by_cases e4 : (f.toList == [98, 108, 117, 101]) = true
    · rw [find_4 e4]
      have b0 : (f.toList == [98, 108, 97, 99, 107]) = false := by simpa using e0
      have b1 : (f.toList == [119, 104, 105, 116, 101]) = false := by simpa using e1
      have b2 : (f.toList == [114, 101, 100]) = false := by simpa using e2
      have b3 : (f.toList == [103, 114, 101, 101, 110]) = false := by simpa using e3
      clear HFO e0 e1 e2 e3
      go_enter Tryz.func81, Tryz.ntmps81
      go_wp2_with (go_at_call 49; fail)
      refine hid.mono ?_
      rintro e w1 ⟨rfl, hb1⟩
      have hb2 : Below w.heap.size w w1 := HB.out.trans (hb1.mono HB.out.size)
      clear hid hb1
      go_wp2
      go_ret2
      exact ⟨rfl, hb2⟩
    by_cases e5 : (f.toList == [103, 114, 97, 121]) = true
    · rw [find_5 e5]
      have b0 : (f.toList == [98, 108, 97, 99, 107]) = false := by simpa using e0
      have b1 : (f.toList == [119, 104, 105, 116, 101]) = false := by simpa using e1
      have b2 : (f.toList == [114, 101, 100]) = false := by simpa using e2
      have b3 : (f.toList == [103, 114, 101, 101, 110]) = false := by simpa using e3
      have b4 : (f.toList == [98, 108, 117, 101]) = false := by simpa using e4
      clear HFO e0 e1 e2 e3 e4
      go_enter Tryz.func81, Tryz.ntmps81
      go_wp2_with (go_at_call 49; fail)
      refine hid.mono ?_
      rintro e w1 ⟨rfl, hb1⟩
      have hb2 : Below w.heap.size w w1 := HB.out.trans (hb1.mono HB.out.size)
      clear hid hb1
      go_wp2
      go_ret2
      exact ⟨rfl, hb2⟩
    by_cases e6 : (f.toList == [121, 101, 108, 108, 111, 119]) = true
    · rw [find_6 e6]
      have b0 : (f.toList == [98, 108, 97, 99, 107]) = false := by simpa using e0
      have b1 : (f.toList == [119, 104, 105, 116, 101]) = false := by simpa using e1
      have b2 : (f.toList == [114, 101, 100]) = false := by simpa using e2
      have b3 : (f.toList == [103, 114, 101, 101, 110]) = false := by simpa using e3
      have b4 : (f.toList == [98, 108, 117, 101]) = false := by simpa using e4
      have b5 : (f.toList == [103, 114, 97, 121]) = false := by simpa using e5
      clear HFO e0 e1 e2 e3 e4 e5
      go_enter Tryz.func81, Tryz.ntmps81
      go_wp2_with (go_at_call 49; fail)
      refine hid.mono ?_
      rintro e w1 ⟨rfl, hb1⟩
      have hb2 : Below w.heap.size w w1 := HB.out.trans (hb1.mono HB.out.size)
      clear hid hb1
      go_wp2
      go_ret2
      exact ⟨rfl, hb2⟩
    by_cases e7 : (f.toList == [112, 117, 114, 112, 108, 101]) = true
    · rw [find_7 e7]
      have b0 : (f.toList == [98, 108, 97, 99, 107]) = false := by simpa using e0
      have b1 : (f.toList == [119, 104, 105, 116, 101]) = false := by simpa using e1
      have b2 : (f.toList == [114, 101, 100]) = false := by simpa using e2
      have b3 : (f.toList == [103, 114, 101, 101, 110]) = false := by simpa using e3
      have b4 : (f.toList == [98, 108, 117, 101]) = false := by simpa using e4
      have b5 : (f.toList == [103, 114, 97, 121]) = false := by simpa using e5
      have b6 : (f.toList == [121, 101, 108, 108, 111, 119]) = false := by simpa using e6
      clear HFO e0 e1 e2 e3 e4 e5 e6
      go_enter Tryz.func81, Tryz.ntmps81
      go_wp2_with (go_at_call 49; fail)
      refine hid.mono ?_
      rintro e w1 ⟨rfl, hb1⟩
      have hb2 : Below w.heap.size w w1 := HB.out.trans (hb1.mono HB.out.size)
      clear hid hb1
      go_wp2
      go_ret2
      exact ⟨rfl, hb2⟩
    have b0 : (f.toList == [98, 108, 97, 99, 107]) = false := by simpa using e0
    have b1 : (f.toList == [119, 104, 105, 116, 101]) = false := by simpa using e1
    have b2 : (f.toList == [114, 101, 100]) = false := by simpa using e2
    have b3 : (f.toList == [103, 114, 101, 101, 110]) = false := by simpa using e3
    have b4 : (f.toList == [98, 108, 117, 101]) = false := by simpa using e4
    have b5 : (f.toList == [103, 114, 97, 121]) = false := by simpa using e5
    have b6 : (f.toList == [121, 101, 108, 108, 111, 119]) = false := by simpa using e6
    have b7 : (f.toList == [112, 117, 114, 112, 108, 101]) = false := by simpa using e7
    rw [find_none b0 b1 b2 b3 b4 b5 b6 b7]
    clear e0 e1 e2 e3 e4 e5 e6 e7
    go_enter Tryz.func81, Tryz.ntmps81
    go_wp2_with (go_at_call 49; fail)
    refine hid.mono ?_
    rintro e w1 ⟨rfl, hb1⟩
    have hb2 : Below w.heap.size w w1 := HB.out.trans (hb1.mono HB.out.size)
    have hx := (hb1.block w.heap.size (Array.getElem?_eq_some_iff.1 HX.out).1).trans HX.out
    have y0 : w1.cell? ⟨w.heap.size, 0, none⟩ = some (.int .i64 k) := L.cellAt hx 0
    have y1 : w1.cell? ⟨w.heap.size, 1, none⟩ = some (.string tx) := L.cellAt hx 1
    clear hid hb1 hx
    have hfo := HFO.out w1
    go_wp2_with (go_at_call 78; fail)
    refine hfo.mono ?_
    rintro e w2 ⟨rfl, hb3⟩
    have hb4 : Below w.heap.size w w2 := hb2.trans (hb3.mono hb2.size)
    have y2 : w2.cell? ⟨w.heap.size, 0, none⟩ = some (.int .i64 k) := (hb3.cell (p := ⟨w.heap.size, 0, none⟩) (P.lt_of_cell y0)).trans y0
    clear hfo hb3 y0 y1
    go_wp2
    go_ret2
    exact ⟨rfl, hb4⟩
  · have hi : idS ⟨k, tx, un, wh, fl⟩ = ⟨#[]⟩ := by unfold idS; rw [if_neg h1]; rfl
    rw [hi] at hid
    have hem : (⟨#[]⟩ : ByteArray).toList = [] := by rw [ByteArray.toList_eq]
    have b0 : ((⟨#[]⟩ : ByteArray).toList == [98, 108, 97, 99, 107]) = false := by rw [hem]; rfl
    have b1 : ((⟨#[]⟩ : ByteArray).toList == [119, 104, 105, 116, 101]) = false := by rw [hem]; rfl
    have b2 : ((⟨#[]⟩ : ByteArray).toList == [114, 101, 100]) = false := by rw [hem]; rfl
    have b3 : ((⟨#[]⟩ : ByteArray).toList == [103, 114, 101, 101, 110]) = false := by rw [hem]; rfl
    have b4 : ((⟨#[]⟩ : ByteArray).toList == [98, 108, 117, 101]) = false := by rw [hem]; rfl
    have b5 : ((⟨#[]⟩ : ByteArray).toList == [103, 114, 97, 121]) = false := by rw [hem]; rfl
    have b6 : ((⟨#[]⟩ : ByteArray).toList == [121, 101, 108, 108, 111, 119]) = false := by rw [hem]; rfl
    have b7 : ((⟨#[]⟩ : ByteArray).toList == [112, 117, 114, 112, 108, 101]) = false := by rw [hem]; rfl
    clear hi hem
    generalize (⟨#[]⟩ : ByteArray) = f0 at hid b0 b1 b2 b3 b4 b5 b6 b7
    by_cases h4 : k = 4
    · have HR : Hid (colorO ⟨k, tx, un, wh, fl⟩ = dyedO tx) := by show _ = _; unfold colorO; rw [if_neg h1, if_pos h4]
      rw [HR.out]
      have k4 : (k != 4) = false := by rw [h4]; rfl
      clear HR h1 h4
      have hfs : (foldS tx).size = tx.size := foldS_size tx
      have HAT : Hid (∀ p (hp : p < (foldS tx).size), _) := fun p hp => fold_at tx p hp
      have HSZ := hid_mk (W.bytesL_size tx)
      have HBY := hid_mk (W.bytesL_byte tx)
      have HDO : Hid (dyedO tx = if tx.size = 3 then dyeS 2 tx else if tx.size = 6 then dyeS 1 tx else none) := rfl
      have HS2 : Hid (∀ m, dyeS m tx = if (W.bytesL tx).all hexI = true then some (strOfNums (35 :: dyeL m (W.bytesL tx))) else none) := fun m => rfl
      generalize dyedO tx = R at *
      generalize foldS tx = f at *
      generalize hds : W.bytesL tx = ds at *
      have HFS := hid_mk hfs
      clear hds hfs HBY
      go_enter Tryz.func81, Tryz.ntmps81
      go_wp2_with (go_at_call 49; fail)
      refine hid.mono ?_
      rintro e w1 ⟨rfl, hb1⟩
      have hb2 : Below w.heap.size w w1 := HB.out.trans (hb1.mono HB.out.size)
      have hx := (hb1.block w.heap.size (Array.getElem?_eq_some_iff.1 HX.out).1).trans HX.out
      have y0 : w1.cell? ⟨w.heap.size, 0, none⟩ = some (.int .i64 k) := L.cellAt hx 0
      have y1 : w1.cell? ⟨w.heap.size, 1, none⟩ = some (.string tx) := L.cellAt hx 1
      clear hid hb1 hx
      have hfo := HFO.out w1
      clear HFO
      go_wp2_with (go_at_call 78; fail)
      refine hfo.mono ?_
      rintro e w2 ⟨rfl, hb3⟩
      have hb4 : Below w.heap.size w w2 := hb2.trans (hb3.mono hb2.size)
      have y2 : w2.cell? ⟨w.heap.size, 0, none⟩ = some (.int .i64 k) := (hb3.cell (p := ⟨w.heap.size, 0, none⟩) (P.lt_of_cell y0)).trans y0
      clear hfo hb3 y0 y1 b0 b1 b2 b3 b4 b5 b6 b7 HX HB hb2
      have H35 : ∀ m, Hid ((⟨#[35]⟩ : ByteArray) = strOfNums (35 :: dyeL m (ds.take 0))) := fun m => rfl
      by_cases h3 : tx.size = 3
      · have HR : Hid (R = if ds.all hexI = true then some (strOfNums (35 :: dyeL 2 ds)) else none) := by show _ = _; rw [HDO.out, if_pos h3, HS2.out]
        have hn : f.size = 3 := HFS.out.trans h3
        have q3 : ((f.size : Int) != 3) = false := by rw [hn]; rfl
        have q6 : ((f.size : Int) != 6) = true := by rw [hn]; rfl
        have q33 : ((f.size : Int) == 3) = true := by rw [hn]; rfl
        have HLN : Hid (ds.length = 3) := by show _ = _; rw [HSZ.out, ← HFS.out]; exact hn
        have HNN := hid_mk hn
        clear HDO HS2 HSZ hn h3
        go_wp2
        go_loopw [5, 6] (fun a5 a6 wr => ∃ p : Nat, a6 = .int .i64 (p : Int) ∧ a5 = .string (strOfNums (35 :: dyeL 2 (ds.take p))) ∧ p ≤ 3 ∧ Hid ((ds.take p).all hexI = true) ∧ Hid (Below w.heap.size w wr)) (fun _ a6 _ => 4 - (intOf a6).toNat)
        case atStart => exact ⟨0, rfl, by rw [← (H35 2).out], Nat.zero_le _, rfl, hb4⟩
        case round =>
          obtain ⟨p, rfl, rfl, hp, HDG, HBR⟩ := hrel
          clear H35 y2 hb4
          by_cases hlt : p < 3
          · have hpf : p < f.size := by rw [HNN.out]; exact hlt
            have hpi : (p : Int) < (f.size : Int) := by omega
            have hdlt : decide ((p : Int) < (f.size : Int)) = true := decide_eq_true hpi
            have hp0 : (0 : Int) ≤ (p : Int) := by omega
            have hp1 : (p : Int) + 1 ≤ (f.size : Int) := by omega
            have hp2 : (p : Int) ≤ (p : Int) + 1 := by omega
            obtain ⟨t1, t2, t3⟩ := HAT.out p hpf
            have hlt' : p < ds.length := by rw [HLN.out]; exact hlt
            have HTK : Hid (ds.take (p + 1) = ds.take p ++ [ds.getD p 0]) := by
              show _ = _
              rw [List.take_add_one]
              simp [List.getD, hlt']
            have HMEM : Hid (ds.getD p 0 ∈ ds) := by
              show _ ∈ _
              simp [List.getD, hlt']
            have hsz2 : (strOfNums (35 :: dyeL 2 (ds.take p))).size ≤ 100 := by
              rw [W.strOf_size, List.length_cons, dye_len, List.length_take]
              omega
            have hsz3 : (f.extract p (p + 1)).size ≤ 1 := by rw [t2, W.strOf_size]; simp
            have hbb := f[p].toNat_lt
            cases hc : hexI (ds.getD p 0) with
            | true =>
              have hge : decide (hexZ (lowZ (ds.getD p 0)) < 0) = false := decide_eq_false (by have := of_decide_eq_true (t3.trans hc); omega)
              have HS : Hid (strOfNums (35 :: dyeL 2 (ds.take (p + 1))) = strOfNums (35 :: dyeL 2 (ds.take p)) ++ strOfNums (List.replicate 2 (lowZ (ds.getD p 0)))) := by
                show _ = _
                rw [HTK.out, dye_snoc, ← W.nums_two]
                rfl
              have HD2 : Hid ((ds.take (p + 1)).all hexI = true) := by
                show _ = _
                rw [HTK.out, List.all_append, HDG.out]
                simp only [List.all_cons, List.all_nil, Bool.true_and, Bool.and_true]
                exact hc
              have HEX : Hid (f.extract p (p + 1) = strOfNums [lowZ (ds.getD p 0)]) := t2
              have hcall := fun w' => rhexC f p hpf (lowZ (ds.getD p 0)) t1 w'
              have hcall2 := fun w' => refHex_any (lowZ (ds.getD p 0)) w' (by omega)
              generalize hexZ (lowZ (ds.getD p 0)) = hx at *
              clear t2 t3 HAT HTK HMEM hc
              generalize hos : strOfNums (35 :: dyeL 2 (ds.take p)) = os at *
              generalize lowZ (ds.getD p 0) = lc at *
              clear hos
              have hsz4 : (os ++ f.extract p (p + 1)).size ≤ 200 := by rw [ByteArray.size_append]; omega
              go_wp2_with (go_at_call 114; fail)
              first | with_reducible refine (hcall _).mono ?_ | with_reducible refine (hcall2 _).mono ?_
              rintro e w' ⟨rfl, rfl⟩
              clear hcall hcall2
              go_wp2
              go_roundw
              case rel =>
                refine ⟨p + 1, by go_num, ?_, by omega, HD2, HBR⟩
                refine congrArg Value.string ?_
                rw [HS.out]
                show _ = os ++ strOfNums [lc, lc]
                rw [HEX.out]
                rw [ByteArray.append_assoc, num_cat2]
              case measure => simp [intOf]; omega
            | false =>
              have hge : decide (hexZ (lowZ (ds.getD p 0)) < 0) = true := decide_eq_true (hexI_no (t3.trans hc))
              have HNO : Hid (R = none) := by
                show _ = _
                rw [HR.out, if_neg]
                intro h
                have := List.all_eq_true.1 h _ HMEM.out
                rw [hc] at this
                cases this
              have hcall := fun w' => rhexC f p hpf (lowZ (ds.getD p 0)) t1 w'
              have hcall2 := fun w' => refHex_any (lowZ (ds.getD p 0)) w' (by omega)
              generalize hexZ (lowZ (ds.getD p 0)) = hx at *
              clear t2 t3 HAT HTK HMEM hc
              generalize strOfNums (35 :: dyeL 2 (ds.take p)) = os at *
              generalize lowZ (ds.getD p 0) = lc at *
              go_wp2_with (go_at_call 114; fail)
              first | with_reducible refine (hcall _).mono ?_ | with_reducible refine (hcall2 _).mono ?_
              rintro e w' ⟨rfl, rfl⟩
              clear hcall hcall2
              go_wp2
              go_ret2
              exact ⟨by rw [HNO.out]; rfl, HBR.out⟩
          · have hpe : p = 3 := by omega
            have hdlt : decide ((p : Int) < (f.size : Int)) = false := decide_eq_false (by have := HNN.out; omega)
            have hpi : ¬ (p : Int) < (f.size : Int) := by have := HNN.out; omega
            have HDD : Hid (R = some (strOfNums (35 :: dyeL 2 (ds.take p)))) := by
              show _ = _
              have e : ds.take p = ds := List.take_of_length_le (by rw [HLN.out]; omega)
              have h1 := HDG.out
              rw [e] at h1 ⊢
              rw [HR.out, if_pos h1]
            generalize strOfNums (35 :: dyeL 2 (ds.take p)) = os at *
            clear HAT hpe
            go_wp2
            go_ret2
            exact ⟨by rw [HDD.out]; rfl, HBR.out⟩
      · by_cases h6 : tx.size = 6
        · have HR : Hid (R = if ds.all hexI = true then some (strOfNums (35 :: dyeL 1 ds)) else none) := by show _ = _; rw [HDO.out, if_neg h3, if_pos h6, HS2.out]
          have hn : f.size = 6 := HFS.out.trans h6
          have q3 : ((f.size : Int) != 3) = true := by rw [hn]; rfl
          have q6 : ((f.size : Int) != 6) = false := by rw [hn]; rfl
          have q33 : ((f.size : Int) == 3) = false := by rw [hn]; rfl
          have HLN : Hid (ds.length = 6) := by show _ = _; rw [HSZ.out, ← HFS.out]; exact hn
          have HNN := hid_mk hn
          clear HDO HS2 HSZ hn h3 h6
          go_wp2
          go_loopw [5, 6] (fun a5 a6 wr => ∃ p : Nat, a6 = .int .i64 (p : Int) ∧ a5 = .string (strOfNums (35 :: dyeL 1 (ds.take p))) ∧ p ≤ 6 ∧ Hid ((ds.take p).all hexI = true) ∧ Hid (Below w.heap.size w wr)) (fun _ a6 _ => 7 - (intOf a6).toNat)
          case atStart => exact ⟨0, rfl, by rw [← (H35 1).out], Nat.zero_le _, rfl, hb4⟩
          case round =>
            obtain ⟨p, rfl, rfl, hp, HDG, HBR⟩ := hrel
            clear H35 y2 hb4
            by_cases hlt : p < 6
            · have hpf : p < f.size := by rw [HNN.out]; exact hlt
              have hpi : (p : Int) < (f.size : Int) := by omega
              have hdlt : decide ((p : Int) < (f.size : Int)) = true := decide_eq_true hpi
              have hp0 : (0 : Int) ≤ (p : Int) := by omega
              have hp1 : (p : Int) + 1 ≤ (f.size : Int) := by omega
              have hp2 : (p : Int) ≤ (p : Int) + 1 := by omega
              obtain ⟨t1, t2, t3⟩ := HAT.out p hpf
              have hlt' : p < ds.length := by rw [HLN.out]; exact hlt
              have HTK : Hid (ds.take (p + 1) = ds.take p ++ [ds.getD p 0]) := by
                show _ = _
                rw [List.take_add_one]
                simp [List.getD, hlt']
              have HMEM : Hid (ds.getD p 0 ∈ ds) := by
                show _ ∈ _
                simp [List.getD, hlt']
              have hsz2 : (strOfNums (35 :: dyeL 1 (ds.take p))).size ≤ 100 := by
                rw [W.strOf_size, List.length_cons, dye_len, List.length_take]
                omega
              have hsz3 : (f.extract p (p + 1)).size ≤ 1 := by rw [t2, W.strOf_size]; simp
              have hbb := f[p].toNat_lt
              cases hc : hexI (ds.getD p 0) with
              | true =>
                have hge : decide (hexZ (lowZ (ds.getD p 0)) < 0) = false := decide_eq_false (by have := of_decide_eq_true (t3.trans hc); omega)
                have HS : Hid (strOfNums (35 :: dyeL 1 (ds.take (p + 1))) = strOfNums (35 :: dyeL 1 (ds.take p)) ++ strOfNums (List.replicate 1 (lowZ (ds.getD p 0)))) := by
                  show _ = _
                  rw [HTK.out, dye_snoc, ← W.nums_two]
                  rfl
                have HD2 : Hid ((ds.take (p + 1)).all hexI = true) := by
                  show _ = _
                  rw [HTK.out, List.all_append, HDG.out]
                  simp only [List.all_cons, List.all_nil, Bool.true_and, Bool.and_true]
                  exact hc
                have HEX : Hid (f.extract p (p + 1) = strOfNums [lowZ (ds.getD p 0)]) := t2
                have hcall := fun w' => rhexC f p hpf (lowZ (ds.getD p 0)) t1 w'
                have hcall2 := fun w' => refHex_any (lowZ (ds.getD p 0)) w' (by omega)
                generalize hexZ (lowZ (ds.getD p 0)) = hx at *
                clear t2 t3 HAT HTK HMEM hc
                generalize hos : strOfNums (35 :: dyeL 1 (ds.take p)) = os at *
                generalize lowZ (ds.getD p 0) = lc at *
                clear hos
                have hsz4 : (os ++ f.extract p (p + 1)).size ≤ 200 := by rw [ByteArray.size_append]; omega
                go_wp2_with (go_at_call 114; fail)
                first | with_reducible refine (hcall _).mono ?_ | with_reducible refine (hcall2 _).mono ?_
                rintro e w' ⟨rfl, rfl⟩
                clear hcall hcall2
                go_wp2
                go_roundw
                case rel =>
                  refine ⟨p + 1, by go_num, ?_, by omega, HD2, HBR⟩
                  refine congrArg Value.string ?_
                  rw [HS.out]
                  show _ = os ++ strOfNums [lc]
                  rw [HEX.out]
                  skip
                case measure => simp [intOf]; omega
              | false =>
                have hge : decide (hexZ (lowZ (ds.getD p 0)) < 0) = true := decide_eq_true (hexI_no (t3.trans hc))
                have HNO : Hid (R = none) := by
                  show _ = _
                  rw [HR.out, if_neg]
                  intro h
                  have := List.all_eq_true.1 h _ HMEM.out
                  rw [hc] at this
                  cases this
                have hcall := fun w' => rhexC f p hpf (lowZ (ds.getD p 0)) t1 w'
                have hcall2 := fun w' => refHex_any (lowZ (ds.getD p 0)) w' (by omega)
                generalize hexZ (lowZ (ds.getD p 0)) = hx at *
                clear t2 t3 HAT HTK HMEM hc
                generalize strOfNums (35 :: dyeL 1 (ds.take p)) = os at *
                generalize lowZ (ds.getD p 0) = lc at *
                go_wp2_with (go_at_call 114; fail)
                first | with_reducible refine (hcall _).mono ?_ | with_reducible refine (hcall2 _).mono ?_
                rintro e w' ⟨rfl, rfl⟩
                clear hcall hcall2
                go_wp2
                go_ret2
                exact ⟨by rw [HNO.out]; rfl, HBR.out⟩
            · have hpe : p = 6 := by omega
              have hdlt : decide ((p : Int) < (f.size : Int)) = false := decide_eq_false (by have := HNN.out; omega)
              have hpi : ¬ (p : Int) < (f.size : Int) := by have := HNN.out; omega
              have HDD : Hid (R = some (strOfNums (35 :: dyeL 1 (ds.take p)))) := by
                show _ = _
                have e : ds.take p = ds := List.take_of_length_le (by rw [HLN.out]; omega)
                have h1 := HDG.out
                rw [e] at h1 ⊢
                rw [HR.out, if_pos h1]
              generalize strOfNums (35 :: dyeL 1 (ds.take p)) = os at *
              clear HAT hpe
              go_wp2
              go_ret2
              exact ⟨by rw [HDD.out]; rfl, HBR.out⟩
        · have HN : Hid (R = none) := by show _ = _; rw [HDO.out, if_neg h3, if_neg h6]
          have q3 : ((f.size : Int) != 3) = true := by simpa using (by have := HFS.out; omega : (f.size : Int) ≠ 3)
          have q6 : ((f.size : Int) != 6) = true := by simpa using (by have := HFS.out; omega : (f.size : Int) ≠ 6)
          clear HDO HS2 HAT
          go_wp2
          go_ret2
          exact ⟨by rw [HN.out]; rfl, hb4⟩
    · have HR : Hid (colorO ⟨k, tx, un, wh, fl⟩ = none) := by show _ = _; unfold colorO; rw [if_neg h1, if_neg h4]
      rw [HR.out]
      have k4 : (k != 4) = true := by simpa using h4
      clear HR h1 h4
      go_enter Tryz.func81, Tryz.ntmps81
      go_wp2_with (go_at_call 49; fail)
      refine hid.mono ?_
      rintro e w1 ⟨rfl, hb1⟩
      have hb2 : Below w.heap.size w w1 := HB.out.trans (hb1.mono HB.out.size)
      have hx := (hb1.block w.heap.size (Array.getElem?_eq_some_iff.1 HX.out).1).trans HX.out
      have y0 : w1.cell? ⟨w.heap.size, 0, none⟩ = some (.int .i64 k) := L.cellAt hx 0
      have y1 : w1.cell? ⟨w.heap.size, 1, none⟩ = some (.string tx) := L.cellAt hx 1
      clear hid hb1 hx
      have hfo := HFO.out w1
      go_wp2_with (go_at_call 78; fail)
      refine hfo.mono ?_
      rintro e w2 ⟨rfl, hb3⟩
      have hb4 : Below w.heap.size w w2 := hb2.trans (hb3.mono hb2.size)
      have y2 : w2.cell? ⟨w.heap.size, 0, none⟩ = some (.int .i64 k) := (hb3.cell (p := ⟨w.heap.size, 0, none⟩) (P.lt_of_cell y0)).trans y0
      clear hfo hb3 y0 y1
      go_wp2
      go_ret2
      exact ⟨rfl, hb4⟩
end Go.Proofs.YtlhdapckenjigaaGreatDoor.Z
namespace Go.Proofs.YtlhdapckenjigaaGreatDoor.Z
open Go.RowKit
open Go.Proofs.YtlhdapckenjigaaGreatDoor.L (T5 V VsAt t5Cells vCells cell_of_heap hid_mk)
set_option maxRecDepth 100000

theorem bm (a : Bool) : a = true ∨ a = false := by cases a <;> simp
set_option maxHeartbeats 4000000 in
theorem rpart_len_false (form : ByteArray) (b0 : (form.toList == [60, 108, 101, 110, 62]) = true) (bx : (form.toList == [60, 108, 101, 110, 43, 62]) = false) (t : T5) (ka : Option Addr) (kc : Nat) (hz : t.tx.size ≤ 100000) (hu : t.un.size ≤ 1000000) (w : World) :
    Calls Tryz.prog 51 #[.string form, vA t (.slice ka 0 kc)] w fun e w' => e = .returned (res (wholeO .len false t)) ∧ Below w.heap.size w w' := by
  obtain ⟨k, tx, un, wh, fl⟩ := t
  have hB1 : Below w.heap.size w (w.alloc (.cells #[.int .i64 k, .string tx, .string un, .bool wh, .bool fl, .slice ka 0 kc] 57)) := (Below.refl _ w).alloc (Nat.le_refl _) _
  have hB2 : Below w.heap.size w ((w.alloc (.cells #[.int .i64 k, .string tx, .string un, .bool wh, .bool fl, .slice ka 0 kc] 57)).alloc (.cells #[.int .i64 k, .string tx, .string un, .bool wh, .bool fl] 55)) := hB1.alloc hB1.size _
  have hX0 := World.alloc_heap_new w (.cells #[.int .i64 k, .string tx, .string un, .bool wh, .bool fl, .slice ka 0 kc] 57)
  have hX1 : ((w.alloc (.cells #[.int .i64 k, .string tx, .string un, .bool wh, .bool fl, .slice ka 0 kc] 57)).alloc (.cells #[.int .i64 k, .string tx, .string un, .bool wh, .bool fl] 55)).heap[w.heap.size]? = _ := (((Below.refl _ (w.alloc (.cells #[.int .i64 k, .string tx, .string un, .bool wh, .bool fl, .slice ka 0 kc] 57))).alloc (Nat.le_refl _) (.cells #[.int .i64 k, .string tx, .string un, .bool wh, .bool fl] 55)).block _ (Array.getElem?_eq_some_iff.1 hX0).1).trans hX0
  have hX2 := World.alloc_heap_new (w.alloc (.cells #[.int .i64 k, .string tx, .string un, .bool wh, .bool fl, .slice ka 0 kc] 57)) (.cells #[.int .i64 k, .string tx, .string un, .bool wh, .bool fl] 55)
  have hq : (w.alloc (.cells #[.int .i64 k, .string tx, .string un, .bool wh, .bool fl, .slice ka 0 kc] 57)).heap.size = w.heap.size + 1 := by simp
  rw [hq] at hX2
  have hI : Calls Tryz.prog 79 #[.agg #[.int .i64 k, .string tx, .string un, .bool wh, .bool fl]] ((w.alloc (.cells #[.int .i64 k, .string tx, .string un, .bool wh, .bool fl, .slice ka 0 kc] 57)).alloc (.cells #[.int .i64 k, .string tx, .string un, .bool wh, .bool fl] 55)) _ := rint_any ⟨k, tx, un, wh, fl⟩ hz ((w.alloc (.cells #[.int .i64 k, .string tx, .string un, .bool wh, .bool fl, .slice ka 0 kc] 57)).alloc (.cells #[.int .i64 k, .string tx, .string un, .bool wh, .bool fl] 55))
  have HXC : Hid (∀ w', Below ((w.alloc (.cells #[.int .i64 k, .string tx, .string un, .bool wh, .bool fl, .slice ka 0 kc] 57)).alloc (.cells #[.int .i64 k, .string tx, .string un, .bool wh, .bool fl] 55)).heap.size ((w.alloc (.cells #[.int .i64 k, .string tx, .string un, .bool wh, .bool fl, .slice ka 0 kc] 57)).alloc (.cells #[.int .i64 k, .string tx, .string un, .bool wh, .bool fl] 55)) w' → (w'.cell? ⟨w.heap.size + 1, 0, none⟩ = some (.int .i64 k) ∧ w'.cell? ⟨w.heap.size + 1, 2, none⟩ = some (.string un)) ∧ w'.cell? ⟨w.heap.size, 0, none⟩ = some (.int .i64 k) ∧ w'.cell? ⟨w.heap.size, 1, none⟩ = some (.string tx) ∧ w'.cell? ⟨w.heap.size, 2, none⟩ = some (.string un) ∧ w'.cell? ⟨w.heap.size, 3, none⟩ = some (.bool wh) ∧ w'.cell? ⟨w.heap.size, 4, none⟩ = some (.bool fl) ∧ w'.cell? ⟨w.heap.size, 5, none⟩ = some (.slice ka 0 kc)) := fun w' hb => by
    have g1 := (hb.block _ (Array.getElem?_eq_some_iff.1 hX1).1).trans hX1
    have g2 := (hb.block _ (Array.getElem?_eq_some_iff.1 hX2).1).trans hX2
    exact ⟨⟨L.cellAt g2 0, L.cellAt g2 2⟩, L.cellAt g1 0, L.cellAt g1 1, L.cellAt g1 2, L.cellAt g1 3, L.cellAt g1 4, L.cellAt g1 5⟩
  have HFIN : Hid (∀ w', Below ((w.alloc (.cells #[.int .i64 k, .string tx, .string un, .bool wh, .bool fl, .slice ka 0 kc] 57)).alloc (.cells #[.int .i64 k, .string tx, .string un, .bool wh, .bool fl] 55)).heap.size ((w.alloc (.cells #[.int .i64 k, .string tx, .string un, .bool wh, .bool fl, .slice ka 0 kc] 57)).alloc (.cells #[.int .i64 k, .string tx, .string un, .bool wh, .bool fl] 55)) w' → Below w.heap.size w w') := fun w' hb => hB2.trans (hb.mono hB2.size)
  have hbd := intP_bd ⟨k, tx, un, wh, fl⟩
  have hit := W.it_size (intP ⟨k, tx, un, wh, fl⟩).1
  have HDG : Hid (∀ w, Calls Tryz.prog 80 #[.int .i64 (intP ⟨k, tx, un, wh, fl⟩).1] w fun e w' => e = .returned (.string (W.itS (intP ⟨k, tx, un, wh, fl⟩).1)) ∧ w' = w) := fun w => rdig_any _ (by omega) (by omega) w
  have HFU : Hid (∀ w', Calls Tryz.prog 78 #[.string un] w' fun e w'' => e = .returned (.string (foldS un)) ∧ Below w'.heap.size w' w'') := fun w' => refFold_any un w' (Nat.le_trans hu (by decide))
  have HKP : Hid (∀ w3 w4, Below w.heap.size w w3 → w3.cell? ⟨w.heap.size + 1, 0, none⟩ = some (.int .i64 k) → Below w3.heap.size w3 w4 → Below w.heap.size w w4 ∧ w4.cell? ⟨w.heap.size + 1, 0, none⟩ = some (.int .i64 k)) := fun w3 w4 h1 h2 h3 => ⟨h1.trans (h3.mono h1.size), (h3.cell (p := ⟨w.heap.size + 1, 0, none⟩) (P.lt_of_cell h2)).trans h2⟩
  have HR0 : wholeO .len false ⟨k, tx, un, wh, fl⟩ = if (intP ⟨k, tx, un, wh, fl⟩).2 = false ∨ Fits.ok .len ⟨k, tx, un, wh, fl⟩ (intP ⟨k, tx, un, wh, fl⟩).1 = false ∨ (false = true ∧ (intP ⟨k, tx, un, wh, fl⟩).1 < 0) then none else some (W.itS (intP ⟨k, tx, un, wh, fl⟩).1 ++ pxS) := rfl
  generalize wholeO .len false ⟨k, tx, un, wh, fl⟩ = R at *
  have hfit : ∀ n, Fits.ok .len ⟨k, tx, un, wh, fl⟩ n = ((k == 12 && (foldS un).toList == [112, 120]) || (k == 10 && n == 0)) := fun n => rfl
  rw [hfit] at HR0
  generalize intP ⟨k, tx, un, wh, fl⟩ = np at *
  obtain ⟨n, ok⟩ := np
  simp only at hI HDG hbd hit HR0
  generalize W.itS n = its at *
  generalize foldS un = f at *
  have HR1 : R = if ok = false ∨ ((k == 12 && f.toList == [112, 120]) || (k == 10 && n == 0)) = false ∨ (false = true ∧ decide (n < 0) = true) then none else some (its ++ ⟨#[112, 120]⟩) := by
    rw [HR0]; simp only [decide_eq_true_eq]; rfl
  have HR := hid_mk HR1
  obtain ⟨hn0, hn1⟩ := hbd
  have hsum : ¬ (9223372036854775807 < its.size + (⟨#[112, 120]⟩ : ByteArray).size) := by
    have : (⟨#[112, 120]⟩ : ByteArray).size ≤ 2 := by decide
    omega
  clear hX0 hX1 hX2 hq hB1 hB2 hfit HR0 HR1 hz hu
  show Calls Tryz.prog 51 #[.string form, .agg #[.int .i64 k, .string tx, .string un, .bool wh, .bool fl, .slice ka 0 kc]] w _
  cases ok with
  | false =>
    have HN : Hid (R = none) := by show _ = _; rw [HR.out]; simp [true_or]
    clear HR
    go_enter Tryz.func51, Tryz.ntmps51
    go_wp2_with (go_at_call 79; fail)
    refine hI.mono ?_
    rintro e w3 ⟨rfl, hb3⟩
    have hend := HFIN.out _ hb3
    obtain ⟨⟨c0, c2⟩, v0, v1, v2, v3, v4, v5⟩ := HXC.out w3 hb3
    clear hI HXC hb3
    go_wp2_with (go_at_call 80; fail)
    refine (HDG.out _).mono ?_
    rintro e w' ⟨rfl, rfl⟩
    clear HDG
    go_wp2
    go_ret2
    exact ⟨by rw [HN.out]; rfl, hend⟩
  | true =>
    cases h12 : (k == 12) with
    | true =>
      have h10 : (k == 10) = false := by have := beq_iff_eq.1 h12; subst this; rfl
      cases hpx : (f.toList == [112, 120]) with
      | true =>
        cases hng : decide (n < 0) with
        | true =>
          have HN : Hid (R = some (its ++ ⟨#[112, 120]⟩)) := by show _ = _; rw [HR.out]; simp [h12, hpx, h10, hng]
          clear HR
          go_enter Tryz.func51, Tryz.ntmps51
          go_wp2_with (go_at_call 79; fail)
          refine hI.mono ?_
          rintro e w3 ⟨rfl, hb3⟩
          have hend := HFIN.out _ hb3
          obtain ⟨⟨c0, c2⟩, v0, v1, v2, v3, v4, v5⟩ := HXC.out w3 hb3
          clear hI HXC hb3
          go_wp2_with (go_at_call 80; fail)
          refine (HDG.out _).mono ?_
          rintro e w' ⟨rfl, rfl⟩
          clear HDG
          have hfu := HFU.out w'
          go_wp2_with (go_at_call 78; fail)
          refine hfu.mono ?_
          rintro e w4 ⟨rfl, hb4⟩
          obtain ⟨hend, c0⟩ := HKP.out w' w4 hend c0 hb4
          clear hfu hb4 c2 v0 v1 v2 v3 v4 v5
          go_wp2
          go_ret2
          exact ⟨by rw [HN.out]; rfl, hend⟩
        | false =>
          have HN : Hid (R = some (its ++ ⟨#[112, 120]⟩)) := by show _ = _; rw [HR.out]; simp [h12, hpx, h10, hng]
          clear HR
          go_enter Tryz.func51, Tryz.ntmps51
          go_wp2_with (go_at_call 79; fail)
          refine hI.mono ?_
          rintro e w3 ⟨rfl, hb3⟩
          have hend := HFIN.out _ hb3
          obtain ⟨⟨c0, c2⟩, v0, v1, v2, v3, v4, v5⟩ := HXC.out w3 hb3
          clear hI HXC hb3
          go_wp2_with (go_at_call 80; fail)
          refine (HDG.out _).mono ?_
          rintro e w' ⟨rfl, rfl⟩
          clear HDG
          have hfu := HFU.out w'
          go_wp2_with (go_at_call 78; fail)
          refine hfu.mono ?_
          rintro e w4 ⟨rfl, hb4⟩
          obtain ⟨hend, c0⟩ := HKP.out w' w4 hend c0 hb4
          clear hfu hb4 c2 v0 v1 v2 v3 v4 v5
          go_wp2
          go_ret2
          exact ⟨by rw [HN.out]; rfl, hend⟩
      | false =>
        have HN : Hid (R = none) := by show _ = _; rw [HR.out]; simp [h12, hpx, h10]
        clear HR
        go_enter Tryz.func51, Tryz.ntmps51
        go_wp2_with (go_at_call 79; fail)
        refine hI.mono ?_
        rintro e w3 ⟨rfl, hb3⟩
        have hend := HFIN.out _ hb3
        obtain ⟨⟨c0, c2⟩, v0, v1, v2, v3, v4, v5⟩ := HXC.out w3 hb3
        clear hI HXC hb3
        go_wp2_with (go_at_call 80; fail)
        refine (HDG.out _).mono ?_
        rintro e w' ⟨rfl, rfl⟩
        clear HDG
        have hfu := HFU.out w'
        go_wp2_with (go_at_call 78; fail)
        refine hfu.mono ?_
        rintro e w4 ⟨rfl, hb4⟩
        obtain ⟨hend, c0⟩ := HKP.out w' w4 hend c0 hb4
        clear hfu hb4 c2 v0 v1 v2 v3 v4 v5
        go_wp2
        go_ret2
        exact ⟨by rw [HN.out]; rfl, hend⟩
    | false =>
      cases h10 : (k == 10) with
      | true =>
        cases hz0 : (n == 0) with
        | true =>
          have hng : decide (n < 0) = false := by have := beq_iff_eq.1 hz0; subst this; rfl
          have HN : Hid (R = some (its ++ ⟨#[112, 120]⟩)) := by show _ = _; rw [HR.out]; simp [h12, h10, hz0, hng]
          clear HR
          go_enter Tryz.func51, Tryz.ntmps51
          go_wp2_with (go_at_call 79; fail)
          refine hI.mono ?_
          rintro e w3 ⟨rfl, hb3⟩
          have hend := HFIN.out _ hb3
          obtain ⟨⟨c0, c2⟩, v0, v1, v2, v3, v4, v5⟩ := HXC.out w3 hb3
          clear hI HXC hb3
          go_wp2_with (go_at_call 80; fail)
          refine (HDG.out _).mono ?_
          rintro e w' ⟨rfl, rfl⟩
          clear HDG
          go_wp2
          go_ret2
          exact ⟨by rw [HN.out]; rfl, hend⟩
        | false =>
          have HN : Hid (R = none) := by show _ = _; rw [HR.out]; simp [h12, h10, hz0]
          clear HR
          go_enter Tryz.func51, Tryz.ntmps51
          go_wp2_with (go_at_call 79; fail)
          refine hI.mono ?_
          rintro e w3 ⟨rfl, hb3⟩
          have hend := HFIN.out _ hb3
          obtain ⟨⟨c0, c2⟩, v0, v1, v2, v3, v4, v5⟩ := HXC.out w3 hb3
          clear hI HXC hb3
          go_wp2_with (go_at_call 80; fail)
          refine (HDG.out _).mono ?_
          rintro e w' ⟨rfl, rfl⟩
          clear HDG
          go_wp2
          go_ret2
          exact ⟨by rw [HN.out]; rfl, hend⟩
      | false =>
        have HN : Hid (R = none) := by show _ = _; rw [HR.out]; simp [h12, h10]
        clear HR
        go_enter Tryz.func51, Tryz.ntmps51
        go_wp2_with (go_at_call 79; fail)
        refine hI.mono ?_
        rintro e w3 ⟨rfl, hb3⟩
        have hend := HFIN.out _ hb3
        obtain ⟨⟨c0, c2⟩, v0, v1, v2, v3, v4, v5⟩ := HXC.out w3 hb3
        clear hI HXC hb3
        go_wp2_with (go_at_call 80; fail)
        refine (HDG.out _).mono ?_
        rintro e w' ⟨rfl, rfl⟩
        clear HDG
        go_wp2
        go_ret2
        exact ⟨by rw [HN.out]; rfl, hend⟩
set_option maxHeartbeats 4000000 in
theorem rpart_len_true (form : ByteArray) (b0 : (form.toList == [60, 108, 101, 110, 62]) = false) (b1 : (form.toList == [60, 108, 101, 110, 43, 62]) = true) (t : T5) (ka : Option Addr) (kc : Nat) (hz : t.tx.size ≤ 100000) (hu : t.un.size ≤ 1000000) (w : World) :
    Calls Tryz.prog 51 #[.string form, vA t (.slice ka 0 kc)] w fun e w' => e = .returned (res (wholeO .len true t)) ∧ Below w.heap.size w w' := by
  obtain ⟨k, tx, un, wh, fl⟩ := t
  have hB1 : Below w.heap.size w (w.alloc (.cells #[.int .i64 k, .string tx, .string un, .bool wh, .bool fl, .slice ka 0 kc] 57)) := (Below.refl _ w).alloc (Nat.le_refl _) _
  have hB2 : Below w.heap.size w ((w.alloc (.cells #[.int .i64 k, .string tx, .string un, .bool wh, .bool fl, .slice ka 0 kc] 57)).alloc (.cells #[.int .i64 k, .string tx, .string un, .bool wh, .bool fl] 55)) := hB1.alloc hB1.size _
  have hX0 := World.alloc_heap_new w (.cells #[.int .i64 k, .string tx, .string un, .bool wh, .bool fl, .slice ka 0 kc] 57)
  have hX1 : ((w.alloc (.cells #[.int .i64 k, .string tx, .string un, .bool wh, .bool fl, .slice ka 0 kc] 57)).alloc (.cells #[.int .i64 k, .string tx, .string un, .bool wh, .bool fl] 55)).heap[w.heap.size]? = _ := (((Below.refl _ (w.alloc (.cells #[.int .i64 k, .string tx, .string un, .bool wh, .bool fl, .slice ka 0 kc] 57))).alloc (Nat.le_refl _) (.cells #[.int .i64 k, .string tx, .string un, .bool wh, .bool fl] 55)).block _ (Array.getElem?_eq_some_iff.1 hX0).1).trans hX0
  have hX2 := World.alloc_heap_new (w.alloc (.cells #[.int .i64 k, .string tx, .string un, .bool wh, .bool fl, .slice ka 0 kc] 57)) (.cells #[.int .i64 k, .string tx, .string un, .bool wh, .bool fl] 55)
  have hq : (w.alloc (.cells #[.int .i64 k, .string tx, .string un, .bool wh, .bool fl, .slice ka 0 kc] 57)).heap.size = w.heap.size + 1 := by simp
  rw [hq] at hX2
  have hI : Calls Tryz.prog 79 #[.agg #[.int .i64 k, .string tx, .string un, .bool wh, .bool fl]] ((w.alloc (.cells #[.int .i64 k, .string tx, .string un, .bool wh, .bool fl, .slice ka 0 kc] 57)).alloc (.cells #[.int .i64 k, .string tx, .string un, .bool wh, .bool fl] 55)) _ := rint_any ⟨k, tx, un, wh, fl⟩ hz ((w.alloc (.cells #[.int .i64 k, .string tx, .string un, .bool wh, .bool fl, .slice ka 0 kc] 57)).alloc (.cells #[.int .i64 k, .string tx, .string un, .bool wh, .bool fl] 55))
  have HXC : Hid (∀ w', Below ((w.alloc (.cells #[.int .i64 k, .string tx, .string un, .bool wh, .bool fl, .slice ka 0 kc] 57)).alloc (.cells #[.int .i64 k, .string tx, .string un, .bool wh, .bool fl] 55)).heap.size ((w.alloc (.cells #[.int .i64 k, .string tx, .string un, .bool wh, .bool fl, .slice ka 0 kc] 57)).alloc (.cells #[.int .i64 k, .string tx, .string un, .bool wh, .bool fl] 55)) w' → (w'.cell? ⟨w.heap.size + 1, 0, none⟩ = some (.int .i64 k) ∧ w'.cell? ⟨w.heap.size + 1, 2, none⟩ = some (.string un)) ∧ w'.cell? ⟨w.heap.size, 0, none⟩ = some (.int .i64 k) ∧ w'.cell? ⟨w.heap.size, 1, none⟩ = some (.string tx) ∧ w'.cell? ⟨w.heap.size, 2, none⟩ = some (.string un) ∧ w'.cell? ⟨w.heap.size, 3, none⟩ = some (.bool wh) ∧ w'.cell? ⟨w.heap.size, 4, none⟩ = some (.bool fl) ∧ w'.cell? ⟨w.heap.size, 5, none⟩ = some (.slice ka 0 kc)) := fun w' hb => by
    have g1 := (hb.block _ (Array.getElem?_eq_some_iff.1 hX1).1).trans hX1
    have g2 := (hb.block _ (Array.getElem?_eq_some_iff.1 hX2).1).trans hX2
    exact ⟨⟨L.cellAt g2 0, L.cellAt g2 2⟩, L.cellAt g1 0, L.cellAt g1 1, L.cellAt g1 2, L.cellAt g1 3, L.cellAt g1 4, L.cellAt g1 5⟩
  have HFIN : Hid (∀ w', Below ((w.alloc (.cells #[.int .i64 k, .string tx, .string un, .bool wh, .bool fl, .slice ka 0 kc] 57)).alloc (.cells #[.int .i64 k, .string tx, .string un, .bool wh, .bool fl] 55)).heap.size ((w.alloc (.cells #[.int .i64 k, .string tx, .string un, .bool wh, .bool fl, .slice ka 0 kc] 57)).alloc (.cells #[.int .i64 k, .string tx, .string un, .bool wh, .bool fl] 55)) w' → Below w.heap.size w w') := fun w' hb => hB2.trans (hb.mono hB2.size)
  have hbd := intP_bd ⟨k, tx, un, wh, fl⟩
  have hit := W.it_size (intP ⟨k, tx, un, wh, fl⟩).1
  have HDG : Hid (∀ w, Calls Tryz.prog 80 #[.int .i64 (intP ⟨k, tx, un, wh, fl⟩).1] w fun e w' => e = .returned (.string (W.itS (intP ⟨k, tx, un, wh, fl⟩).1)) ∧ w' = w) := fun w => rdig_any _ (by omega) (by omega) w
  have HFU : Hid (∀ w', Calls Tryz.prog 78 #[.string un] w' fun e w'' => e = .returned (.string (foldS un)) ∧ Below w'.heap.size w' w'') := fun w' => refFold_any un w' (Nat.le_trans hu (by decide))
  have HKP : Hid (∀ w3 w4, Below w.heap.size w w3 → w3.cell? ⟨w.heap.size + 1, 0, none⟩ = some (.int .i64 k) → Below w3.heap.size w3 w4 → Below w.heap.size w w4 ∧ w4.cell? ⟨w.heap.size + 1, 0, none⟩ = some (.int .i64 k)) := fun w3 w4 h1 h2 h3 => ⟨h1.trans (h3.mono h1.size), (h3.cell (p := ⟨w.heap.size + 1, 0, none⟩) (P.lt_of_cell h2)).trans h2⟩
  have HR0 : wholeO .len true ⟨k, tx, un, wh, fl⟩ = if (intP ⟨k, tx, un, wh, fl⟩).2 = false ∨ Fits.ok .len ⟨k, tx, un, wh, fl⟩ (intP ⟨k, tx, un, wh, fl⟩).1 = false ∨ (true = true ∧ (intP ⟨k, tx, un, wh, fl⟩).1 < 0) then none else some (W.itS (intP ⟨k, tx, un, wh, fl⟩).1 ++ pxS) := rfl
  generalize wholeO .len true ⟨k, tx, un, wh, fl⟩ = R at *
  have hfit : ∀ n, Fits.ok .len ⟨k, tx, un, wh, fl⟩ n = ((k == 12 && (foldS un).toList == [112, 120]) || (k == 10 && n == 0)) := fun n => rfl
  rw [hfit] at HR0
  generalize intP ⟨k, tx, un, wh, fl⟩ = np at *
  obtain ⟨n, ok⟩ := np
  simp only at hI HDG hbd hit HR0
  generalize W.itS n = its at *
  generalize foldS un = f at *
  have HR1 : R = if ok = false ∨ ((k == 12 && f.toList == [112, 120]) || (k == 10 && n == 0)) = false ∨ (true = true ∧ decide (n < 0) = true) then none else some (its ++ ⟨#[112, 120]⟩) := by
    rw [HR0]; simp only [decide_eq_true_eq]; rfl
  have HR := hid_mk HR1
  obtain ⟨hn0, hn1⟩ := hbd
  have hsum : ¬ (9223372036854775807 < its.size + (⟨#[112, 120]⟩ : ByteArray).size) := by
    have : (⟨#[112, 120]⟩ : ByteArray).size ≤ 2 := by decide
    omega
  clear hX0 hX1 hX2 hq hB1 hB2 hfit HR0 HR1 hz hu
  show Calls Tryz.prog 51 #[.string form, .agg #[.int .i64 k, .string tx, .string un, .bool wh, .bool fl, .slice ka 0 kc]] w _
  cases ok with
  | false =>
    have HN : Hid (R = none) := by show _ = _; rw [HR.out]; simp [true_or]
    clear HR
    go_enter Tryz.func51, Tryz.ntmps51
    go_wp2_with (go_at_call 79; fail)
    refine hI.mono ?_
    rintro e w3 ⟨rfl, hb3⟩
    have hend := HFIN.out _ hb3
    obtain ⟨⟨c0, c2⟩, v0, v1, v2, v3, v4, v5⟩ := HXC.out w3 hb3
    clear hI HXC hb3
    go_wp2_with (go_at_call 80; fail)
    refine (HDG.out _).mono ?_
    rintro e w' ⟨rfl, rfl⟩
    clear HDG
    go_wp2
    go_ret2
    exact ⟨by rw [HN.out]; rfl, hend⟩
  | true =>
    cases h12 : (k == 12) with
    | true =>
      have h10 : (k == 10) = false := by have := beq_iff_eq.1 h12; subst this; rfl
      cases hpx : (f.toList == [112, 120]) with
      | true =>
        cases hng : decide (n < 0) with
        | true =>
          have HN : Hid (R = none) := by show _ = _; rw [HR.out]; simp [h12, hpx, h10, hng]
          clear HR
          go_enter Tryz.func51, Tryz.ntmps51
          go_wp2_with (go_at_call 79; fail)
          refine hI.mono ?_
          rintro e w3 ⟨rfl, hb3⟩
          have hend := HFIN.out _ hb3
          obtain ⟨⟨c0, c2⟩, v0, v1, v2, v3, v4, v5⟩ := HXC.out w3 hb3
          clear hI HXC hb3
          go_wp2_with (go_at_call 80; fail)
          refine (HDG.out _).mono ?_
          rintro e w' ⟨rfl, rfl⟩
          clear HDG
          have hfu := HFU.out w'
          go_wp2_with (go_at_call 78; fail)
          refine hfu.mono ?_
          rintro e w4 ⟨rfl, hb4⟩
          obtain ⟨hend, c0⟩ := HKP.out w' w4 hend c0 hb4
          clear hfu hb4 c2 v0 v1 v2 v3 v4 v5
          go_wp2
          go_ret2
          exact ⟨by rw [HN.out]; rfl, hend⟩
        | false =>
          have HN : Hid (R = some (its ++ ⟨#[112, 120]⟩)) := by show _ = _; rw [HR.out]; simp [h12, hpx, h10, hng]
          clear HR
          go_enter Tryz.func51, Tryz.ntmps51
          go_wp2_with (go_at_call 79; fail)
          refine hI.mono ?_
          rintro e w3 ⟨rfl, hb3⟩
          have hend := HFIN.out _ hb3
          obtain ⟨⟨c0, c2⟩, v0, v1, v2, v3, v4, v5⟩ := HXC.out w3 hb3
          clear hI HXC hb3
          go_wp2_with (go_at_call 80; fail)
          refine (HDG.out _).mono ?_
          rintro e w' ⟨rfl, rfl⟩
          clear HDG
          have hfu := HFU.out w'
          go_wp2_with (go_at_call 78; fail)
          refine hfu.mono ?_
          rintro e w4 ⟨rfl, hb4⟩
          obtain ⟨hend, c0⟩ := HKP.out w' w4 hend c0 hb4
          clear hfu hb4 c2 v0 v1 v2 v3 v4 v5
          go_wp2
          go_ret2
          exact ⟨by rw [HN.out]; rfl, hend⟩
      | false =>
        have HN : Hid (R = none) := by show _ = _; rw [HR.out]; simp [h12, hpx, h10]
        clear HR
        go_enter Tryz.func51, Tryz.ntmps51
        go_wp2_with (go_at_call 79; fail)
        refine hI.mono ?_
        rintro e w3 ⟨rfl, hb3⟩
        have hend := HFIN.out _ hb3
        obtain ⟨⟨c0, c2⟩, v0, v1, v2, v3, v4, v5⟩ := HXC.out w3 hb3
        clear hI HXC hb3
        go_wp2_with (go_at_call 80; fail)
        refine (HDG.out _).mono ?_
        rintro e w' ⟨rfl, rfl⟩
        clear HDG
        have hfu := HFU.out w'
        go_wp2_with (go_at_call 78; fail)
        refine hfu.mono ?_
        rintro e w4 ⟨rfl, hb4⟩
        obtain ⟨hend, c0⟩ := HKP.out w' w4 hend c0 hb4
        clear hfu hb4 c2 v0 v1 v2 v3 v4 v5
        go_wp2
        go_ret2
        exact ⟨by rw [HN.out]; rfl, hend⟩
    | false =>
      cases h10 : (k == 10) with
      | true =>
        cases hz0 : (n == 0) with
        | true =>
          have hng : decide (n < 0) = false := by have := beq_iff_eq.1 hz0; subst this; rfl
          have HN : Hid (R = some (its ++ ⟨#[112, 120]⟩)) := by show _ = _; rw [HR.out]; simp [h12, h10, hz0, hng]
          clear HR
          go_enter Tryz.func51, Tryz.ntmps51
          go_wp2_with (go_at_call 79; fail)
          refine hI.mono ?_
          rintro e w3 ⟨rfl, hb3⟩
          have hend := HFIN.out _ hb3
          obtain ⟨⟨c0, c2⟩, v0, v1, v2, v3, v4, v5⟩ := HXC.out w3 hb3
          clear hI HXC hb3
          go_wp2_with (go_at_call 80; fail)
          refine (HDG.out _).mono ?_
          rintro e w' ⟨rfl, rfl⟩
          clear HDG
          go_wp2
          go_ret2
          exact ⟨by rw [HN.out]; rfl, hend⟩
        | false =>
          have HN : Hid (R = none) := by show _ = _; rw [HR.out]; simp [h12, h10, hz0]
          clear HR
          go_enter Tryz.func51, Tryz.ntmps51
          go_wp2_with (go_at_call 79; fail)
          refine hI.mono ?_
          rintro e w3 ⟨rfl, hb3⟩
          have hend := HFIN.out _ hb3
          obtain ⟨⟨c0, c2⟩, v0, v1, v2, v3, v4, v5⟩ := HXC.out w3 hb3
          clear hI HXC hb3
          go_wp2_with (go_at_call 80; fail)
          refine (HDG.out _).mono ?_
          rintro e w' ⟨rfl, rfl⟩
          clear HDG
          go_wp2
          go_ret2
          exact ⟨by rw [HN.out]; rfl, hend⟩
      | false =>
        have HN : Hid (R = none) := by show _ = _; rw [HR.out]; simp [h12, h10]
        clear HR
        go_enter Tryz.func51, Tryz.ntmps51
        go_wp2_with (go_at_call 79; fail)
        refine hI.mono ?_
        rintro e w3 ⟨rfl, hb3⟩
        have hend := HFIN.out _ hb3
        obtain ⟨⟨c0, c2⟩, v0, v1, v2, v3, v4, v5⟩ := HXC.out w3 hb3
        clear hI HXC hb3
        go_wp2_with (go_at_call 80; fail)
        refine (HDG.out _).mono ?_
        rintro e w' ⟨rfl, rfl⟩
        clear HDG
        go_wp2
        go_ret2
        exact ⟨by rw [HN.out]; rfl, hend⟩
set_option maxHeartbeats 4000000 in
theorem rpart_pct_false (form : ByteArray) (b0 : (form.toList == [60, 108, 101, 110, 62]) = false) (b1 : (form.toList == [60, 108, 101, 110, 43, 62]) = false) (b2 : (form.toList == [60, 112, 99, 116, 62]) = true) (bx : (form.toList == [60, 112, 99, 116, 43, 62]) = false) (t : T5) (ka : Option Addr) (kc : Nat) (hz : t.tx.size ≤ 100000) (hu : t.un.size ≤ 1000000) (w : World) :
    Calls Tryz.prog 51 #[.string form, vA t (.slice ka 0 kc)] w fun e w' => e = .returned (res (wholeO .pct false t)) ∧ Below w.heap.size w w' := by
  obtain ⟨k, tx, un, wh, fl⟩ := t
  have hB1 : Below w.heap.size w (w.alloc (.cells #[.int .i64 k, .string tx, .string un, .bool wh, .bool fl, .slice ka 0 kc] 57)) := (Below.refl _ w).alloc (Nat.le_refl _) _
  have hB2 : Below w.heap.size w ((w.alloc (.cells #[.int .i64 k, .string tx, .string un, .bool wh, .bool fl, .slice ka 0 kc] 57)).alloc (.cells #[.int .i64 k, .string tx, .string un, .bool wh, .bool fl] 55)) := hB1.alloc hB1.size _
  have hX0 := World.alloc_heap_new w (.cells #[.int .i64 k, .string tx, .string un, .bool wh, .bool fl, .slice ka 0 kc] 57)
  have hX1 : ((w.alloc (.cells #[.int .i64 k, .string tx, .string un, .bool wh, .bool fl, .slice ka 0 kc] 57)).alloc (.cells #[.int .i64 k, .string tx, .string un, .bool wh, .bool fl] 55)).heap[w.heap.size]? = _ := (((Below.refl _ (w.alloc (.cells #[.int .i64 k, .string tx, .string un, .bool wh, .bool fl, .slice ka 0 kc] 57))).alloc (Nat.le_refl _) (.cells #[.int .i64 k, .string tx, .string un, .bool wh, .bool fl] 55)).block _ (Array.getElem?_eq_some_iff.1 hX0).1).trans hX0
  have hX2 := World.alloc_heap_new (w.alloc (.cells #[.int .i64 k, .string tx, .string un, .bool wh, .bool fl, .slice ka 0 kc] 57)) (.cells #[.int .i64 k, .string tx, .string un, .bool wh, .bool fl] 55)
  have hq : (w.alloc (.cells #[.int .i64 k, .string tx, .string un, .bool wh, .bool fl, .slice ka 0 kc] 57)).heap.size = w.heap.size + 1 := by simp
  rw [hq] at hX2
  have hI : Calls Tryz.prog 79 #[.agg #[.int .i64 k, .string tx, .string un, .bool wh, .bool fl]] ((w.alloc (.cells #[.int .i64 k, .string tx, .string un, .bool wh, .bool fl, .slice ka 0 kc] 57)).alloc (.cells #[.int .i64 k, .string tx, .string un, .bool wh, .bool fl] 55)) _ := rint_any ⟨k, tx, un, wh, fl⟩ hz ((w.alloc (.cells #[.int .i64 k, .string tx, .string un, .bool wh, .bool fl, .slice ka 0 kc] 57)).alloc (.cells #[.int .i64 k, .string tx, .string un, .bool wh, .bool fl] 55))
  have HXC : Hid (∀ w', Below ((w.alloc (.cells #[.int .i64 k, .string tx, .string un, .bool wh, .bool fl, .slice ka 0 kc] 57)).alloc (.cells #[.int .i64 k, .string tx, .string un, .bool wh, .bool fl] 55)).heap.size ((w.alloc (.cells #[.int .i64 k, .string tx, .string un, .bool wh, .bool fl, .slice ka 0 kc] 57)).alloc (.cells #[.int .i64 k, .string tx, .string un, .bool wh, .bool fl] 55)) w' → (w'.cell? ⟨w.heap.size + 1, 0, none⟩ = some (.int .i64 k) ∧ w'.cell? ⟨w.heap.size + 1, 2, none⟩ = some (.string un)) ∧ w'.cell? ⟨w.heap.size, 0, none⟩ = some (.int .i64 k) ∧ w'.cell? ⟨w.heap.size, 1, none⟩ = some (.string tx) ∧ w'.cell? ⟨w.heap.size, 2, none⟩ = some (.string un) ∧ w'.cell? ⟨w.heap.size, 3, none⟩ = some (.bool wh) ∧ w'.cell? ⟨w.heap.size, 4, none⟩ = some (.bool fl) ∧ w'.cell? ⟨w.heap.size, 5, none⟩ = some (.slice ka 0 kc)) := fun w' hb => by
    have g1 := (hb.block _ (Array.getElem?_eq_some_iff.1 hX1).1).trans hX1
    have g2 := (hb.block _ (Array.getElem?_eq_some_iff.1 hX2).1).trans hX2
    exact ⟨⟨L.cellAt g2 0, L.cellAt g2 2⟩, L.cellAt g1 0, L.cellAt g1 1, L.cellAt g1 2, L.cellAt g1 3, L.cellAt g1 4, L.cellAt g1 5⟩
  have HFIN : Hid (∀ w', Below ((w.alloc (.cells #[.int .i64 k, .string tx, .string un, .bool wh, .bool fl, .slice ka 0 kc] 57)).alloc (.cells #[.int .i64 k, .string tx, .string un, .bool wh, .bool fl] 55)).heap.size ((w.alloc (.cells #[.int .i64 k, .string tx, .string un, .bool wh, .bool fl, .slice ka 0 kc] 57)).alloc (.cells #[.int .i64 k, .string tx, .string un, .bool wh, .bool fl] 55)) w' → Below w.heap.size w w') := fun w' hb => hB2.trans (hb.mono hB2.size)
  have hbd := intP_bd ⟨k, tx, un, wh, fl⟩
  have hit := W.it_size (intP ⟨k, tx, un, wh, fl⟩).1
  have HDG : Hid (∀ w, Calls Tryz.prog 80 #[.int .i64 (intP ⟨k, tx, un, wh, fl⟩).1] w fun e w' => e = .returned (.string (W.itS (intP ⟨k, tx, un, wh, fl⟩).1)) ∧ w' = w) := fun w => rdig_any _ (by omega) (by omega) w
  have HFU : Hid (∀ w', Calls Tryz.prog 78 #[.string un] w' fun e w'' => e = .returned (.string (foldS un)) ∧ Below w'.heap.size w' w'') := fun w' => refFold_any un w' (Nat.le_trans hu (by decide))
  have HKP : Hid (∀ w3 w4, Below w.heap.size w w3 → w3.cell? ⟨w.heap.size + 1, 0, none⟩ = some (.int .i64 k) → Below w3.heap.size w3 w4 → Below w.heap.size w w4 ∧ w4.cell? ⟨w.heap.size + 1, 0, none⟩ = some (.int .i64 k)) := fun w3 w4 h1 h2 h3 => ⟨h1.trans (h3.mono h1.size), (h3.cell (p := ⟨w.heap.size + 1, 0, none⟩) (P.lt_of_cell h2)).trans h2⟩
  have HR0 : wholeO .pct false ⟨k, tx, un, wh, fl⟩ = if (intP ⟨k, tx, un, wh, fl⟩).2 = false ∨ Fits.ok .pct ⟨k, tx, un, wh, fl⟩ (intP ⟨k, tx, un, wh, fl⟩).1 = false ∨ (false = true ∧ (intP ⟨k, tx, un, wh, fl⟩).1 < 0) then none else some (W.itS (intP ⟨k, tx, un, wh, fl⟩).1 ++ pcS) := rfl
  generalize wholeO .pct false ⟨k, tx, un, wh, fl⟩ = R at *
  have hfit : ∀ n, Fits.ok .pct ⟨k, tx, un, wh, fl⟩ n = (k == 11) := fun n => rfl
  rw [hfit] at HR0
  generalize intP ⟨k, tx, un, wh, fl⟩ = np at *
  obtain ⟨n, ok⟩ := np
  simp only at hI HDG hbd hit HR0
  generalize W.itS n = its at *
  generalize foldS un = f at *
  have HR1 : R = if ok = false ∨ (k == 11) = false ∨ (false = true ∧ decide (n < 0) = true) then none else some (its ++ ⟨#[37]⟩) := by
    rw [HR0]; simp only [decide_eq_true_eq]; rfl
  have HR := hid_mk HR1
  obtain ⟨hn0, hn1⟩ := hbd
  have hsum : ¬ (9223372036854775807 < its.size + (⟨#[37]⟩ : ByteArray).size) := by
    have : (⟨#[37]⟩ : ByteArray).size ≤ 2 := by decide
    omega
  clear hX0 hX1 hX2 hq hB1 hB2 hfit HR0 HR1 hz hu
  show Calls Tryz.prog 51 #[.string form, .agg #[.int .i64 k, .string tx, .string un, .bool wh, .bool fl, .slice ka 0 kc]] w _
  cases ok with
  | false =>
    have HN : Hid (R = none) := by show _ = _; rw [HR.out]; simp [true_or]
    clear HR
    go_enter Tryz.func51, Tryz.ntmps51
    go_wp2_with (go_at_call 79; fail)
    refine hI.mono ?_
    rintro e w3 ⟨rfl, hb3⟩
    have hend := HFIN.out _ hb3
    obtain ⟨⟨c0, c2⟩, v0, v1, v2, v3, v4, v5⟩ := HXC.out w3 hb3
    clear hI HXC hb3
    go_wp2_with (go_at_call 80; fail)
    refine (HDG.out _).mono ?_
    rintro e w' ⟨rfl, rfl⟩
    clear HDG
    go_wp2
    go_ret2
    exact ⟨by rw [HN.out]; rfl, hend⟩
  | true =>
    cases hk : (k == 11) with
    | true =>
      have hk2 : (k != 11) = false := by simp only [bne, hk]; rfl
      cases hng : decide (n < 0) with
      | true =>
        have HN : Hid (R = some (its ++ ⟨#[37]⟩)) := by show _ = _; rw [HR.out]; simp [hk, hng]
        clear HR
        go_enter Tryz.func51, Tryz.ntmps51
        go_wp2_with (go_at_call 79; fail)
        refine hI.mono ?_
        rintro e w3 ⟨rfl, hb3⟩
        have hend := HFIN.out _ hb3
        obtain ⟨⟨c0, c2⟩, v0, v1, v2, v3, v4, v5⟩ := HXC.out w3 hb3
        clear hI HXC hb3
        go_wp2_with (go_at_call 80; fail)
        refine (HDG.out _).mono ?_
        rintro e w' ⟨rfl, rfl⟩
        clear HDG
        go_wp2
        go_ret2
        exact ⟨by rw [HN.out]; rfl, hend⟩
      | false =>
        have HN : Hid (R = some (its ++ ⟨#[37]⟩)) := by show _ = _; rw [HR.out]; simp [hk, hng]
        clear HR
        go_enter Tryz.func51, Tryz.ntmps51
        go_wp2_with (go_at_call 79; fail)
        refine hI.mono ?_
        rintro e w3 ⟨rfl, hb3⟩
        have hend := HFIN.out _ hb3
        obtain ⟨⟨c0, c2⟩, v0, v1, v2, v3, v4, v5⟩ := HXC.out w3 hb3
        clear hI HXC hb3
        go_wp2_with (go_at_call 80; fail)
        refine (HDG.out _).mono ?_
        rintro e w' ⟨rfl, rfl⟩
        clear HDG
        go_wp2
        go_ret2
        exact ⟨by rw [HN.out]; rfl, hend⟩
    | false =>
      have hk2 : (k != 11) = true := by simp only [bne, hk]; rfl
      have HN : Hid (R = none) := by show _ = _; rw [HR.out]; simp [hk]
      clear HR
      go_enter Tryz.func51, Tryz.ntmps51
      go_wp2_with (go_at_call 79; fail)
      refine hI.mono ?_
      rintro e w3 ⟨rfl, hb3⟩
      have hend := HFIN.out _ hb3
      obtain ⟨⟨c0, c2⟩, v0, v1, v2, v3, v4, v5⟩ := HXC.out w3 hb3
      clear hI HXC hb3
      go_wp2_with (go_at_call 80; fail)
      refine (HDG.out _).mono ?_
      rintro e w' ⟨rfl, rfl⟩
      clear HDG
      go_wp2
      go_ret2
      exact ⟨by rw [HN.out]; rfl, hend⟩
set_option maxHeartbeats 4000000 in
theorem rpart_pct_true (form : ByteArray) (b0 : (form.toList == [60, 108, 101, 110, 62]) = false) (b1 : (form.toList == [60, 108, 101, 110, 43, 62]) = false) (b2 : (form.toList == [60, 112, 99, 116, 62]) = false) (b3 : (form.toList == [60, 112, 99, 116, 43, 62]) = true) (t : T5) (ka : Option Addr) (kc : Nat) (hz : t.tx.size ≤ 100000) (hu : t.un.size ≤ 1000000) (w : World) :
    Calls Tryz.prog 51 #[.string form, vA t (.slice ka 0 kc)] w fun e w' => e = .returned (res (wholeO .pct true t)) ∧ Below w.heap.size w w' := by
  obtain ⟨k, tx, un, wh, fl⟩ := t
  have hB1 : Below w.heap.size w (w.alloc (.cells #[.int .i64 k, .string tx, .string un, .bool wh, .bool fl, .slice ka 0 kc] 57)) := (Below.refl _ w).alloc (Nat.le_refl _) _
  have hB2 : Below w.heap.size w ((w.alloc (.cells #[.int .i64 k, .string tx, .string un, .bool wh, .bool fl, .slice ka 0 kc] 57)).alloc (.cells #[.int .i64 k, .string tx, .string un, .bool wh, .bool fl] 55)) := hB1.alloc hB1.size _
  have hX0 := World.alloc_heap_new w (.cells #[.int .i64 k, .string tx, .string un, .bool wh, .bool fl, .slice ka 0 kc] 57)
  have hX1 : ((w.alloc (.cells #[.int .i64 k, .string tx, .string un, .bool wh, .bool fl, .slice ka 0 kc] 57)).alloc (.cells #[.int .i64 k, .string tx, .string un, .bool wh, .bool fl] 55)).heap[w.heap.size]? = _ := (((Below.refl _ (w.alloc (.cells #[.int .i64 k, .string tx, .string un, .bool wh, .bool fl, .slice ka 0 kc] 57))).alloc (Nat.le_refl _) (.cells #[.int .i64 k, .string tx, .string un, .bool wh, .bool fl] 55)).block _ (Array.getElem?_eq_some_iff.1 hX0).1).trans hX0
  have hX2 := World.alloc_heap_new (w.alloc (.cells #[.int .i64 k, .string tx, .string un, .bool wh, .bool fl, .slice ka 0 kc] 57)) (.cells #[.int .i64 k, .string tx, .string un, .bool wh, .bool fl] 55)
  have hq : (w.alloc (.cells #[.int .i64 k, .string tx, .string un, .bool wh, .bool fl, .slice ka 0 kc] 57)).heap.size = w.heap.size + 1 := by simp
  rw [hq] at hX2
  have hI : Calls Tryz.prog 79 #[.agg #[.int .i64 k, .string tx, .string un, .bool wh, .bool fl]] ((w.alloc (.cells #[.int .i64 k, .string tx, .string un, .bool wh, .bool fl, .slice ka 0 kc] 57)).alloc (.cells #[.int .i64 k, .string tx, .string un, .bool wh, .bool fl] 55)) _ := rint_any ⟨k, tx, un, wh, fl⟩ hz ((w.alloc (.cells #[.int .i64 k, .string tx, .string un, .bool wh, .bool fl, .slice ka 0 kc] 57)).alloc (.cells #[.int .i64 k, .string tx, .string un, .bool wh, .bool fl] 55))
  have HXC : Hid (∀ w', Below ((w.alloc (.cells #[.int .i64 k, .string tx, .string un, .bool wh, .bool fl, .slice ka 0 kc] 57)).alloc (.cells #[.int .i64 k, .string tx, .string un, .bool wh, .bool fl] 55)).heap.size ((w.alloc (.cells #[.int .i64 k, .string tx, .string un, .bool wh, .bool fl, .slice ka 0 kc] 57)).alloc (.cells #[.int .i64 k, .string tx, .string un, .bool wh, .bool fl] 55)) w' → (w'.cell? ⟨w.heap.size + 1, 0, none⟩ = some (.int .i64 k) ∧ w'.cell? ⟨w.heap.size + 1, 2, none⟩ = some (.string un)) ∧ w'.cell? ⟨w.heap.size, 0, none⟩ = some (.int .i64 k) ∧ w'.cell? ⟨w.heap.size, 1, none⟩ = some (.string tx) ∧ w'.cell? ⟨w.heap.size, 2, none⟩ = some (.string un) ∧ w'.cell? ⟨w.heap.size, 3, none⟩ = some (.bool wh) ∧ w'.cell? ⟨w.heap.size, 4, none⟩ = some (.bool fl) ∧ w'.cell? ⟨w.heap.size, 5, none⟩ = some (.slice ka 0 kc)) := fun w' hb => by
    have g1 := (hb.block _ (Array.getElem?_eq_some_iff.1 hX1).1).trans hX1
    have g2 := (hb.block _ (Array.getElem?_eq_some_iff.1 hX2).1).trans hX2
    exact ⟨⟨L.cellAt g2 0, L.cellAt g2 2⟩, L.cellAt g1 0, L.cellAt g1 1, L.cellAt g1 2, L.cellAt g1 3, L.cellAt g1 4, L.cellAt g1 5⟩
  have HFIN : Hid (∀ w', Below ((w.alloc (.cells #[.int .i64 k, .string tx, .string un, .bool wh, .bool fl, .slice ka 0 kc] 57)).alloc (.cells #[.int .i64 k, .string tx, .string un, .bool wh, .bool fl] 55)).heap.size ((w.alloc (.cells #[.int .i64 k, .string tx, .string un, .bool wh, .bool fl, .slice ka 0 kc] 57)).alloc (.cells #[.int .i64 k, .string tx, .string un, .bool wh, .bool fl] 55)) w' → Below w.heap.size w w') := fun w' hb => hB2.trans (hb.mono hB2.size)
  have hbd := intP_bd ⟨k, tx, un, wh, fl⟩
  have hit := W.it_size (intP ⟨k, tx, un, wh, fl⟩).1
  have HDG : Hid (∀ w, Calls Tryz.prog 80 #[.int .i64 (intP ⟨k, tx, un, wh, fl⟩).1] w fun e w' => e = .returned (.string (W.itS (intP ⟨k, tx, un, wh, fl⟩).1)) ∧ w' = w) := fun w => rdig_any _ (by omega) (by omega) w
  have HFU : Hid (∀ w', Calls Tryz.prog 78 #[.string un] w' fun e w'' => e = .returned (.string (foldS un)) ∧ Below w'.heap.size w' w'') := fun w' => refFold_any un w' (Nat.le_trans hu (by decide))
  have HKP : Hid (∀ w3 w4, Below w.heap.size w w3 → w3.cell? ⟨w.heap.size + 1, 0, none⟩ = some (.int .i64 k) → Below w3.heap.size w3 w4 → Below w.heap.size w w4 ∧ w4.cell? ⟨w.heap.size + 1, 0, none⟩ = some (.int .i64 k)) := fun w3 w4 h1 h2 h3 => ⟨h1.trans (h3.mono h1.size), (h3.cell (p := ⟨w.heap.size + 1, 0, none⟩) (P.lt_of_cell h2)).trans h2⟩
  have HR0 : wholeO .pct true ⟨k, tx, un, wh, fl⟩ = if (intP ⟨k, tx, un, wh, fl⟩).2 = false ∨ Fits.ok .pct ⟨k, tx, un, wh, fl⟩ (intP ⟨k, tx, un, wh, fl⟩).1 = false ∨ (true = true ∧ (intP ⟨k, tx, un, wh, fl⟩).1 < 0) then none else some (W.itS (intP ⟨k, tx, un, wh, fl⟩).1 ++ pcS) := rfl
  generalize wholeO .pct true ⟨k, tx, un, wh, fl⟩ = R at *
  have hfit : ∀ n, Fits.ok .pct ⟨k, tx, un, wh, fl⟩ n = (k == 11) := fun n => rfl
  rw [hfit] at HR0
  generalize intP ⟨k, tx, un, wh, fl⟩ = np at *
  obtain ⟨n, ok⟩ := np
  simp only at hI HDG hbd hit HR0
  generalize W.itS n = its at *
  generalize foldS un = f at *
  have HR1 : R = if ok = false ∨ (k == 11) = false ∨ (true = true ∧ decide (n < 0) = true) then none else some (its ++ ⟨#[37]⟩) := by
    rw [HR0]; simp only [decide_eq_true_eq]; rfl
  have HR := hid_mk HR1
  obtain ⟨hn0, hn1⟩ := hbd
  have hsum : ¬ (9223372036854775807 < its.size + (⟨#[37]⟩ : ByteArray).size) := by
    have : (⟨#[37]⟩ : ByteArray).size ≤ 2 := by decide
    omega
  clear hX0 hX1 hX2 hq hB1 hB2 hfit HR0 HR1 hz hu
  show Calls Tryz.prog 51 #[.string form, .agg #[.int .i64 k, .string tx, .string un, .bool wh, .bool fl, .slice ka 0 kc]] w _
  cases ok with
  | false =>
    have HN : Hid (R = none) := by show _ = _; rw [HR.out]; simp [true_or]
    clear HR
    go_enter Tryz.func51, Tryz.ntmps51
    go_wp2_with (go_at_call 79; fail)
    refine hI.mono ?_
    rintro e w3 ⟨rfl, hb3⟩
    have hend := HFIN.out _ hb3
    obtain ⟨⟨c0, c2⟩, v0, v1, v2, v3, v4, v5⟩ := HXC.out w3 hb3
    clear hI HXC hb3
    go_wp2_with (go_at_call 80; fail)
    refine (HDG.out _).mono ?_
    rintro e w' ⟨rfl, rfl⟩
    clear HDG
    go_wp2
    go_ret2
    exact ⟨by rw [HN.out]; rfl, hend⟩
  | true =>
    cases hk : (k == 11) with
    | true =>
      have hk2 : (k != 11) = false := by simp only [bne, hk]; rfl
      cases hng : decide (n < 0) with
      | true =>
        have HN : Hid (R = none) := by show _ = _; rw [HR.out]; simp [hk, hng]
        clear HR
        go_enter Tryz.func51, Tryz.ntmps51
        go_wp2_with (go_at_call 79; fail)
        refine hI.mono ?_
        rintro e w3 ⟨rfl, hb3⟩
        have hend := HFIN.out _ hb3
        obtain ⟨⟨c0, c2⟩, v0, v1, v2, v3, v4, v5⟩ := HXC.out w3 hb3
        clear hI HXC hb3
        go_wp2_with (go_at_call 80; fail)
        refine (HDG.out _).mono ?_
        rintro e w' ⟨rfl, rfl⟩
        clear HDG
        go_wp2
        go_ret2
        exact ⟨by rw [HN.out]; rfl, hend⟩
      | false =>
        have HN : Hid (R = some (its ++ ⟨#[37]⟩)) := by show _ = _; rw [HR.out]; simp [hk, hng]
        clear HR
        go_enter Tryz.func51, Tryz.ntmps51
        go_wp2_with (go_at_call 79; fail)
        refine hI.mono ?_
        rintro e w3 ⟨rfl, hb3⟩
        have hend := HFIN.out _ hb3
        obtain ⟨⟨c0, c2⟩, v0, v1, v2, v3, v4, v5⟩ := HXC.out w3 hb3
        clear hI HXC hb3
        go_wp2_with (go_at_call 80; fail)
        refine (HDG.out _).mono ?_
        rintro e w' ⟨rfl, rfl⟩
        clear HDG
        go_wp2
        go_ret2
        exact ⟨by rw [HN.out]; rfl, hend⟩
    | false =>
      have hk2 : (k != 11) = true := by simp only [bne, hk]; rfl
      have HN : Hid (R = none) := by show _ = _; rw [HR.out]; simp [hk]
      clear HR
      go_enter Tryz.func51, Tryz.ntmps51
      go_wp2_with (go_at_call 79; fail)
      refine hI.mono ?_
      rintro e w3 ⟨rfl, hb3⟩
      have hend := HFIN.out _ hb3
      obtain ⟨⟨c0, c2⟩, v0, v1, v2, v3, v4, v5⟩ := HXC.out w3 hb3
      clear hI HXC hb3
      go_wp2_with (go_at_call 80; fail)
      refine (HDG.out _).mono ?_
      rintro e w' ⟨rfl, rfl⟩
      clear HDG
      go_wp2
      go_ret2
      exact ⟨by rw [HN.out]; rfl, hend⟩
set_option maxHeartbeats 4000000 in
theorem rpart_int_false (form : ByteArray) (b0 : (form.toList == [60, 108, 101, 110, 62]) = false) (b1 : (form.toList == [60, 108, 101, 110, 43, 62]) = false) (b2 : (form.toList == [60, 112, 99, 116, 62]) = false) (b3 : (form.toList == [60, 112, 99, 116, 43, 62]) = false) (b4 : (form.toList == [60, 105, 110, 116, 62]) = true) (bx : (form.toList == [60, 105, 110, 116, 43, 62]) = false) (t : T5) (ka : Option Addr) (kc : Nat) (hz : t.tx.size ≤ 100000) (hu : t.un.size ≤ 1000000) (w : World) :
    Calls Tryz.prog 51 #[.string form, vA t (.slice ka 0 kc)] w fun e w' => e = .returned (res (wholeO .int false t)) ∧ Below w.heap.size w w' := by
  obtain ⟨k, tx, un, wh, fl⟩ := t
  have hB1 : Below w.heap.size w (w.alloc (.cells #[.int .i64 k, .string tx, .string un, .bool wh, .bool fl, .slice ka 0 kc] 57)) := (Below.refl _ w).alloc (Nat.le_refl _) _
  have hB2 : Below w.heap.size w ((w.alloc (.cells #[.int .i64 k, .string tx, .string un, .bool wh, .bool fl, .slice ka 0 kc] 57)).alloc (.cells #[.int .i64 k, .string tx, .string un, .bool wh, .bool fl] 55)) := hB1.alloc hB1.size _
  have hX0 := World.alloc_heap_new w (.cells #[.int .i64 k, .string tx, .string un, .bool wh, .bool fl, .slice ka 0 kc] 57)
  have hX1 : ((w.alloc (.cells #[.int .i64 k, .string tx, .string un, .bool wh, .bool fl, .slice ka 0 kc] 57)).alloc (.cells #[.int .i64 k, .string tx, .string un, .bool wh, .bool fl] 55)).heap[w.heap.size]? = _ := (((Below.refl _ (w.alloc (.cells #[.int .i64 k, .string tx, .string un, .bool wh, .bool fl, .slice ka 0 kc] 57))).alloc (Nat.le_refl _) (.cells #[.int .i64 k, .string tx, .string un, .bool wh, .bool fl] 55)).block _ (Array.getElem?_eq_some_iff.1 hX0).1).trans hX0
  have hX2 := World.alloc_heap_new (w.alloc (.cells #[.int .i64 k, .string tx, .string un, .bool wh, .bool fl, .slice ka 0 kc] 57)) (.cells #[.int .i64 k, .string tx, .string un, .bool wh, .bool fl] 55)
  have hq : (w.alloc (.cells #[.int .i64 k, .string tx, .string un, .bool wh, .bool fl, .slice ka 0 kc] 57)).heap.size = w.heap.size + 1 := by simp
  rw [hq] at hX2
  have hI : Calls Tryz.prog 79 #[.agg #[.int .i64 k, .string tx, .string un, .bool wh, .bool fl]] ((w.alloc (.cells #[.int .i64 k, .string tx, .string un, .bool wh, .bool fl, .slice ka 0 kc] 57)).alloc (.cells #[.int .i64 k, .string tx, .string un, .bool wh, .bool fl] 55)) _ := rint_any ⟨k, tx, un, wh, fl⟩ hz ((w.alloc (.cells #[.int .i64 k, .string tx, .string un, .bool wh, .bool fl, .slice ka 0 kc] 57)).alloc (.cells #[.int .i64 k, .string tx, .string un, .bool wh, .bool fl] 55))
  have HXC : Hid (∀ w', Below ((w.alloc (.cells #[.int .i64 k, .string tx, .string un, .bool wh, .bool fl, .slice ka 0 kc] 57)).alloc (.cells #[.int .i64 k, .string tx, .string un, .bool wh, .bool fl] 55)).heap.size ((w.alloc (.cells #[.int .i64 k, .string tx, .string un, .bool wh, .bool fl, .slice ka 0 kc] 57)).alloc (.cells #[.int .i64 k, .string tx, .string un, .bool wh, .bool fl] 55)) w' → (w'.cell? ⟨w.heap.size + 1, 0, none⟩ = some (.int .i64 k) ∧ w'.cell? ⟨w.heap.size + 1, 2, none⟩ = some (.string un)) ∧ w'.cell? ⟨w.heap.size, 0, none⟩ = some (.int .i64 k) ∧ w'.cell? ⟨w.heap.size, 1, none⟩ = some (.string tx) ∧ w'.cell? ⟨w.heap.size, 2, none⟩ = some (.string un) ∧ w'.cell? ⟨w.heap.size, 3, none⟩ = some (.bool wh) ∧ w'.cell? ⟨w.heap.size, 4, none⟩ = some (.bool fl) ∧ w'.cell? ⟨w.heap.size, 5, none⟩ = some (.slice ka 0 kc)) := fun w' hb => by
    have g1 := (hb.block _ (Array.getElem?_eq_some_iff.1 hX1).1).trans hX1
    have g2 := (hb.block _ (Array.getElem?_eq_some_iff.1 hX2).1).trans hX2
    exact ⟨⟨L.cellAt g2 0, L.cellAt g2 2⟩, L.cellAt g1 0, L.cellAt g1 1, L.cellAt g1 2, L.cellAt g1 3, L.cellAt g1 4, L.cellAt g1 5⟩
  have HFIN : Hid (∀ w', Below ((w.alloc (.cells #[.int .i64 k, .string tx, .string un, .bool wh, .bool fl, .slice ka 0 kc] 57)).alloc (.cells #[.int .i64 k, .string tx, .string un, .bool wh, .bool fl] 55)).heap.size ((w.alloc (.cells #[.int .i64 k, .string tx, .string un, .bool wh, .bool fl, .slice ka 0 kc] 57)).alloc (.cells #[.int .i64 k, .string tx, .string un, .bool wh, .bool fl] 55)) w' → Below w.heap.size w w') := fun w' hb => hB2.trans (hb.mono hB2.size)
  have hbd := intP_bd ⟨k, tx, un, wh, fl⟩
  have hit := W.it_size (intP ⟨k, tx, un, wh, fl⟩).1
  have HDG : Hid (∀ w, Calls Tryz.prog 80 #[.int .i64 (intP ⟨k, tx, un, wh, fl⟩).1] w fun e w' => e = .returned (.string (W.itS (intP ⟨k, tx, un, wh, fl⟩).1)) ∧ w' = w) := fun w => rdig_any _ (by omega) (by omega) w
  have HFU : Hid (∀ w', Calls Tryz.prog 78 #[.string un] w' fun e w'' => e = .returned (.string (foldS un)) ∧ Below w'.heap.size w' w'') := fun w' => refFold_any un w' (Nat.le_trans hu (by decide))
  have HKP : Hid (∀ w3 w4, Below w.heap.size w w3 → w3.cell? ⟨w.heap.size + 1, 0, none⟩ = some (.int .i64 k) → Below w3.heap.size w3 w4 → Below w.heap.size w w4 ∧ w4.cell? ⟨w.heap.size + 1, 0, none⟩ = some (.int .i64 k)) := fun w3 w4 h1 h2 h3 => ⟨h1.trans (h3.mono h1.size), (h3.cell (p := ⟨w.heap.size + 1, 0, none⟩) (P.lt_of_cell h2)).trans h2⟩
  have HR0 : wholeO .int false ⟨k, tx, un, wh, fl⟩ = if (intP ⟨k, tx, un, wh, fl⟩).2 = false ∨ Fits.ok .int ⟨k, tx, un, wh, fl⟩ (intP ⟨k, tx, un, wh, fl⟩).1 = false ∨ (false = true ∧ (intP ⟨k, tx, un, wh, fl⟩).1 < 0) then none else some (W.itS (intP ⟨k, tx, un, wh, fl⟩).1 ++ noS) := rfl
  generalize wholeO .int false ⟨k, tx, un, wh, fl⟩ = R at *
  have hfit : ∀ n, Fits.ok .int ⟨k, tx, un, wh, fl⟩ n = (k == 10) := fun n => rfl
  rw [hfit] at HR0
  generalize intP ⟨k, tx, un, wh, fl⟩ = np at *
  obtain ⟨n, ok⟩ := np
  simp only at hI HDG hbd hit HR0
  generalize W.itS n = its at *
  generalize foldS un = f at *
  have HR1 : R = if ok = false ∨ (k == 10) = false ∨ (false = true ∧ decide (n < 0) = true) then none else some (its ++ ⟨#[]⟩) := by
    rw [HR0]; simp only [decide_eq_true_eq]; rfl
  have HR := hid_mk HR1
  obtain ⟨hn0, hn1⟩ := hbd
  have hsum : ¬ (9223372036854775807 < its.size + (⟨#[]⟩ : ByteArray).size) := by
    have : (⟨#[]⟩ : ByteArray).size ≤ 2 := by decide
    omega
  have hem : its ++ (⟨#[]⟩ : ByteArray) = its := by apply ByteArray.ext; simp [ByteArray.data_append]
  clear hX0 hX1 hX2 hq hB1 hB2 hfit HR0 HR1 hz hu
  show Calls Tryz.prog 51 #[.string form, .agg #[.int .i64 k, .string tx, .string un, .bool wh, .bool fl, .slice ka 0 kc]] w _
  cases ok with
  | false =>
    have HN : Hid (R = none) := by show _ = _; rw [HR.out]; simp [true_or]
    clear HR
    go_enter Tryz.func51, Tryz.ntmps51
    go_wp2_with (go_at_call 79; fail)
    refine hI.mono ?_
    rintro e w3 ⟨rfl, hb3⟩
    have hend := HFIN.out _ hb3
    obtain ⟨⟨c0, c2⟩, v0, v1, v2, v3, v4, v5⟩ := HXC.out w3 hb3
    clear hI HXC hb3
    go_wp2_with (go_at_call 80; fail)
    refine (HDG.out _).mono ?_
    rintro e w' ⟨rfl, rfl⟩
    clear HDG
    go_wp2
    go_ret2
    exact ⟨by rw [HN.out]; rfl, hend⟩
  | true =>
    cases hk : (k == 10) with
    | true =>
      have hk2 : (k != 10) = false := by simp only [bne, hk]; rfl
      cases hng : decide (n < 0) with
      | true =>
        have HN : Hid (R = some its) := by show _ = _; rw [HR.out, hem]; simp [hk, hng]
        clear HR
        go_enter Tryz.func51, Tryz.ntmps51
        go_wp2_with (go_at_call 79; fail)
        refine hI.mono ?_
        rintro e w3 ⟨rfl, hb3⟩
        have hend := HFIN.out _ hb3
        obtain ⟨⟨c0, c2⟩, v0, v1, v2, v3, v4, v5⟩ := HXC.out w3 hb3
        clear hI HXC hb3
        go_wp2_with (go_at_call 80; fail)
        refine (HDG.out _).mono ?_
        rintro e w' ⟨rfl, rfl⟩
        clear HDG
        go_wp2
        go_ret2
        exact ⟨by rw [HN.out]; rfl, hend⟩
      | false =>
        have HN : Hid (R = some its) := by show _ = _; rw [HR.out, hem]; simp [hk, hng]
        clear HR
        go_enter Tryz.func51, Tryz.ntmps51
        go_wp2_with (go_at_call 79; fail)
        refine hI.mono ?_
        rintro e w3 ⟨rfl, hb3⟩
        have hend := HFIN.out _ hb3
        obtain ⟨⟨c0, c2⟩, v0, v1, v2, v3, v4, v5⟩ := HXC.out w3 hb3
        clear hI HXC hb3
        go_wp2_with (go_at_call 80; fail)
        refine (HDG.out _).mono ?_
        rintro e w' ⟨rfl, rfl⟩
        clear HDG
        go_wp2
        go_ret2
        exact ⟨by rw [HN.out]; rfl, hend⟩
    | false =>
      have hk2 : (k != 10) = true := by simp only [bne, hk]; rfl
      have HN : Hid (R = none) := by show _ = _; rw [HR.out]; simp [hk]
      clear HR
      go_enter Tryz.func51, Tryz.ntmps51
      go_wp2_with (go_at_call 79; fail)
      refine hI.mono ?_
      rintro e w3 ⟨rfl, hb3⟩
      have hend := HFIN.out _ hb3
      obtain ⟨⟨c0, c2⟩, v0, v1, v2, v3, v4, v5⟩ := HXC.out w3 hb3
      clear hI HXC hb3
      go_wp2_with (go_at_call 80; fail)
      refine (HDG.out _).mono ?_
      rintro e w' ⟨rfl, rfl⟩
      clear HDG
      go_wp2
      go_ret2
      exact ⟨by rw [HN.out]; rfl, hend⟩
set_option maxHeartbeats 4000000 in
theorem rpart_int_true (form : ByteArray) (b0 : (form.toList == [60, 108, 101, 110, 62]) = false) (b1 : (form.toList == [60, 108, 101, 110, 43, 62]) = false) (b2 : (form.toList == [60, 112, 99, 116, 62]) = false) (b3 : (form.toList == [60, 112, 99, 116, 43, 62]) = false) (b4 : (form.toList == [60, 105, 110, 116, 62]) = false) (b5 : (form.toList == [60, 105, 110, 116, 43, 62]) = true) (t : T5) (ka : Option Addr) (kc : Nat) (hz : t.tx.size ≤ 100000) (hu : t.un.size ≤ 1000000) (w : World) :
    Calls Tryz.prog 51 #[.string form, vA t (.slice ka 0 kc)] w fun e w' => e = .returned (res (wholeO .int true t)) ∧ Below w.heap.size w w' := by
  obtain ⟨k, tx, un, wh, fl⟩ := t
  have hB1 : Below w.heap.size w (w.alloc (.cells #[.int .i64 k, .string tx, .string un, .bool wh, .bool fl, .slice ka 0 kc] 57)) := (Below.refl _ w).alloc (Nat.le_refl _) _
  have hB2 : Below w.heap.size w ((w.alloc (.cells #[.int .i64 k, .string tx, .string un, .bool wh, .bool fl, .slice ka 0 kc] 57)).alloc (.cells #[.int .i64 k, .string tx, .string un, .bool wh, .bool fl] 55)) := hB1.alloc hB1.size _
  have hX0 := World.alloc_heap_new w (.cells #[.int .i64 k, .string tx, .string un, .bool wh, .bool fl, .slice ka 0 kc] 57)
  have hX1 : ((w.alloc (.cells #[.int .i64 k, .string tx, .string un, .bool wh, .bool fl, .slice ka 0 kc] 57)).alloc (.cells #[.int .i64 k, .string tx, .string un, .bool wh, .bool fl] 55)).heap[w.heap.size]? = _ := (((Below.refl _ (w.alloc (.cells #[.int .i64 k, .string tx, .string un, .bool wh, .bool fl, .slice ka 0 kc] 57))).alloc (Nat.le_refl _) (.cells #[.int .i64 k, .string tx, .string un, .bool wh, .bool fl] 55)).block _ (Array.getElem?_eq_some_iff.1 hX0).1).trans hX0
  have hX2 := World.alloc_heap_new (w.alloc (.cells #[.int .i64 k, .string tx, .string un, .bool wh, .bool fl, .slice ka 0 kc] 57)) (.cells #[.int .i64 k, .string tx, .string un, .bool wh, .bool fl] 55)
  have hq : (w.alloc (.cells #[.int .i64 k, .string tx, .string un, .bool wh, .bool fl, .slice ka 0 kc] 57)).heap.size = w.heap.size + 1 := by simp
  rw [hq] at hX2
  have hI : Calls Tryz.prog 79 #[.agg #[.int .i64 k, .string tx, .string un, .bool wh, .bool fl]] ((w.alloc (.cells #[.int .i64 k, .string tx, .string un, .bool wh, .bool fl, .slice ka 0 kc] 57)).alloc (.cells #[.int .i64 k, .string tx, .string un, .bool wh, .bool fl] 55)) _ := rint_any ⟨k, tx, un, wh, fl⟩ hz ((w.alloc (.cells #[.int .i64 k, .string tx, .string un, .bool wh, .bool fl, .slice ka 0 kc] 57)).alloc (.cells #[.int .i64 k, .string tx, .string un, .bool wh, .bool fl] 55))
  have HXC : Hid (∀ w', Below ((w.alloc (.cells #[.int .i64 k, .string tx, .string un, .bool wh, .bool fl, .slice ka 0 kc] 57)).alloc (.cells #[.int .i64 k, .string tx, .string un, .bool wh, .bool fl] 55)).heap.size ((w.alloc (.cells #[.int .i64 k, .string tx, .string un, .bool wh, .bool fl, .slice ka 0 kc] 57)).alloc (.cells #[.int .i64 k, .string tx, .string un, .bool wh, .bool fl] 55)) w' → (w'.cell? ⟨w.heap.size + 1, 0, none⟩ = some (.int .i64 k) ∧ w'.cell? ⟨w.heap.size + 1, 2, none⟩ = some (.string un)) ∧ w'.cell? ⟨w.heap.size, 0, none⟩ = some (.int .i64 k) ∧ w'.cell? ⟨w.heap.size, 1, none⟩ = some (.string tx) ∧ w'.cell? ⟨w.heap.size, 2, none⟩ = some (.string un) ∧ w'.cell? ⟨w.heap.size, 3, none⟩ = some (.bool wh) ∧ w'.cell? ⟨w.heap.size, 4, none⟩ = some (.bool fl) ∧ w'.cell? ⟨w.heap.size, 5, none⟩ = some (.slice ka 0 kc)) := fun w' hb => by
    have g1 := (hb.block _ (Array.getElem?_eq_some_iff.1 hX1).1).trans hX1
    have g2 := (hb.block _ (Array.getElem?_eq_some_iff.1 hX2).1).trans hX2
    exact ⟨⟨L.cellAt g2 0, L.cellAt g2 2⟩, L.cellAt g1 0, L.cellAt g1 1, L.cellAt g1 2, L.cellAt g1 3, L.cellAt g1 4, L.cellAt g1 5⟩
  have HFIN : Hid (∀ w', Below ((w.alloc (.cells #[.int .i64 k, .string tx, .string un, .bool wh, .bool fl, .slice ka 0 kc] 57)).alloc (.cells #[.int .i64 k, .string tx, .string un, .bool wh, .bool fl] 55)).heap.size ((w.alloc (.cells #[.int .i64 k, .string tx, .string un, .bool wh, .bool fl, .slice ka 0 kc] 57)).alloc (.cells #[.int .i64 k, .string tx, .string un, .bool wh, .bool fl] 55)) w' → Below w.heap.size w w') := fun w' hb => hB2.trans (hb.mono hB2.size)
  have hbd := intP_bd ⟨k, tx, un, wh, fl⟩
  have hit := W.it_size (intP ⟨k, tx, un, wh, fl⟩).1
  have HDG : Hid (∀ w, Calls Tryz.prog 80 #[.int .i64 (intP ⟨k, tx, un, wh, fl⟩).1] w fun e w' => e = .returned (.string (W.itS (intP ⟨k, tx, un, wh, fl⟩).1)) ∧ w' = w) := fun w => rdig_any _ (by omega) (by omega) w
  have HFU : Hid (∀ w', Calls Tryz.prog 78 #[.string un] w' fun e w'' => e = .returned (.string (foldS un)) ∧ Below w'.heap.size w' w'') := fun w' => refFold_any un w' (Nat.le_trans hu (by decide))
  have HKP : Hid (∀ w3 w4, Below w.heap.size w w3 → w3.cell? ⟨w.heap.size + 1, 0, none⟩ = some (.int .i64 k) → Below w3.heap.size w3 w4 → Below w.heap.size w w4 ∧ w4.cell? ⟨w.heap.size + 1, 0, none⟩ = some (.int .i64 k)) := fun w3 w4 h1 h2 h3 => ⟨h1.trans (h3.mono h1.size), (h3.cell (p := ⟨w.heap.size + 1, 0, none⟩) (P.lt_of_cell h2)).trans h2⟩
  have HR0 : wholeO .int true ⟨k, tx, un, wh, fl⟩ = if (intP ⟨k, tx, un, wh, fl⟩).2 = false ∨ Fits.ok .int ⟨k, tx, un, wh, fl⟩ (intP ⟨k, tx, un, wh, fl⟩).1 = false ∨ (true = true ∧ (intP ⟨k, tx, un, wh, fl⟩).1 < 0) then none else some (W.itS (intP ⟨k, tx, un, wh, fl⟩).1 ++ noS) := rfl
  generalize wholeO .int true ⟨k, tx, un, wh, fl⟩ = R at *
  have hfit : ∀ n, Fits.ok .int ⟨k, tx, un, wh, fl⟩ n = (k == 10) := fun n => rfl
  rw [hfit] at HR0
  generalize intP ⟨k, tx, un, wh, fl⟩ = np at *
  obtain ⟨n, ok⟩ := np
  simp only at hI HDG hbd hit HR0
  generalize W.itS n = its at *
  generalize foldS un = f at *
  have HR1 : R = if ok = false ∨ (k == 10) = false ∨ (true = true ∧ decide (n < 0) = true) then none else some (its ++ ⟨#[]⟩) := by
    rw [HR0]; simp only [decide_eq_true_eq]; rfl
  have HR := hid_mk HR1
  obtain ⟨hn0, hn1⟩ := hbd
  have hsum : ¬ (9223372036854775807 < its.size + (⟨#[]⟩ : ByteArray).size) := by
    have : (⟨#[]⟩ : ByteArray).size ≤ 2 := by decide
    omega
  have hem : its ++ (⟨#[]⟩ : ByteArray) = its := by apply ByteArray.ext; simp [ByteArray.data_append]
  clear hX0 hX1 hX2 hq hB1 hB2 hfit HR0 HR1 hz hu
  show Calls Tryz.prog 51 #[.string form, .agg #[.int .i64 k, .string tx, .string un, .bool wh, .bool fl, .slice ka 0 kc]] w _
  cases ok with
  | false =>
    have HN : Hid (R = none) := by show _ = _; rw [HR.out]; simp [true_or]
    clear HR
    go_enter Tryz.func51, Tryz.ntmps51
    go_wp2_with (go_at_call 79; fail)
    refine hI.mono ?_
    rintro e w3 ⟨rfl, hb3⟩
    have hend := HFIN.out _ hb3
    obtain ⟨⟨c0, c2⟩, v0, v1, v2, v3, v4, v5⟩ := HXC.out w3 hb3
    clear hI HXC hb3
    go_wp2_with (go_at_call 80; fail)
    refine (HDG.out _).mono ?_
    rintro e w' ⟨rfl, rfl⟩
    clear HDG
    go_wp2
    go_ret2
    exact ⟨by rw [HN.out]; rfl, hend⟩
  | true =>
    cases hk : (k == 10) with
    | true =>
      have hk2 : (k != 10) = false := by simp only [bne, hk]; rfl
      cases hng : decide (n < 0) with
      | true =>
        have HN : Hid (R = none) := by show _ = _; rw [HR.out]; simp [hk, hng]
        clear HR
        go_enter Tryz.func51, Tryz.ntmps51
        go_wp2_with (go_at_call 79; fail)
        refine hI.mono ?_
        rintro e w3 ⟨rfl, hb3⟩
        have hend := HFIN.out _ hb3
        obtain ⟨⟨c0, c2⟩, v0, v1, v2, v3, v4, v5⟩ := HXC.out w3 hb3
        clear hI HXC hb3
        go_wp2_with (go_at_call 80; fail)
        refine (HDG.out _).mono ?_
        rintro e w' ⟨rfl, rfl⟩
        clear HDG
        go_wp2
        go_ret2
        exact ⟨by rw [HN.out]; rfl, hend⟩
      | false =>
        have HN : Hid (R = some its) := by show _ = _; rw [HR.out, hem]; simp [hk, hng]
        clear HR
        go_enter Tryz.func51, Tryz.ntmps51
        go_wp2_with (go_at_call 79; fail)
        refine hI.mono ?_
        rintro e w3 ⟨rfl, hb3⟩
        have hend := HFIN.out _ hb3
        obtain ⟨⟨c0, c2⟩, v0, v1, v2, v3, v4, v5⟩ := HXC.out w3 hb3
        clear hI HXC hb3
        go_wp2_with (go_at_call 80; fail)
        refine (HDG.out _).mono ?_
        rintro e w' ⟨rfl, rfl⟩
        clear HDG
        go_wp2
        go_ret2
        exact ⟨by rw [HN.out]; rfl, hend⟩
    | false =>
      have hk2 : (k != 10) = true := by simp only [bne, hk]; rfl
      have HN : Hid (R = none) := by show _ = _; rw [HR.out]; simp [hk]
      clear HR
      go_enter Tryz.func51, Tryz.ntmps51
      go_wp2_with (go_at_call 79; fail)
      refine hI.mono ?_
      rintro e w3 ⟨rfl, hb3⟩
      have hend := HFIN.out _ hb3
      obtain ⟨⟨c0, c2⟩, v0, v1, v2, v3, v4, v5⟩ := HXC.out w3 hb3
      clear hI HXC hb3
      go_wp2_with (go_at_call 80; fail)
      refine (HDG.out _).mono ?_
      rintro e w' ⟨rfl, rfl⟩
      clear HDG
      go_wp2
      go_ret2
      exact ⟨by rw [HN.out]; rfl, hend⟩
end Go.Proofs.YtlhdapckenjigaaGreatDoor.Z
namespace Go.Proofs.YtlhdapckenjigaaGreatDoor.Z
open Go.RowKit
open Go.Proofs.YtlhdapckenjigaaGreatDoor.L (T5 V VsAt t5Cells vCells cell_of_heap hid_mk)
set_option maxRecDepth 100000

theorem val_one {P : Nat → Prop} {W : World} {v : Value} {x : V} (h : VsAt P W v [x]) : ∃ cap b off ka kc, v = .slice (some ⟨b, off, none⟩) 1 cap ∧ 1 ≤ cap ∧ cap ≤ 9223372036854775807 ∧ (W.cell? ⟨b, off, none⟩ = some (.int .i64 x.tok.k) ∧ W.cell? ⟨b, off + 1, none⟩ = some (.string x.tok.tx) ∧ W.cell? ⟨b, off + 2, none⟩ = some (.string x.tok.un)) ∧ (W.cell? ⟨b, off + 3, none⟩ = some (.bool x.tok.wh) ∧ W.cell? ⟨b, off + 4, none⟩ = some (.bool x.tok.fl) ∧ W.cell? ⟨b, off + 5, none⟩ = some (.slice ka x.kids.length kc)) := by
  obtain ⟨a, cap, rfl, h1, h2, b, off, hx⟩ := vs_cells h
  obtain ⟨rfl, _, ka, kc, _, hc⟩ := hx 0 (by simp)
  obtain ⟨⟨q0, q1, q2⟩, q3, q4, q5⟩ := hc W (Below.refl _ _)
  simp only [Nat.zero_mul, Nat.add_zero] at q0 q1 q2 q3 q4 q5
  exact ⟨cap, b, off, ka, kc, rfl, by simpa using h1, h2, ⟨q0, q1, q2⟩, q3, q4, q5⟩
end Go.Proofs.YtlhdapckenjigaaGreatDoor.Z
namespace Go.Proofs.YtlhdapckenjigaaGreatDoor.Z
open Go.RowKit
open Go.Proofs.YtlhdapckenjigaaGreatDoor.L (T5 V VsAt t5Cells vCells cell_of_heap hid_mk)
set_option maxRecDepth 100000

set_option maxHeartbeats 4000000 in
theorem rpart_col (form : ByteArray) (b0 : (form.toList == [60, 108, 101, 110, 62]) = false) (b1 : (form.toList == [60, 108, 101, 110, 43, 62]) = false) (b2 : (form.toList == [60, 112, 99, 116, 62]) = false) (b3 : (form.toList == [60, 112, 99, 116, 43, 62]) = false) (b4 : (form.toList == [60, 105, 110, 116, 62]) = false) (b5 : (form.toList == [60, 105, 110, 116, 43, 62]) = false) (b6 : (form.toList == [60, 99, 111, 108, 111, 114, 62]) = true) (t : T5) (ka : Option Addr) (kc : Nat) (hz : t.tx.size ≤ 100000) (w : World) :
    Calls Tryz.prog 51 #[.string form, vA t (.slice ka 0 kc)] w fun e w' => e = .returned (res (colorO t)) ∧ Below w.heap.size w w' := by
  obtain ⟨k, tx, un, wh, fl⟩ := t
  have hB1 : Below w.heap.size w (w.alloc (.cells #[.int .i64 k, .string tx, .string un, .bool wh, .bool fl, .slice ka 0 kc] 57)) := (Below.refl _ w).alloc (Nat.le_refl _) _
  have hB2 : Below w.heap.size w ((w.alloc (.cells #[.int .i64 k, .string tx, .string un, .bool wh, .bool fl, .slice ka 0 kc] 57)).alloc (.cells #[.int .i64 k, .string tx, .string un, .bool wh, .bool fl] 55)) := hB1.alloc hB1.size _
  have hX0 := World.alloc_heap_new w (.cells #[.int .i64 k, .string tx, .string un, .bool wh, .bool fl, .slice ka 0 kc] 57)
  have hX1 : ((w.alloc (.cells #[.int .i64 k, .string tx, .string un, .bool wh, .bool fl, .slice ka 0 kc] 57)).alloc (.cells #[.int .i64 k, .string tx, .string un, .bool wh, .bool fl] 55)).heap[w.heap.size]? = _ := (((Below.refl _ (w.alloc (.cells #[.int .i64 k, .string tx, .string un, .bool wh, .bool fl, .slice ka 0 kc] 57))).alloc (Nat.le_refl _) (.cells #[.int .i64 k, .string tx, .string un, .bool wh, .bool fl] 55)).block _ (Array.getElem?_eq_some_iff.1 hX0).1).trans hX0
  have hX2 := World.alloc_heap_new (w.alloc (.cells #[.int .i64 k, .string tx, .string un, .bool wh, .bool fl, .slice ka 0 kc] 57)) (.cells #[.int .i64 k, .string tx, .string un, .bool wh, .bool fl] 55)
  have hq : (w.alloc (.cells #[.int .i64 k, .string tx, .string un, .bool wh, .bool fl, .slice ka 0 kc] 57)).heap.size = w.heap.size + 1 := by simp
  rw [hq] at hX2
  have hI : Calls Tryz.prog 79 #[.agg #[.int .i64 k, .string tx, .string un, .bool wh, .bool fl]] ((w.alloc (.cells #[.int .i64 k, .string tx, .string un, .bool wh, .bool fl, .slice ka 0 kc] 57)).alloc (.cells #[.int .i64 k, .string tx, .string un, .bool wh, .bool fl] 55)) _ := rint_any ⟨k, tx, un, wh, fl⟩ hz ((w.alloc (.cells #[.int .i64 k, .string tx, .string un, .bool wh, .bool fl, .slice ka 0 kc] 57)).alloc (.cells #[.int .i64 k, .string tx, .string un, .bool wh, .bool fl] 55))
  have HXC : Hid (∀ w', Below ((w.alloc (.cells #[.int .i64 k, .string tx, .string un, .bool wh, .bool fl, .slice ka 0 kc] 57)).alloc (.cells #[.int .i64 k, .string tx, .string un, .bool wh, .bool fl] 55)).heap.size ((w.alloc (.cells #[.int .i64 k, .string tx, .string un, .bool wh, .bool fl, .slice ka 0 kc] 57)).alloc (.cells #[.int .i64 k, .string tx, .string un, .bool wh, .bool fl] 55)) w' → w'.cell? ⟨w.heap.size + 1, 0, none⟩ = some (.int .i64 k) ∧ w'.cell? ⟨w.heap.size, 0, none⟩ = some (.int .i64 k) ∧ w'.cell? ⟨w.heap.size, 1, none⟩ = some (.string tx) ∧ w'.cell? ⟨w.heap.size, 2, none⟩ = some (.string un) ∧ w'.cell? ⟨w.heap.size, 3, none⟩ = some (.bool wh) ∧ w'.cell? ⟨w.heap.size, 4, none⟩ = some (.bool fl) ∧ w'.cell? ⟨w.heap.size, 5, none⟩ = some (.slice ka 0 kc)) := fun w' hb => by
    have g1 := (hb.block _ (Array.getElem?_eq_some_iff.1 hX1).1).trans hX1
    have g2 := (hb.block _ (Array.getElem?_eq_some_iff.1 hX2).1).trans hX2
    exact ⟨L.cellAt g2 0, L.cellAt g1 0, L.cellAt g1 1, L.cellAt g1 2, L.cellAt g1 3, L.cellAt g1 4, L.cellAt g1 5⟩
  have HFIN : Hid (∀ w', Below ((w.alloc (.cells #[.int .i64 k, .string tx, .string un, .bool wh, .bool fl, .slice ka 0 kc] 57)).alloc (.cells #[.int .i64 k, .string tx, .string un, .bool wh, .bool fl] 55)).heap.size ((w.alloc (.cells #[.int .i64 k, .string tx, .string un, .bool wh, .bool fl, .slice ka 0 kc] 57)).alloc (.cells #[.int .i64 k, .string tx, .string un, .bool wh, .bool fl] 55)) w' → Below w.heap.size w w') := fun w' hb => hB2.trans (hb.mono hB2.size)
  have hbd := intP_bd ⟨k, tx, un, wh, fl⟩
  have HDG : Hid (∀ w, Calls Tryz.prog 80 #[.int .i64 (intP ⟨k, tx, un, wh, fl⟩).1] w fun e w' => e = .returned (.string (W.itS (intP ⟨k, tx, un, wh, fl⟩).1)) ∧ w' = w) := fun w => rdig_any _ (by omega) (by omega) w
  have hz : tx.size ≤ 100000 := hz
  have HCO : Hid (∀ w', Calls Tryz.prog 81 #[.agg #[.int .i64 k, .string tx, .string un, .bool wh, .bool fl, .slice ka 0 kc]] w' fun e w'' => e = .returned (res (colorO ⟨k, tx, un, wh, fl⟩)) ∧ Below w'.heap.size w' w'') := fun w' => rcolor_any ⟨k, tx, un, wh, fl⟩ ka 0 kc (by show tx.size ≤ 1000000; omega) w'
  generalize colorO ⟨k, tx, un, wh, fl⟩ = R at *
  obtain ⟨rs, rb, er, -, -⟩ := res_form R
  rw [er] at HCO ⊢
  generalize W.itS (intP ⟨k, tx, un, wh, fl⟩).1 = its at *
  generalize intP ⟨k, tx, un, wh, fl⟩ = np at *
  obtain ⟨n, ok⟩ := np
  simp only at hI HDG hbd
  clear hX0 hX1 hX2 hq hB1 hB2 hz hbd er
  show Calls Tryz.prog 51 #[.string form, .agg #[.int .i64 k, .string tx, .string un, .bool wh, .bool fl, .slice ka 0 kc]] w _
  go_enter Tryz.func51, Tryz.ntmps51
  go_wp2_with (go_at_call 79; fail)
  refine hI.mono ?_
  rintro e w3 ⟨rfl, hb3⟩
  have hend := HFIN.out _ hb3
  obtain ⟨c0, v0, v1, v2, v3, v4, v5⟩ := HXC.out w3 hb3
  clear hI HXC hb3
  go_wp2_with (go_at_call 80; fail)
  refine (HDG.out _).mono ?_
  rintro e w' ⟨rfl, rfl⟩
  clear HDG
  have hco := HCO.out w'
  go_wp2_with (go_at_call 81; fail)
  refine hco.mono ?_
  rintro e w4 ⟨rfl, hb4⟩
  have hend4 : Below w.heap.size w w4 := hend.trans (hb4.mono hend.size)
  clear hco hb4 hend c0 v0 v1 v2 v3 v4 v5
  go_wp2
  go_ret2
  exact ⟨rfl, hend4⟩
set_option maxHeartbeats 4000000 in
theorem rpart_word (form : ByteArray) (hff : foldS form = form) (b0 : (form.toList == [60, 108, 101, 110, 62]) = false) (b1 : (form.toList == [60, 108, 101, 110, 43, 62]) = false) (b2 : (form.toList == [60, 112, 99, 116, 62]) = false) (b3 : (form.toList == [60, 112, 99, 116, 43, 62]) = false) (b4 : (form.toList == [60, 105, 110, 116, 62]) = false) (b5 : (form.toList == [60, 105, 110, 116, 43, 62]) = false) (b6 : (form.toList == [60, 99, 111, 108, 111, 114, 62]) = false) (t : T5) (ka : Option Addr) (kc : Nat) (hz : t.tx.size ≤ 100000) (w : World) :
    Calls Tryz.prog 51 #[.string form, vA t (.slice ka 0 kc)] w fun e w' => e = .returned (res (wordO form t)) ∧ Below w.heap.size w w' := by
  obtain ⟨k, tx, un, wh, fl⟩ := t
  have hB1 : Below w.heap.size w (w.alloc (.cells #[.int .i64 k, .string tx, .string un, .bool wh, .bool fl, .slice ka 0 kc] 57)) := (Below.refl _ w).alloc (Nat.le_refl _) _
  have hB2 : Below w.heap.size w ((w.alloc (.cells #[.int .i64 k, .string tx, .string un, .bool wh, .bool fl, .slice ka 0 kc] 57)).alloc (.cells #[.int .i64 k, .string tx, .string un, .bool wh, .bool fl] 55)) := hB1.alloc hB1.size _
  have hX0 := World.alloc_heap_new w (.cells #[.int .i64 k, .string tx, .string un, .bool wh, .bool fl, .slice ka 0 kc] 57)
  have hX1 : ((w.alloc (.cells #[.int .i64 k, .string tx, .string un, .bool wh, .bool fl, .slice ka 0 kc] 57)).alloc (.cells #[.int .i64 k, .string tx, .string un, .bool wh, .bool fl] 55)).heap[w.heap.size]? = _ := (((Below.refl _ (w.alloc (.cells #[.int .i64 k, .string tx, .string un, .bool wh, .bool fl, .slice ka 0 kc] 57))).alloc (Nat.le_refl _) (.cells #[.int .i64 k, .string tx, .string un, .bool wh, .bool fl] 55)).block _ (Array.getElem?_eq_some_iff.1 hX0).1).trans hX0
  have hX2 := World.alloc_heap_new (w.alloc (.cells #[.int .i64 k, .string tx, .string un, .bool wh, .bool fl, .slice ka 0 kc] 57)) (.cells #[.int .i64 k, .string tx, .string un, .bool wh, .bool fl] 55)
  have hq : (w.alloc (.cells #[.int .i64 k, .string tx, .string un, .bool wh, .bool fl, .slice ka 0 kc] 57)).heap.size = w.heap.size + 1 := by simp
  rw [hq] at hX2
  have hI : Calls Tryz.prog 79 #[.agg #[.int .i64 k, .string tx, .string un, .bool wh, .bool fl]] ((w.alloc (.cells #[.int .i64 k, .string tx, .string un, .bool wh, .bool fl, .slice ka 0 kc] 57)).alloc (.cells #[.int .i64 k, .string tx, .string un, .bool wh, .bool fl] 55)) _ := rint_any ⟨k, tx, un, wh, fl⟩ hz ((w.alloc (.cells #[.int .i64 k, .string tx, .string un, .bool wh, .bool fl, .slice ka 0 kc] 57)).alloc (.cells #[.int .i64 k, .string tx, .string un, .bool wh, .bool fl] 55))
  have HXC : Hid (∀ w', Below ((w.alloc (.cells #[.int .i64 k, .string tx, .string un, .bool wh, .bool fl, .slice ka 0 kc] 57)).alloc (.cells #[.int .i64 k, .string tx, .string un, .bool wh, .bool fl] 55)).heap.size ((w.alloc (.cells #[.int .i64 k, .string tx, .string un, .bool wh, .bool fl, .slice ka 0 kc] 57)).alloc (.cells #[.int .i64 k, .string tx, .string un, .bool wh, .bool fl] 55)) w' → w'.cell? ⟨w.heap.size + 1, 0, none⟩ = some (.int .i64 k) ∧ w'.cell? ⟨w.heap.size, 0, none⟩ = some (.int .i64 k) ∧ w'.cell? ⟨w.heap.size, 1, none⟩ = some (.string tx) ∧ w'.cell? ⟨w.heap.size, 2, none⟩ = some (.string un) ∧ w'.cell? ⟨w.heap.size, 3, none⟩ = some (.bool wh) ∧ w'.cell? ⟨w.heap.size, 4, none⟩ = some (.bool fl) ∧ w'.cell? ⟨w.heap.size, 5, none⟩ = some (.slice ka 0 kc)) := fun w' hb => by
    have g1 := (hb.block _ (Array.getElem?_eq_some_iff.1 hX1).1).trans hX1
    have g2 := (hb.block _ (Array.getElem?_eq_some_iff.1 hX2).1).trans hX2
    exact ⟨L.cellAt g2 0, L.cellAt g1 0, L.cellAt g1 1, L.cellAt g1 2, L.cellAt g1 3, L.cellAt g1 4, L.cellAt g1 5⟩
  have HFIN : Hid (∀ w', Below ((w.alloc (.cells #[.int .i64 k, .string tx, .string un, .bool wh, .bool fl, .slice ka 0 kc] 57)).alloc (.cells #[.int .i64 k, .string tx, .string un, .bool wh, .bool fl] 55)).heap.size ((w.alloc (.cells #[.int .i64 k, .string tx, .string un, .bool wh, .bool fl, .slice ka 0 kc] 57)).alloc (.cells #[.int .i64 k, .string tx, .string un, .bool wh, .bool fl] 55)) w' → Below w.heap.size w w') := fun w' hb => hB2.trans (hb.mono hB2.size)
  have hbd := intP_bd ⟨k, tx, un, wh, fl⟩
  have HDG : Hid (∀ w, Calls Tryz.prog 80 #[.int .i64 (intP ⟨k, tx, un, wh, fl⟩).1] w fun e w' => e = .returned (.string (W.itS (intP ⟨k, tx, un, wh, fl⟩).1)) ∧ w' = w) := fun w => rdig_any _ (by omega) (by omega) w
  have hz : tx.size ≤ 100000 := hz
  have HID : Hid (∀ w', Calls Tryz.prog 49 #[.agg #[.int .i64 k, .string tx, .string un, .bool wh, .bool fl, .slice ka 0 kc]] w' fun e w'' => e = .returned (.string (idS ⟨k, tx, un, wh, fl⟩)) ∧ Below w'.heap.size w' w'') := fun w' => rident_any ⟨k, tx, un, wh, fl⟩ ka 0 kc (by show tx.size ≤ 1000000; omega) w'
  have HR : Hid (wordO form ⟨k, tx, un, wh, fl⟩ = if k = 1 ∧ foldS tx = form then some form else none) := by
    show _ = _
    unfold wordO
    rw [hff]
  have HIS : Hid (k = 1 → idS ⟨k, tx, un, wh, fl⟩ = foldS tx) := fun h => by unfold idS; rw [if_pos h]
  generalize wordO form ⟨k, tx, un, wh, fl⟩ = R at *
  generalize idS ⟨k, tx, un, wh, fl⟩ = is at *
  generalize foldS tx = f at *
  generalize W.itS (intP ⟨k, tx, un, wh, fl⟩).1 = its at *
  generalize intP ⟨k, tx, un, wh, fl⟩ = np at *
  obtain ⟨n, ok⟩ := np
  simp only at hI HDG hbd
  clear hX0 hX1 hX2 hq hB1 hB2 hz hbd hff
  show Calls Tryz.prog 51 #[.string form, .agg #[.int .i64 k, .string tx, .string un, .bool wh, .bool fl, .slice ka 0 kc]] w _
  by_cases hk : k = 1
  · have e := HIS.out hk
    subst e
    have k1 : (k != 1) = false := by rw [hk]; rfl
    cases hq : (is.toList == form.toList) with
    | true =>
      have HN : Hid (R = some form) := by show _ = _; rw [HR.out, if_pos ⟨hk, eq_list.2 hq⟩]
      have hq2 : (is.toList != form.toList) = false := by simp only [bne, hq]; rfl
      clear HR HIS hk
      go_enter Tryz.func51, Tryz.ntmps51
      go_wp2_with (go_at_call 79; fail)
      refine hI.mono ?_
      rintro e w3 ⟨rfl, hb3⟩
      have hend := HFIN.out _ hb3
      obtain ⟨c0, v0, v1, v2, v3, v4, v5⟩ := HXC.out w3 hb3
      clear hI HXC hb3
      go_wp2_with (go_at_call 80; fail)
      refine (HDG.out _).mono ?_
      rintro e w' ⟨rfl, rfl⟩
      clear HDG
      have hco := HID.out w'
      go_wp2_with (go_at_call 49; fail)
      refine hco.mono ?_
      rintro e w4 ⟨rfl, hb4⟩
      have hend4 : Below w.heap.size w w4 := hend.trans (hb4.mono hend.size)
      clear hco hb4 hend c0 v0 v1 v2 v3 v4 v5
      go_wp2
      go_ret2
      exact ⟨by rw [HN.out]; rfl, hend4⟩
    | false =>
      have HN : Hid (R = none) := by
        show _ = _
        rw [HR.out, if_neg]
        rintro ⟨_, h⟩
        rw [eq_list.1 h] at hq
        cases hq
      have hq2 : (is.toList != form.toList) = true := by simp only [bne, hq]; rfl
      clear HR HIS hk
      go_enter Tryz.func51, Tryz.ntmps51
      go_wp2_with (go_at_call 79; fail)
      refine hI.mono ?_
      rintro e w3 ⟨rfl, hb3⟩
      have hend := HFIN.out _ hb3
      obtain ⟨c0, v0, v1, v2, v3, v4, v5⟩ := HXC.out w3 hb3
      clear hI HXC hb3
      go_wp2_with (go_at_call 80; fail)
      refine (HDG.out _).mono ?_
      rintro e w' ⟨rfl, rfl⟩
      clear HDG
      have hco := HID.out w'
      go_wp2_with (go_at_call 49; fail)
      refine hco.mono ?_
      rintro e w4 ⟨rfl, hb4⟩
      have hend4 : Below w.heap.size w w4 := hend.trans (hb4.mono hend.size)
      clear hco hb4 hend c0 v0 v1 v2 v3 v4 v5
      go_wp2
      go_ret2
      exact ⟨by rw [HN.out]; rfl, hend4⟩
  · have HN : Hid (R = none) := by show _ = _; rw [HR.out, if_neg (fun h => hk h.1)]
    have k1 : (k != 1) = true := by simpa using hk
    clear HR HIS hk HID
    go_enter Tryz.func51, Tryz.ntmps51
    go_wp2_with (go_at_call 79; fail)
    refine hI.mono ?_
    rintro e w3 ⟨rfl, hb3⟩
    have hend := HFIN.out _ hb3
    obtain ⟨c0, v0, v1, v2, v3, v4, v5⟩ := HXC.out w3 hb3
    clear hI HXC hb3
    go_wp2_with (go_at_call 80; fail)
    refine (HDG.out _).mono ?_
    rintro e w' ⟨rfl, rfl⟩
    clear HDG
    go_wp2
    go_ret2
    exact ⟨by rw [HN.out]; rfl, hend⟩
set_option maxHeartbeats 1000000 in
theorem rpart_any (form : ByteArray) (hff : foldS form = form) (t : T5) (ka : Option Addr) (kn kc : Nat) (hz : t.tx.size ≤ 100000) (hu : t.un.size ≤ 1000000) (w : World) :
    Calls Tryz.prog 51 #[.string form, vA t (.slice ka kn kc)] w fun e w' => e = .returned (res (partO form t kn)) ∧ Below w.heap.size w w' := by
  by_cases h0 : 0 < kn
  · have HN : Hid (partO form t kn = none) := by show _ = _; unfold partO; rw [if_pos h0]
    rw [HN.out]
    obtain ⟨k, tx, un, wh, fl⟩ := t
    have hB : Below w.heap.size w (w.alloc (.cells #[.int .i64 k, .string tx, .string un, .bool wh, .bool fl, .slice ka kn kc] 57)) := (Below.refl _ w).alloc (Nat.le_refl _) _
    have hd : decide ((0 : Int) < (kn : Int)) = true := decide_eq_true (by omega)
    have hi : (0 : Int) < (kn : Int) := by omega
    have HB := hid_mk hB
    show Calls Tryz.prog 51 #[.string form, .agg #[.int .i64 k, .string tx, .string un, .bool wh, .bool fl, .slice ka kn kc]] w _
    clear HN hB
    go_enter Tryz.func51, Tryz.ntmps51
    go_wp2
    go_ret2
    exact ⟨rfl, HB.out⟩
  have hk0 : kn = 0 := by omega
  subst hk0
  have e : partO form t 0 = askO (asksA form) t := by unfold partO; rw [if_neg (by decide)]
  rw [e]
  by_cases e0 : form.toList = [60, 108, 101, 110, 62]
  · have hA : asksA form = .num .len false := by unfold asksA; rw [if_pos e0]
    rw [hA]
    exact rpart_len_false form  (by simpa using e0) (by rw [e0]; rfl) t ka kc hz hu w
  by_cases e1 : form.toList = [60, 108, 101, 110, 43, 62]
  · have hA : asksA form = .num .len true := by unfold asksA; rw [if_neg e0]; rw [if_pos e1]
    rw [hA]
    exact rpart_len_true form (by simpa using e0) (by simpa using e1)  t ka kc hz hu w
  by_cases e2 : form.toList = [60, 112, 99, 116, 62]
  · have hA : asksA form = .num .pct false := by unfold asksA; rw [if_neg e0]; rw [if_neg e1]; rw [if_pos e2]
    rw [hA]
    exact rpart_pct_false form (by simpa using e0) (by simpa using e1) (by simpa using e2) (by rw [e2]; rfl) t ka kc hz hu w
  by_cases e3 : form.toList = [60, 112, 99, 116, 43, 62]
  · have hA : asksA form = .num .pct true := by unfold asksA; rw [if_neg e0]; rw [if_neg e1]; rw [if_neg e2]; rw [if_pos e3]
    rw [hA]
    exact rpart_pct_true form (by simpa using e0) (by simpa using e1) (by simpa using e2) (by simpa using e3)  t ka kc hz hu w
  by_cases e4 : form.toList = [60, 105, 110, 116, 62]
  · have hA : asksA form = .num .int false := by unfold asksA; rw [if_neg e0]; rw [if_neg e1]; rw [if_neg e2]; rw [if_neg e3]; rw [if_pos e4]
    rw [hA]
    exact rpart_int_false form (by simpa using e0) (by simpa using e1) (by simpa using e2) (by simpa using e3) (by simpa using e4) (by rw [e4]; rfl) t ka kc hz hu w
  by_cases e5 : form.toList = [60, 105, 110, 116, 43, 62]
  · have hA : asksA form = .num .int true := by unfold asksA; rw [if_neg e0]; rw [if_neg e1]; rw [if_neg e2]; rw [if_neg e3]; rw [if_neg e4]; rw [if_pos e5]
    rw [hA]
    exact rpart_int_true form (by simpa using e0) (by simpa using e1) (by simpa using e2) (by simpa using e3) (by simpa using e4) (by simpa using e5)  t ka kc hz hu w
  by_cases e6 : form.toList = [60, 99, 111, 108, 111, 114, 62]
  · have hA : asksA form = .col := by unfold asksA; rw [if_neg e0]; rw [if_neg e1]; rw [if_neg e2]; rw [if_neg e3]; rw [if_neg e4]; rw [if_neg e5]; rw [if_pos e6]
    rw [hA]
    exact rpart_col form (by simpa using e0) (by simpa using e1) (by simpa using e2) (by simpa using e3) (by simpa using e4) (by simpa using e5) (by simpa using e6) t ka kc hz w
  have hA : asksA form = .word form := by unfold asksA; rw [if_neg e0]; rw [if_neg e1]; rw [if_neg e2]; rw [if_neg e3]; rw [if_neg e4]; rw [if_neg e5]; rw [if_neg e6]
  rw [hA]
  exact rpart_word form hff (by simpa using e0) (by simpa using e1) (by simpa using e2) (by simpa using e3) (by simpa using e4) (by simpa using e5) (by simpa using e6) t ka kc hz w
end Go.Proofs.YtlhdapckenjigaaGreatDoor.Z
namespace Go.Proofs.YtlhdapckenjigaaGreatDoor.Z
open Go.RowKit
open Go.Proofs.YtlhdapckenjigaaGreatDoor.L (T5 V VsAt t5Cells vCells cell_of_heap hid_mk)
set_option maxRecDepth 100000

theorem T_fold : P.T.all (fun p => (P.prts p.f).all (fun x => decide (foldS x = x))) = true := by kernel_rfl
theorem prc_fold (name : ByteArray) : ∀ x ∈ P.prts (P.prc name).f, foldS x = x := by
  rcases P.fnd_cases name with ⟨_, h⟩ | ⟨k, p, _, _, h, hp⟩
  · rw [h]
    have e : P.prts P.z0.f = [⟨#[]⟩] := by kernel_rfl
    rw [e]
    intro x hx
    simp at hx
    subst hx
    kernel_rfl
  · rw [h]
    have h1 := List.all_eq_true.1 T_fold p (List.mem_of_getElem? hp)
    have h2 := List.all_eq_true.1 h1
    exact fun x hx => of_decide_eq_true (h2 x hx)
theorem one_cases (vs : List V) : (∃ x, Y.trimZ vs = [x] ∧ oneO vs = some x) ∨ ((Y.trimZ vs).length ≠ 1 ∧ oneO vs = none) := by
  unfold oneO
  cases h : Y.trimZ vs with
  | nil => exact .inr ⟨by simp, rfl⟩
  | cons a r => cases r with
    | nil => exact .inl ⟨a, rfl, rfl⟩
    | cons b r => exact .inr ⟨by simp, rfl⟩
set_option maxHeartbeats 4000000 in
theorem rparse_any {P0 : Nat → Prop} {W : World} {v : Value} {vs : List V} (name : ByteArray) (hv : VsAt P0 W v vs) (hm : vs.length ≤ 1954687338211) (hz : ∀ y ∈ vs, y.tok.tx.size ≤ 100000 ∧ y.tok.un.size ≤ 100000) :
    Calls Tryz.prog 30 #[.string name, v] W fun e w' => e = .returned (res (parseO name vs)) ∧ Below W.heap.size W w' := by
  have hf := P.rfind_any name W
  have HR : Hid (parseO name vs = if P.plc name < 0 then none else match oneO vs with | none => none | some x => frmO x.tok x.kids.length (P.prts (P.prc name).f)) := rfl
  obtain ⟨hfs, _⟩ := prc_forms name
  have HFX := hid_mk (prc_fold name)
  have HFO : Hid (∀ w, Calls Tryz.prog 50 #[.agg (P.c4 (P.prc name))] w fun e w' => (∃ a c, e = .returned (.slice a (P.prts (P.prc name).f).length c) ∧ P.StrAt w' (.slice a (P.prts (P.prc name).f).length c) (P.prts (P.prc name).f)) ∧ Below w.heap.size w w') := fun w => P.rforms_any (P.prc name) w hfs
  have HTR : Hid (∀ w, Below W.heap.size W w → Calls Tryz.prog 48 #[v] w fun e w' => ∃ a n c, e = .returned (.slice a n c) ∧ n = (Y.trimZ vs).length ∧ n ≤ 1954687338211 ∧ VsAt (fun _ => True) w' (.slice a n c) (Y.trimZ vs) ∧ Below w.heap.size w w') := fun w hb => (Y.rtrim_any (hv.keep hb) hm).mono fun e w' h => by
    obtain ⟨o, h1, h2, h3⟩ := h
    obtain ⟨a, c, ho, _, _⟩ := h2.slice
    rw [ho] at h1 h2
    exact ⟨a, _, c, h1, rfl, Nat.le_trans (Y.trim_len vs) hm, h2.wider (fun _ _ _ => trivial), h3⟩
  have hone := one_cases vs
  have HONE : Hid (∀ x, Y.trimZ vs = [x] → x.tok.tx.size ≤ 100000 ∧ x.tok.un.size ≤ 100000) := fun x hx => hz _ (Y.trim_sub vs _ (by rw [hx]; simp))
  obtain ⟨va, vc, rfl, _, _⟩ := hv.slice
  generalize hL : P.prts (P.prc name).f = FL at *
  generalize parseO name vs = R at *
  generalize P.prc name = p at *
  generalize P.plc name = pl at *
  generalize oneO vs = oo at *
  generalize Y.trimZ vs = tv at *
  generalize vs.length = vn at *
  obtain ⟨pn, pi, ph, pf⟩ := p
  clear hv hz hfs hL hm
  go_enter Tryz.func30, Tryz.ntmps30
  go_wp2_with (go_at_call 28; fail)
  refine hf.mono ?_
  rintro e w1 ⟨rfl, hb1⟩
  have hBa : Below W.heap.size W (w1.alloc (.cells #[.string pn, .string pi, .bool ph, .string pf] 63)) := hb1.alloc hb1.size _
  have hX1 := P.Bx.new w1 63 #[.string pn, .string pi, .bool ph, .string pf]
  have hs := HTR.out _ hBa
  clear hf hb1 HTR
  go_wp2_with (go_at_call 48; fail)
  refine hs.mono ?_
  rintro e w2 ⟨ta, tn, tc, rfl, htn, htm, hvt, hb2⟩
  have hX2 := hX1.below hb2
  have hB2 := hBa.trans (hb2.mono hBa.size)
  have HB2 := hid_mk hB2
  clear hs hX1 hBa hb2 hB2
  by_cases hp : pl < 0
  · have HN : Hid (R = none) := by show _ = _; rw [HR.out, if_pos hp]
    have hd : decide (0 ≤ pl) = false := decide_eq_false (by omega)
    clear HR hX2 hvt htn
    go_wp2
    go_ret2
    exact ⟨by rw [HN.out]; rfl, HB2.out⟩
  · have hd : decide (0 ≤ pl) = true := decide_eq_true (by omega)
    rcases hone with ⟨x, htv, hoo⟩ | ⟨hl, hoo⟩
    · subst hoo
      have hsz := HONE.out x htv
      rw [htv] at hvt htn
      replace htn : tn = 1 := htn
      subst htn
      obtain ⟨cap, b, off, ja, jc, ej, hc1, hc2, ⟨q0, q1, q2⟩, q3, q4, q5⟩ := val_one hvt
      cases ej
      have HN : Hid (R = frmO x.tok x.kids.length FL) := by show _ = _; rw [HR.out, if_neg hp]
      have HVC : Hid (∀ w', Below w2.heap.size w2 w' → (w'.cell? ⟨b, off, none⟩ = some (.int .i64 x.tok.k) ∧ w'.cell? ⟨b, off + 1, none⟩ = some (.string x.tok.tx) ∧ w'.cell? ⟨b, off + 2, none⟩ = some (.string x.tok.un)) ∧ w'.cell? ⟨b, off + 3, none⟩ = some (.bool x.tok.wh) ∧ w'.cell? ⟨b, off + 4, none⟩ = some (.bool x.tok.fl) ∧ w'.cell? ⟨b, off + 5, none⟩ = some (.slice ja x.kids.length jc)) := fun w' hb => by
        have g := fun o u (h : w2.cell? ⟨b, o, none⟩ = some u) => (hb.cell (p := ⟨b, o, none⟩) (P.lt_of_cell h)).trans h
        exact ⟨⟨g _ _ q0, g _ _ q1, g _ _ q2⟩, g _ _ q3, g _ _ q4, g _ _ q5⟩
      generalize x.kids.length = kn at *
      generalize x.tok = t at *
      obtain ⟨k, tx, un, wh, fl⟩ := t
      simp only at HVC hsz
      have hq1 := hX2.cell 0 _ rfl
      have hq2 := hX2.cell 1 _ rfl
      have hq3 := hX2.cell 2 _ rfl
      have hq4 := hX2.cell 3 _ rfl
      have hfo := HFO.out w2
      clear HFO hX2 hp hvt htv HONE HR q0 q1 q2 q3 q4 q5
      go_wp2_with (go_at_call 50; fail)
      refine hfo.mono ?_
      rintro e w4 ⟨⟨a, c, rfl, hst⟩, hb4⟩
      have HB4 : Hid (Below W.heap.size W w4) := HB2.out.trans (hb4.mono HB2.out.size)
      have HV4 : Hid (∀ w', Below w4.heap.size w4 w' → _) := fun w' hb => HVC.out w' (hb4.trans (hb.mono hb4.size))
      obtain ⟨a', cap', ea, hcl, hcm, hcell⟩ := hst.form
      cases ea
      have HC := hid_mk hcell
      clear hfo hst hb4 HB2 HVC hq1 hq2 hq3 hq4 hcell
      have hFL : FL.length ≤ 9223372036854775807 := by omega
      go_wp2
      go_loopw [29] (fun a29 wr => ∃ i : Nat, i ≤ FL.length ∧ a29 = .int .i64 (i : Int) ∧ Hid (Below w4.heap.size w4 wr) ∧ Hid (R = frmO ⟨k, tx, un, wh, fl⟩ kn (FL.drop i))) (fun a29 _ => FL.length + 1 - (intOf a29).toNat)
      case atStart => exact ⟨0, Nat.zero_le _, rfl, Below.refl _ _, HN⟩
      case round =>
        obtain ⟨i, hi, rfl, HBr, HE⟩ := hrel
        clear HN
        by_cases hlt : i < FL.length
        · have hd1 : decide ((i : Int) < (FL.length : Int)) = true := decide_eq_true (by omega)
          obtain ⟨g, ega, hcl2⟩ := HC.out (by omega)
          obtain ⟨f, hfi⟩ : ∃ f, FL[i]? = some f := ⟨_, List.getElem?_eq_getElem hlt⟩
          have hff := HFX.out f (List.mem_of_getElem? hfi)
          have hc1' := hcl2 i f hfi
          have hcf : wr.cell? ⟨g, i, none⟩ = some (.string f) := (HBr.out.cell (p := ⟨g, i, none⟩) (P.lt_of_cell hc1')).trans hc1'
          obtain ⟨⟨y0, y1, y2⟩, y3, y4, y5⟩ := HV4.out wr HBr.out
          have HEND : Hid (Below W.heap.size W wr) := HB4.out.trans (HBr.out.mono HB4.out.size)
          have hpa := rpart_any f hff ⟨k, tx, un, wh, fl⟩ ja kn jc hsz.1 (Nat.le_trans hsz.2 (by decide)) wr
          have HD : Hid (R = match partO f ⟨k, tx, un, wh, fl⟩ kn with | some s => some s | none => frmO ⟨k, tx, un, wh, fl⟩ kn (FL.drop (i + 1))) := by
            show _ = _
            rw [HE.out, drop_at hfi, frm_cons]
            cases partO f ⟨k, tx, un, wh, fl⟩ kn <;> rfl
          have hpa : Calls Tryz.prog 51 #[.string f, .agg #[.int .i64 k, .string tx, .string un, .bool wh, .bool fl, .slice ja kn jc]] wr _ := hpa
          subst ega
          clear HC hcl2 hc1' HE hfi hff HFX
          cases ho : partO f ⟨k, tx, un, wh, fl⟩ kn with
          | some so =>
            rw [ho] at hpa HD
            have HZ : Hid (R = some so) := HD.out
            rw [res_some] at hpa
            clear HD
            go_wp2_with (go_at_call 51; fail)
            refine hpa.mono ?_
            rintro e w5 ⟨rfl, hb5⟩
            have HE5 : Hid (Below W.heap.size W w5) := HEND.out.trans (hb5.mono HEND.out.size)
            clear hpa hb5
            go_wp2
            go_ret2
            exact ⟨by rw [HZ.out]; rfl, HE5.out⟩
          | none =>
            rw [ho] at hpa HD
            have HZ : Hid (R = frmO ⟨k, tx, un, wh, fl⟩ kn (FL.drop (i + 1))) := HD.out
            rw [res_none] at hpa
            clear HD
            go_wp2_with (go_at_call 51; fail)
            refine hpa.mono ?_
            rintro e w5 ⟨rfl, hb5⟩
            have HE5 : Hid (Below w4.heap.size w4 w5) := HBr.out.trans (hb5.mono HBr.out.size)
            clear hpa hb5
            go_wp2
            exact ⟨⟨i + 1, by omega, by go_num, HE5, HZ⟩, by simp only [intOf]; omega⟩
        · have hie : i = FL.length := by omega
          have HZ : Hid (R = none) := by show _ = _; rw [HE.out, hie, List.drop_length]; rfl
          have HEND : Hid (Below W.heap.size W wr) := HB4.out.trans (HBr.out.mono HB4.out.size)
          have hd1 : decide ((i : Int) < (FL.length : Int)) = false := decide_eq_false (by omega)
          clear HE hie HBr HC
          go_wp2
          go_ret2
          exact ⟨by rw [HZ.out]; rfl, HEND.out⟩
    · subst hoo
      have HN : Hid (R = none) := by show _ = _; rw [HR.out, if_neg hp]
      have hl1 : ((tn : Int) != 1) = true := by simpa using (by omega : (tn : Int) ≠ 1)
      clear HR hX2 hvt htn hl
      go_wp2
      go_ret2
      exact ⟨by rw [HN.out]; rfl, HB2.out⟩
set_option maxHeartbeats 4000000 in
theorem rwide_any {P0 : Nat → Prop} {W : World} {v : Value} {vs : List V} (hv : VsAt P0 W v vs) (hm : vs.length ≤ 1954687338211) (hz : ∀ y ∈ vs, y.tok.tx.size ≤ 100000 ∧ y.tok.un.size ≤ 100000) :
    Calls Tryz.prog 29 #[v] W fun e w' => e = .returned (.string (wideS vs)) ∧ Below W.heap.size W w' := by
  have HR : Hid (wideS vs = match oneO vs with | none => noS | some x => if x.tok.k = 1 ∧ ((foldS x.tok.tx).toList = [105, 110, 104, 101, 114, 105, 116] ∨ (foldS x.tok.tx).toList = [105, 110, 105, 116, 105, 97, 108] ∨ (foldS x.tok.tx).toList = [117, 110, 115, 101, 116]) then foldS x.tok.tx else noS) := rfl
  have htr : Calls Tryz.prog 48 #[v] W fun e w' => ∃ a n c, e = .returned (.slice a n c) ∧ n = (Y.trimZ vs).length ∧ n ≤ 1954687338211 ∧ VsAt (fun _ => True) w' (.slice a n c) (Y.trimZ vs) ∧ Below W.heap.size W w' := (Y.rtrim_any hv hm).mono fun e w' h => by
    obtain ⟨o, h1, h2, h3⟩ := h
    obtain ⟨a, c, ho, _, _⟩ := h2.slice
    rw [ho] at h1 h2
    exact ⟨a, _, c, h1, rfl, Nat.le_trans (Y.trim_len vs) hm, h2.wider (fun _ _ _ => trivial), h3⟩
  have hone := one_cases vs
  have HONE : Hid (∀ x, Y.trimZ vs = [x] → x.tok.tx.size ≤ 100000 ∧ x.tok.un.size ≤ 100000) := fun x hx => hz _ (Y.trim_sub vs _ (by rw [hx]; simp))
  obtain ⟨va, vc, rfl, _, _⟩ := hv.slice
  generalize wideS vs = R at *
  generalize oneO vs = oo at *
  generalize Y.trimZ vs = tv at *
  generalize vs.length = vn at *
  clear hv hz hm
  rcases hone with ⟨x, htv, hoo⟩ | ⟨hl, hoo⟩
  · subst hoo
    have hsz := HONE.out x htv
    rw [htv] at htr
    have HN : Hid (R = if x.tok.k = 1 ∧ ((foldS x.tok.tx).toList = [105, 110, 104, 101, 114, 105, 116] ∨ (foldS x.tok.tx).toList = [105, 110, 105, 116, 105, 97, 108] ∨ (foldS x.tok.tx).toList = [117, 110, 115, 101, 116]) then foldS x.tok.tx else noS) := HR.out
    have HID : Hid (∀ w' ja jc, Calls Tryz.prog 49 #[.agg #[.int .i64 x.tok.k, .string x.tok.tx, .string x.tok.un, .bool x.tok.wh, .bool x.tok.fl, .slice ja x.kids.length jc]] w' fun e w'' => e = .returned (.string (idS x.tok)) ∧ Below w'.heap.size w' w'') := fun w' ja jc => rident_any x.tok ja x.kids.length jc (by have := hsz.1; omega) w'
    have HIS : Hid (idS x.tok = if x.tok.k = 1 then foldS x.tok.tx else noS) := rfl
    obtain ⟨b1, b2, b3, g1, g2, g3⟩ : ∃ b1 b2 b3 : Bool, ((idS x.tok).toList == [105, 110, 104, 101, 114, 105, 116]) = b1 ∧ ((idS x.tok).toList == [105, 110, 105, 116, 105, 97, 108]) = b2 ∧ ((idS x.tok).toList == [117, 110, 115, 101, 116]) = b3 := ⟨_, _, _, rfl, rfl, rfl⟩
    have HZ : Hid (R = if (b1 || b2 || b3) = true then idS x.tok else ⟨#[]⟩) := by
      show _ = _
      rw [HN.out, ← g1, ← g2, ← g3]
      have hem : (noS).toList = [] := by unfold noS; rw [ByteArray.toList_eq]
      by_cases hk : x.tok.k = 1
      · have e : idS x.tok = foldS x.tok.tx := by rw [HIS.out, if_pos hk]
        rw [e]
        congr 1
        simp only [hk, true_and, Bool.or_eq_true, beq_iff_eq, or_assoc]
      · have e : idS x.tok = noS := by rw [HIS.out, if_neg hk]
        rw [e, if_neg (fun h => hk h.1), hem]
        rfl
    generalize idS x.tok = d at *
    clear HR HN HIS htv HONE hsz
    go_enter Tryz.func29, Tryz.ntmps29
    go_wp2_with (go_at_call 48; fail)
    refine htr.mono ?_
    rintro e w2 ⟨ta, tn, tc, rfl, htn, htm, hvt, hb2⟩
    replace htn : tn = 1 := htn
    subst htn
    obtain ⟨cap, b, off, ja, jc, ej, hc1, hc2, ⟨q0, q1, q2⟩, q3, q4, q5⟩ := val_one hvt
    cases ej
    have hid := HID.out w2 ja jc
    have HB2 := hid_mk hb2
    clear htr hvt hb2 HID
    generalize x.kids.length = kn at *
    generalize x.tok = t at *
    obtain ⟨k, tx, un, wh, fl⟩ := t
    simp only at q0 q1 q2 q3 q4 hid
    go_wp2_with (go_at_call 49; fail)
    refine hid.mono ?_
    rintro e w3 ⟨rfl, hb3⟩
    have HB3 : Hid (Below W.heap.size W w3) := HB2.out.trans (hb3.mono HB2.out.size)
    clear hid hb3 HB2 q0 q1 q2 q3 q4 q5
    cases b1 <;> cases b2 <;> cases b3
    all_goals
      go_wp2
      go_ret
      exact ⟨by rw [HZ.out]; rfl, HB3.out⟩
  · subst hoo
    have HN : Hid (R = ⟨#[]⟩) := HR.out
    clear HR HONE
    go_enter Tryz.func29, Tryz.ntmps29
    go_wp2_with (go_at_call 48; fail)
    refine htr.mono ?_
    rintro e w2 ⟨ta, tn, tc, rfl, htn, htm, hvt, hb2⟩
    have HB2 := hid_mk hb2
    have hl1 : ((tn : Int) != 1) = true := by simpa using (by omega : (tn : Int) ≠ 1)
    clear htr hvt hb2 htn hl
    go_wp2
    go_ret
    exact ⟨by rw [HN.out]; rfl, HB2.out⟩
end Go.Proofs.YtlhdapckenjigaaGreatDoor.Z
