/- gouacheref15.Color. -/
import Derived.Test.YtfgnlgkpgihbmaaGreatDoorZRf
namespace Go.Proofs.YtfgnlgkpgihbmaaGreatDoor.Z
open Go.RowKit
open Go.Proofs.YtfgnlgkpgihbmaaGreatDoor.L (T5 V VsAt t5Cells vCells cell_of_heap hid_mk)
set_option maxRecDepth 100000

theorem low_byte : ∀ n : Fin 256, hexI (lowZ ((n.val : Nat) : Int)) = hexI ((n.val : Nat) : Int) ∧ (foldB (UInt8.ofNat n.val)).toNat = (lowZ ((n.val : Nat) : Int)).toNat ∧ 0 ≤ lowZ ((n.val : Nat) : Int) := by decide +kernel
/-- The bytes of a text in small letters. -/
theorem fold_bytes (s : ByteArray) : W.bytesL (foldS s) = (W.bytesL s).map lowZ := by
  unfold W.bytesL foldS
  simp only [Array.toList_map, List.map_map]
  apply List.map_congr_left
  intro x _
  have h := low_byte ⟨x.toNat, x.toNat_lt⟩
  simp only [UInt8.ofNat_toNat] at h
  simp only [Function.comp]
  omega
/-- A byte of a text in small letters. -/
theorem fold_at (s : ByteArray) (p : Nat) (hp : p < (foldS s).size) : (((foldS s)[p]'hp).toNat : Int) = lowZ ((W.bytesL s).getD p 0) ∧ (foldS s).extract p (p + 1) = strOfNums [lowZ ((W.bytesL s).getD p 0)] ∧ hexI (lowZ ((W.bytesL s).getD p 0)) = hexI ((W.bytesL s).getD p 0) := by
  have hl : p < (W.bytesL s).length := by rw [W.bytesL_size]; rw [foldS_size] at hp; exact hp
  have e : (W.bytesL (foldS s)).getD p 0 = lowZ ((W.bytesL s).getD p 0) := by
    rw [fold_bytes]
    simp [List.getD, hl]
  have e2 : (((foldS s)[p]'hp).toNat : Int) = (W.bytesL (foldS s)).getD p 0 := (W.byte_at (foldS s) p hp).symm
  have hm : (W.bytesL s).getD p 0 ∈ W.bytesL s := by simp [List.getD, hl]
  have hb := W.bytesL_byte s _ hm
  refine ⟨e2.trans e, ?_, ?_⟩
  · have h1 := P.ext_one (foldS s) p hp
    apply ByteArray.ext
    apply Array.ext'
    rw [h1]
    show _ = [UInt8.ofNat (lowZ ((W.bytesL s).getD p 0)).toNat]
    rw [← e, ← e2]
    simp
  · obtain ⟨n, hn⟩ : ∃ n : Nat, (W.bytesL s).getD p 0 = n := ⟨((W.bytesL s).getD p 0).toNat, by omega⟩
    rw [hn]
    exact (low_byte ⟨n, by omega⟩).1
theorem find_none {f : ByteArray} (b0 : (f.toList == [98, 108, 97, 99, 107]) = false) (b1 : (f.toList == [119, 104, 105, 116, 101]) = false) (b2 : (f.toList == [114, 101, 100]) = false) (b3 : (f.toList == [103, 114, 101, 101, 110]) = false) (b4 : (f.toList == [98, 108, 117, 101]) = false) (b5 : (f.toList == [103, 114, 97, 121]) = false) (b6 : (f.toList == [121, 101, 108, 108, 111, 119]) = false) (b7 : (f.toList == [112, 117, 114, 112, 108, 101]) = false) : fndC f CT = none := by
  have e : ∀ a b : List UInt8, (a == b) = (b == a) := fun a b => by
    rw [Bool.eq_iff_iff, beq_iff_eq, beq_iff_eq]
    exact eq_comm
  have g : ∀ l : List UInt8, (⟨l.toArray⟩ : ByteArray).toList = l := fun l => by rw [ByteArray.toList_eq]
  unfold CT
  simp only [fndC_cons]
  rw [show (⟨#[98, 108, 97, 99, 107]⟩ : ByteArray).toList = [98, 108, 97, 99, 107] from g _, e, b0, if_neg (by decide)]
  rw [show (⟨#[119, 104, 105, 116, 101]⟩ : ByteArray).toList = [119, 104, 105, 116, 101] from g _, e, b1, if_neg (by decide)]
  rw [show (⟨#[114, 101, 100]⟩ : ByteArray).toList = [114, 101, 100] from g _, e, b2, if_neg (by decide)]
  rw [show (⟨#[103, 114, 101, 101, 110]⟩ : ByteArray).toList = [103, 114, 101, 101, 110] from g _, e, b3, if_neg (by decide)]
  rw [show (⟨#[98, 108, 117, 101]⟩ : ByteArray).toList = [98, 108, 117, 101] from g _, e, b4, if_neg (by decide)]
  rw [show (⟨#[103, 114, 97, 121]⟩ : ByteArray).toList = [103, 114, 97, 121] from g _, e, b5, if_neg (by decide)]
  rw [show (⟨#[121, 101, 108, 108, 111, 119]⟩ : ByteArray).toList = [121, 101, 108, 108, 111, 119] from g _, e, b6, if_neg (by decide)]
  rw [show (⟨#[112, 117, 114, 112, 108, 101]⟩ : ByteArray).toList = [112, 117, 114, 112, 108, 101] from g _, e, b7, if_neg (by decide)]
  rfl
theorem fx_0 : fndC (⟨#[98, 108, 97, 99, 107]⟩ : ByteArray) CT = some (⟨#[35, 48, 48, 48, 48, 48, 48]⟩ : ByteArray) := by kernel_rfl
theorem find_0 {f : ByteArray} (b0 : (f.toList == [98, 108, 97, 99, 107]) = true) : fndC f CT = some ⟨#[35, 48, 48, 48, 48, 48, 48]⟩ := by
  have : f = ⟨#[98, 108, 97, 99, 107]⟩ := by
    have h := beq_iff_eq.1 b0
    rw [ByteArray.toList_eq] at h
    exact ByteArray.ext (Array.ext' h)
  subst this
  exact fx_0
theorem fx_1 : fndC (⟨#[119, 104, 105, 116, 101]⟩ : ByteArray) CT = some (⟨#[35, 102, 102, 102, 102, 102, 102]⟩ : ByteArray) := by kernel_rfl
theorem find_1 {f : ByteArray} (b1 : (f.toList == [119, 104, 105, 116, 101]) = true) : fndC f CT = some ⟨#[35, 102, 102, 102, 102, 102, 102]⟩ := by
  have : f = ⟨#[119, 104, 105, 116, 101]⟩ := by
    have h := beq_iff_eq.1 b1
    rw [ByteArray.toList_eq] at h
    exact ByteArray.ext (Array.ext' h)
  subst this
  exact fx_1
theorem fx_2 : fndC (⟨#[114, 101, 100]⟩ : ByteArray) CT = some (⟨#[35, 102, 102, 48, 48, 48, 48]⟩ : ByteArray) := by kernel_rfl
theorem find_2 {f : ByteArray} (b2 : (f.toList == [114, 101, 100]) = true) : fndC f CT = some ⟨#[35, 102, 102, 48, 48, 48, 48]⟩ := by
  have : f = ⟨#[114, 101, 100]⟩ := by
    have h := beq_iff_eq.1 b2
    rw [ByteArray.toList_eq] at h
    exact ByteArray.ext (Array.ext' h)
  subst this
  exact fx_2
theorem fx_3 : fndC (⟨#[103, 114, 101, 101, 110]⟩ : ByteArray) CT = some (⟨#[35, 48, 48, 56, 48, 48, 48]⟩ : ByteArray) := by kernel_rfl
theorem find_3 {f : ByteArray} (b3 : (f.toList == [103, 114, 101, 101, 110]) = true) : fndC f CT = some ⟨#[35, 48, 48, 56, 48, 48, 48]⟩ := by
  have : f = ⟨#[103, 114, 101, 101, 110]⟩ := by
    have h := beq_iff_eq.1 b3
    rw [ByteArray.toList_eq] at h
    exact ByteArray.ext (Array.ext' h)
  subst this
  exact fx_3
theorem fx_4 : fndC (⟨#[98, 108, 117, 101]⟩ : ByteArray) CT = some (⟨#[35, 48, 48, 48, 48, 102, 102]⟩ : ByteArray) := by kernel_rfl
theorem find_4 {f : ByteArray} (b4 : (f.toList == [98, 108, 117, 101]) = true) : fndC f CT = some ⟨#[35, 48, 48, 48, 48, 102, 102]⟩ := by
  have : f = ⟨#[98, 108, 117, 101]⟩ := by
    have h := beq_iff_eq.1 b4
    rw [ByteArray.toList_eq] at h
    exact ByteArray.ext (Array.ext' h)
  subst this
  exact fx_4
theorem fx_5 : fndC (⟨#[103, 114, 97, 121]⟩ : ByteArray) CT = some (⟨#[35, 56, 48, 56, 48, 56, 48]⟩ : ByteArray) := by kernel_rfl
theorem find_5 {f : ByteArray} (b5 : (f.toList == [103, 114, 97, 121]) = true) : fndC f CT = some ⟨#[35, 56, 48, 56, 48, 56, 48]⟩ := by
  have : f = ⟨#[103, 114, 97, 121]⟩ := by
    have h := beq_iff_eq.1 b5
    rw [ByteArray.toList_eq] at h
    exact ByteArray.ext (Array.ext' h)
  subst this
  exact fx_5
theorem fx_6 : fndC (⟨#[121, 101, 108, 108, 111, 119]⟩ : ByteArray) CT = some (⟨#[35, 102, 102, 102, 102, 48, 48]⟩ : ByteArray) := by kernel_rfl
theorem find_6 {f : ByteArray} (b6 : (f.toList == [121, 101, 108, 108, 111, 119]) = true) : fndC f CT = some ⟨#[35, 102, 102, 102, 102, 48, 48]⟩ := by
  have : f = ⟨#[121, 101, 108, 108, 111, 119]⟩ := by
    have h := beq_iff_eq.1 b6
    rw [ByteArray.toList_eq] at h
    exact ByteArray.ext (Array.ext' h)
  subst this
  exact fx_6
theorem fx_7 : fndC (⟨#[112, 117, 114, 112, 108, 101]⟩ : ByteArray) CT = some (⟨#[35, 56, 48, 48, 48, 56, 48]⟩ : ByteArray) := by kernel_rfl
theorem find_7 {f : ByteArray} (b7 : (f.toList == [112, 117, 114, 112, 108, 101]) = true) : fndC f CT = some ⟨#[35, 56, 48, 48, 48, 56, 48]⟩ := by
  have : f = ⟨#[112, 117, 114, 112, 108, 101]⟩ := by
    have h := beq_iff_eq.1 b7
    rw [ByteArray.toList_eq] at h
    exact ByteArray.ext (Array.ext' h)
  subst this
  exact fx_7
theorem rhexC (f : ByteArray) (p : Nat) (hp : p < f.size) (lc : Int) (h : ((f[p]'hp).toNat : Int) = lc) (w : World) : Calls Tryz.prog 40 #[.int .i32 ((f[p]'hp).toNat : Int)] w fun e w' => e = .returned (.int .i64 (hexZ lc)) ∧ w = w' := by
  have hb := (f[p]'hp).toNat_lt
  rw [← h]
  exact refHex_any _ w (by omega)
theorem num_cat2 (x : Int) : strOfNums [x] ++ strOfNums [x] = strOfNums [x, x] := (W.nums_two [x] [x]).symm
set_option maxHeartbeats 2000000 in
theorem rcolor_any (t : T5) (ka : Option Addr) (kn kc : Nat) (hz : t.tx.size ≤ 1000000) (w : World) :
    Calls Tryz.prog 17 #[vA t (.slice ka kn kc)] w fun e w' => e = .returned (res (colorO t)) ∧ Below w.heap.size w w' := by
  obtain ⟨k, tx, un, wh, fl⟩ := t
  have hz : tx.size ≤ 1000000 := hz
  have hB : Below w.heap.size w (w.alloc (.cells #[.int .i64 k, .string tx, .string un, .bool wh, .bool fl, .slice ka kn kc] 32)) := (Below.refl _ w).alloc (Nat.le_refl _) _
  have hX := World.alloc_heap_new w (.cells #[.int .i64 k, .string tx, .string un, .bool wh, .bool fl, .slice ka kn kc] 32)
  have hid : Calls Tryz.prog 33 #[.agg #[.int .i64 k, .string tx, .string un, .bool wh, .bool fl, .slice ka kn kc]] (w.alloc (.cells #[.int .i64 k, .string tx, .string un, .bool wh, .bool fl, .slice ka kn kc] 32)) _ := rident_any ⟨k, tx, un, wh, fl⟩ ka kn kc hz (w.alloc (.cells #[.int .i64 k, .string tx, .string un, .bool wh, .bool fl, .slice ka kn kc] 32))
  have HFO : Hid (∀ w', Calls Tryz.prog 37 #[.string tx] w' fun e w'' => e = .returned (.string (foldS tx)) ∧ Below w'.heap.size w' w'') := fun w' => refFold_any tx w' (by omega)
  have HB := hid_mk hB
  have HX := hid_mk hX
  show Calls Tryz.prog 17 #[.agg #[.int .i64 k, .string tx, .string un, .bool wh, .bool fl, .slice ka kn kc]] w _
  clear hB hX
  by_cases h1 : k = 1
  · have HR : Hid (colorO ⟨k, tx, un, wh, fl⟩ = fndC (foldS tx) CT) := by show _ = _; unfold colorO; rw [if_pos h1]; rfl
    have hi : idS ⟨k, tx, un, wh, fl⟩ = foldS tx := by unfold idS; rw [if_pos h1]
    rw [hi] at hid
    rw [HR.out]
    have k4 : (k != 4) = true := by rw [h1]; rfl
    clear HR hi h1
    generalize foldS tx = f at *
    by_cases e0 : (f.toList == [98, 108, 97, 99, 107]) = true
    · rw [find_0 e0]
      clear HFO 
      go_enter Tryz.func17, Tryz.ntmps17
      go_wp2_with (go_at_call 33; fail)
      refine hid.mono ?_
      rintro e w1 ⟨rfl, hb1⟩
      have hb2 : Below w.heap.size w w1 := HB.out.trans (hb1.mono HB.out.size)
      clear hid hb1
      go_wp2
      go_ret2
      exact ⟨rfl, hb2⟩
    by_cases e1 : (f.toList == [119, 104, 105, 116, 101]) = true
    · rw [find_1 e1]
      have b0 : (f.toList == [98, 108, 97, 99, 107]) = false := by simpa using e0
      clear HFO e0
      go_enter Tryz.func17, Tryz.ntmps17
      go_wp2_with (go_at_call 33; fail)
      refine hid.mono ?_
      rintro e w1 ⟨rfl, hb1⟩
      have hb2 : Below w.heap.size w w1 := HB.out.trans (hb1.mono HB.out.size)
      clear hid hb1
      go_wp2
      go_ret2
      exact ⟨rfl, hb2⟩
    by_cases e2 : (f.toList == [114, 101, 100]) = true
    · rw [find_2 e2]
      have b0 : (f.toList == [98, 108, 97, 99, 107]) = false := by simpa using e0
      have b1 : (f.toList == [119, 104, 105, 116, 101]) = false := by simpa using e1
      clear HFO e0 e1
      go_enter Tryz.func17, Tryz.ntmps17
      go_wp2_with (go_at_call 33; fail)
      refine hid.mono ?_
      rintro e w1 ⟨rfl, hb1⟩
      have hb2 : Below w.heap.size w w1 := HB.out.trans (hb1.mono HB.out.size)
      clear hid hb1
      go_wp2
      go_ret2
      exact ⟨rfl, hb2⟩
    by_cases e3 : (f.toList == [103, 114, 101, 101, 110]) = true
    · rw [find_3 e3]
      have b0 : (f.toList == [98, 108, 97, 99, 107]) = false := by simpa using e0
      have b1 : (f.toList == [119, 104, 105, 116, 101]) = false := by simpa using e1
      have b2 : (f.toList == [114, 101, 100]) = false := by simpa using e2
      clear HFO e0 e1 e2
      go_enter Tryz.func17, Tryz.ntmps17
      go_wp2_with (go_at_call 33; fail)
      refine hid.mono ?_
      rintro e w1 ⟨rfl, hb1⟩
      have hb2 : Below w.heap.size w w1 := HB.out.trans (hb1.mono HB.out.size)
      clear hid hb1
      go_wp2
      go_ret2
      exact ⟨rfl, hb2⟩
    by_cases e4 : (f.toList == [98, 108, 117, 101]) = true
    · rw [find_4 e4]
      have b0 : (f.toList == [98, 108, 97, 99, 107]) = false := by simpa using e0
      have b1 : (f.toList == [119, 104, 105, 116, 101]) = false := by simpa using e1
      have b2 : (f.toList == [114, 101, 100]) = false := by simpa using e2
      have b3 : (f.toList == [103, 114, 101, 101, 110]) = false := by simpa using e3
      clear HFO e0 e1 e2 e3
      go_enter Tryz.func17, Tryz.ntmps17
      go_wp2_with (go_at_call 33; fail)
      refine hid.mono ?_
      rintro e w1 ⟨rfl, hb1⟩
      have hb2 : Below w.heap.size w w1 := HB.out.trans (hb1.mono HB.out.size)
      clear hid hb1
      go_wp2
      go_ret2
      exact ⟨rfl, hb2⟩
    by_cases e5 : (f.toList == [103, 114, 97, 121]) = true
    · rw [find_5 e5]
      have b0 : (f.toList == [98, 108, 97, 99, 107]) = false := by simpa using e0
      have b1 : (f.toList == [119, 104, 105, 116, 101]) = false := by simpa using e1
      have b2 : (f.toList == [114, 101, 100]) = false := by simpa using e2
      have b3 : (f.toList == [103, 114, 101, 101, 110]) = false := by simpa using e3
      have b4 : (f.toList == [98, 108, 117, 101]) = false := by simpa using e4
      clear HFO e0 e1 e2 e3 e4
      go_enter Tryz.func17, Tryz.ntmps17
      go_wp2_with (go_at_call 33; fail)
      refine hid.mono ?_
      rintro e w1 ⟨rfl, hb1⟩
      have hb2 : Below w.heap.size w w1 := HB.out.trans (hb1.mono HB.out.size)
      clear hid hb1
      go_wp2
      go_ret2
      exact ⟨rfl, hb2⟩
    by_cases e6 : (f.toList == [121, 101, 108, 108, 111, 119]) = true
    · rw [find_6 e6]
      have b0 : (f.toList == [98, 108, 97, 99, 107]) = false := by simpa using e0
      have b1 : (f.toList == [119, 104, 105, 116, 101]) = false := by simpa using e1
      have b2 : (f.toList == [114, 101, 100]) = false := by simpa using e2
      have b3 : (f.toList == [103, 114, 101, 101, 110]) = false := by simpa using e3
      have b4 : (f.toList == [98, 108, 117, 101]) = false := by simpa using e4
      have b5 : (f.toList == [103, 114, 97, 121]) = false := by simpa using e5
      clear HFO e0 e1 e2 e3 e4 e5
      go_enter Tryz.func17, Tryz.ntmps17
      go_wp2_with (go_at_call 33; fail)
      refine hid.mono ?_
      rintro e w1 ⟨rfl, hb1⟩
      have hb2 : Below w.heap.size w w1 := HB.out.trans (hb1.mono HB.out.size)
      clear hid hb1
      go_wp2
      go_ret2
      exact ⟨rfl, hb2⟩
    by_cases e7 : (f.toList == [112, 117, 114, 112, 108, 101]) = true
    · rw [find_7 e7]
      have b0 : (f.toList == [98, 108, 97, 99, 107]) = false := by simpa using e0
      have b1 : (f.toList == [119, 104, 105, 116, 101]) = false := by simpa using e1
      have b2 : (f.toList == [114, 101, 100]) = false := by simpa using e2
      have b3 : (f.toList == [103, 114, 101, 101, 110]) = false := by simpa using e3
      have b4 : (f.toList == [98, 108, 117, 101]) = false := by simpa using e4
      have b5 : (f.toList == [103, 114, 97, 121]) = false := by simpa using e5
      have b6 : (f.toList == [121, 101, 108, 108, 111, 119]) = false := by simpa using e6
      clear HFO e0 e1 e2 e3 e4 e5 e6
      go_enter Tryz.func17, Tryz.ntmps17
      go_wp2_with (go_at_call 33; fail)
      refine hid.mono ?_
      rintro e w1 ⟨rfl, hb1⟩
      have hb2 : Below w.heap.size w w1 := HB.out.trans (hb1.mono HB.out.size)
      clear hid hb1
      go_wp2
      go_ret2
      exact ⟨rfl, hb2⟩
    have b0 : (f.toList == [98, 108, 97, 99, 107]) = false := by simpa using e0
    have b1 : (f.toList == [119, 104, 105, 116, 101]) = false := by simpa using e1
    have b2 : (f.toList == [114, 101, 100]) = false := by simpa using e2
    have b3 : (f.toList == [103, 114, 101, 101, 110]) = false := by simpa using e3
    have b4 : (f.toList == [98, 108, 117, 101]) = false := by simpa using e4
    have b5 : (f.toList == [103, 114, 97, 121]) = false := by simpa using e5
    have b6 : (f.toList == [121, 101, 108, 108, 111, 119]) = false := by simpa using e6
    have b7 : (f.toList == [112, 117, 114, 112, 108, 101]) = false := by simpa using e7
    rw [find_none b0 b1 b2 b3 b4 b5 b6 b7]
    clear e0 e1 e2 e3 e4 e5 e6 e7
    go_enter Tryz.func17, Tryz.ntmps17
    go_wp2_with (go_at_call 33; fail)
    refine hid.mono ?_
    rintro e w1 ⟨rfl, hb1⟩
    have hb2 : Below w.heap.size w w1 := HB.out.trans (hb1.mono HB.out.size)
    have hx := (hb1.block w.heap.size (Array.getElem?_eq_some_iff.1 HX.out).1).trans HX.out
    have y0 : w1.cell? ⟨w.heap.size, 0, none⟩ = some (.int .i64 k) := L.cellAt hx 0
    have y1 : w1.cell? ⟨w.heap.size, 1, none⟩ = some (.string tx) := L.cellAt hx 1
    clear hid hb1 hx
    have hfo := HFO.out w1
    go_wp2_with (go_at_call 37; fail)
    refine hfo.mono ?_
    rintro e w2 ⟨rfl, hb3⟩
    have hb4 : Below w.heap.size w w2 := hb2.trans (hb3.mono hb2.size)
    have y2 : w2.cell? ⟨w.heap.size, 0, none⟩ = some (.int .i64 k) := (hb3.cell (p := ⟨w.heap.size, 0, none⟩) (P.lt_of_cell y0)).trans y0
    clear hfo hb3 y0 y1
    go_wp2
    go_ret2
    exact ⟨rfl, hb4⟩
  · have hi : idS ⟨k, tx, un, wh, fl⟩ = ⟨#[]⟩ := by unfold idS; rw [if_neg h1]; rfl
    rw [hi] at hid
    have hem : (⟨#[]⟩ : ByteArray).toList = [] := by rw [ByteArray.toList_eq]
    have b0 : ((⟨#[]⟩ : ByteArray).toList == [98, 108, 97, 99, 107]) = false := by rw [hem]; rfl
    have b1 : ((⟨#[]⟩ : ByteArray).toList == [119, 104, 105, 116, 101]) = false := by rw [hem]; rfl
    have b2 : ((⟨#[]⟩ : ByteArray).toList == [114, 101, 100]) = false := by rw [hem]; rfl
    have b3 : ((⟨#[]⟩ : ByteArray).toList == [103, 114, 101, 101, 110]) = false := by rw [hem]; rfl
    have b4 : ((⟨#[]⟩ : ByteArray).toList == [98, 108, 117, 101]) = false := by rw [hem]; rfl
    have b5 : ((⟨#[]⟩ : ByteArray).toList == [103, 114, 97, 121]) = false := by rw [hem]; rfl
    have b6 : ((⟨#[]⟩ : ByteArray).toList == [121, 101, 108, 108, 111, 119]) = false := by rw [hem]; rfl
    have b7 : ((⟨#[]⟩ : ByteArray).toList == [112, 117, 114, 112, 108, 101]) = false := by rw [hem]; rfl
    clear hi hem
    generalize (⟨#[]⟩ : ByteArray) = f0 at hid b0 b1 b2 b3 b4 b5 b6 b7
    by_cases h4 : k = 4
    · have HR : Hid (colorO ⟨k, tx, un, wh, fl⟩ = dyedO tx) := by show _ = _; unfold colorO; rw [if_neg h1, if_pos h4]
      rw [HR.out]
      have k4 : (k != 4) = false := by rw [h4]; rfl
      clear HR h1 h4
      have hfs : (foldS tx).size = tx.size := foldS_size tx
      have HAT : Hid (∀ p (hp : p < (foldS tx).size), _) := fun p hp => fold_at tx p hp
      have HSZ := hid_mk (W.bytesL_size tx)
      have HBY := hid_mk (W.bytesL_byte tx)
      have HDO : Hid (dyedO tx = if tx.size = 3 then dyeS 2 tx else if tx.size = 6 then dyeS 1 tx else none) := rfl
      have HS2 : Hid (∀ m, dyeS m tx = if (W.bytesL tx).all hexI = true then some (strOfNums (35 :: dyeL m (W.bytesL tx))) else none) := fun m => rfl
      generalize dyedO tx = R at *
      generalize foldS tx = f at *
      generalize hds : W.bytesL tx = ds at *
      have HFS := hid_mk hfs
      clear hds hfs HBY
      go_enter Tryz.func17, Tryz.ntmps17
      go_wp2_with (go_at_call 33; fail)
      refine hid.mono ?_
      rintro e w1 ⟨rfl, hb1⟩
      have hb2 : Below w.heap.size w w1 := HB.out.trans (hb1.mono HB.out.size)
      have hx := (hb1.block w.heap.size (Array.getElem?_eq_some_iff.1 HX.out).1).trans HX.out
      have y0 : w1.cell? ⟨w.heap.size, 0, none⟩ = some (.int .i64 k) := L.cellAt hx 0
      have y1 : w1.cell? ⟨w.heap.size, 1, none⟩ = some (.string tx) := L.cellAt hx 1
      clear hid hb1 hx
      have hfo := HFO.out w1
      clear HFO
      go_wp2_with (go_at_call 37; fail)
      refine hfo.mono ?_
      rintro e w2 ⟨rfl, hb3⟩
      have hb4 : Below w.heap.size w w2 := hb2.trans (hb3.mono hb2.size)
      have y2 : w2.cell? ⟨w.heap.size, 0, none⟩ = some (.int .i64 k) := (hb3.cell (p := ⟨w.heap.size, 0, none⟩) (P.lt_of_cell y0)).trans y0
      clear hfo hb3 y0 y1 b0 b1 b2 b3 b4 b5 b6 b7 HX HB hb2
      have H35 : ∀ m, Hid ((⟨#[35]⟩ : ByteArray) = strOfNums (35 :: dyeL m (ds.take 0))) := fun m => rfl
      by_cases h3 : tx.size = 3
      · have HR : Hid (R = if ds.all hexI = true then some (strOfNums (35 :: dyeL 2 ds)) else none) := by show _ = _; rw [HDO.out, if_pos h3, HS2.out]
        have hn : f.size = 3 := HFS.out.trans h3
        have q3 : ((f.size : Int) != 3) = false := by rw [hn]; rfl
        have q6 : ((f.size : Int) != 6) = true := by rw [hn]; rfl
        have q33 : ((f.size : Int) == 3) = true := by rw [hn]; rfl
        have HLN : Hid (ds.length = 3) := by show _ = _; rw [HSZ.out, ← HFS.out]; exact hn
        have HNN := hid_mk hn
        clear HDO HS2 HSZ hn h3
        go_wp2
        go_loopw [5, 6] (fun a5 a6 wr => ∃ p : Nat, a6 = .int .i64 (p : Int) ∧ a5 = .string (strOfNums (35 :: dyeL 2 (ds.take p))) ∧ p ≤ 3 ∧ Hid ((ds.take p).all hexI = true) ∧ Hid (Below w.heap.size w wr)) (fun _ a6 _ => 4 - (intOf a6).toNat)
        case atStart => exact ⟨0, rfl, by rw [← (H35 2).out], Nat.zero_le _, rfl, hb4⟩
        case round =>
          obtain ⟨p, rfl, rfl, hp, HDG, HBR⟩ := hrel
          clear H35 y2 hb4
          by_cases hlt : p < 3
          · have hpf : p < f.size := by rw [HNN.out]; exact hlt
            have hpi : (p : Int) < (f.size : Int) := by omega
            have hdlt : decide ((p : Int) < (f.size : Int)) = true := decide_eq_true hpi
            have hp0 : (0 : Int) ≤ (p : Int) := by omega
            have hp1 : (p : Int) + 1 ≤ (f.size : Int) := by omega
            have hp2 : (p : Int) ≤ (p : Int) + 1 := by omega
            obtain ⟨t1, t2, t3⟩ := HAT.out p hpf
            have hlt' : p < ds.length := by rw [HLN.out]; exact hlt
            have HTK : Hid (ds.take (p + 1) = ds.take p ++ [ds.getD p 0]) := by
              show _ = _
              rw [List.take_add_one]
              simp [List.getD, hlt']
            have HMEM : Hid (ds.getD p 0 ∈ ds) := by
              show _ ∈ _
              simp [List.getD, hlt']
            have hsz2 : (strOfNums (35 :: dyeL 2 (ds.take p))).size ≤ 100 := by
              rw [W.strOf_size, List.length_cons, dye_len, List.length_take]
              omega
            have hsz3 : (f.extract p (p + 1)).size ≤ 1 := by rw [t2, W.strOf_size]; simp
            have hbb := f[p].toNat_lt
            cases hc : hexI (ds.getD p 0) with
            | true =>
              have hge : decide (hexZ (lowZ (ds.getD p 0)) < 0) = false := decide_eq_false (by have := of_decide_eq_true (t3.trans hc); omega)
              have HS : Hid (strOfNums (35 :: dyeL 2 (ds.take (p + 1))) = strOfNums (35 :: dyeL 2 (ds.take p)) ++ strOfNums (List.replicate 2 (lowZ (ds.getD p 0)))) := by
                show _ = _
                rw [HTK.out, dye_snoc, ← W.nums_two]
                rfl
              have HD2 : Hid ((ds.take (p + 1)).all hexI = true) := by
                show _ = _
                rw [HTK.out, List.all_append, HDG.out]
                simp only [List.all_cons, List.all_nil, Bool.true_and, Bool.and_true]
                exact hc
              have HEX : Hid (f.extract p (p + 1) = strOfNums [lowZ (ds.getD p 0)]) := t2
              have hcall := fun w' => rhexC f p hpf (lowZ (ds.getD p 0)) t1 w'
              have hcall2 := fun w' => refHex_any (lowZ (ds.getD p 0)) w' (by omega)
              generalize hexZ (lowZ (ds.getD p 0)) = hx at *
              clear t2 t3 HAT HTK HMEM hc
              generalize hos : strOfNums (35 :: dyeL 2 (ds.take p)) = os at *
              generalize lowZ (ds.getD p 0) = lc at *
              clear hos
              have hsz4 : (os ++ f.extract p (p + 1)).size ≤ 200 := by rw [ByteArray.size_append]; omega
              go_wp2_with (go_at_call 40; fail)
              first | with_reducible refine (hcall _).mono ?_ | with_reducible refine (hcall2 _).mono ?_
              rintro e w' ⟨rfl, rfl⟩
              clear hcall hcall2
              go_wp2
              go_roundw
              case rel =>
                refine ⟨p + 1, by go_num, ?_, by omega, HD2, HBR⟩
                refine congrArg Value.string ?_
                rw [HS.out]
                show _ = os ++ strOfNums [lc, lc]
                rw [HEX.out]
                rw [ByteArray.append_assoc, num_cat2]
              case measure => simp [intOf]; omega
            | false =>
              have hge : decide (hexZ (lowZ (ds.getD p 0)) < 0) = true := decide_eq_true (hexI_no (t3.trans hc))
              have HNO : Hid (R = none) := by
                show _ = _
                rw [HR.out, if_neg]
                intro h
                have := List.all_eq_true.1 h _ HMEM.out
                rw [hc] at this
                cases this
              have hcall := fun w' => rhexC f p hpf (lowZ (ds.getD p 0)) t1 w'
              have hcall2 := fun w' => refHex_any (lowZ (ds.getD p 0)) w' (by omega)
              generalize hexZ (lowZ (ds.getD p 0)) = hx at *
              clear t2 t3 HAT HTK HMEM hc
              generalize strOfNums (35 :: dyeL 2 (ds.take p)) = os at *
              generalize lowZ (ds.getD p 0) = lc at *
              go_wp2_with (go_at_call 40; fail)
              first | with_reducible refine (hcall _).mono ?_ | with_reducible refine (hcall2 _).mono ?_
              rintro e w' ⟨rfl, rfl⟩
              clear hcall hcall2
              go_wp2
              go_ret2
              exact ⟨by rw [HNO.out]; rfl, HBR.out⟩
          · have hpe : p = 3 := by omega
            have hdlt : decide ((p : Int) < (f.size : Int)) = false := decide_eq_false (by have := HNN.out; omega)
            have hpi : ¬ (p : Int) < (f.size : Int) := by have := HNN.out; omega
            have HDD : Hid (R = some (strOfNums (35 :: dyeL 2 (ds.take p)))) := by
              show _ = _
              have e : ds.take p = ds := List.take_of_length_le (by rw [HLN.out]; omega)
              have h1 := HDG.out
              rw [e] at h1 ⊢
              rw [HR.out, if_pos h1]
            generalize strOfNums (35 :: dyeL 2 (ds.take p)) = os at *
            clear HAT hpe
            go_wp2
            go_ret2
            exact ⟨by rw [HDD.out]; rfl, HBR.out⟩
      · by_cases h6 : tx.size = 6
        · have HR : Hid (R = if ds.all hexI = true then some (strOfNums (35 :: dyeL 1 ds)) else none) := by show _ = _; rw [HDO.out, if_neg h3, if_pos h6, HS2.out]
          have hn : f.size = 6 := HFS.out.trans h6
          have q3 : ((f.size : Int) != 3) = true := by rw [hn]; rfl
          have q6 : ((f.size : Int) != 6) = false := by rw [hn]; rfl
          have q33 : ((f.size : Int) == 3) = false := by rw [hn]; rfl
          have HLN : Hid (ds.length = 6) := by show _ = _; rw [HSZ.out, ← HFS.out]; exact hn
          have HNN := hid_mk hn
          clear HDO HS2 HSZ hn h3 h6
          go_wp2
          go_loopw [5, 6] (fun a5 a6 wr => ∃ p : Nat, a6 = .int .i64 (p : Int) ∧ a5 = .string (strOfNums (35 :: dyeL 1 (ds.take p))) ∧ p ≤ 6 ∧ Hid ((ds.take p).all hexI = true) ∧ Hid (Below w.heap.size w wr)) (fun _ a6 _ => 7 - (intOf a6).toNat)
          case atStart => exact ⟨0, rfl, by rw [← (H35 1).out], Nat.zero_le _, rfl, hb4⟩
          case round =>
            obtain ⟨p, rfl, rfl, hp, HDG, HBR⟩ := hrel
            clear H35 y2 hb4
            by_cases hlt : p < 6
            · have hpf : p < f.size := by rw [HNN.out]; exact hlt
              have hpi : (p : Int) < (f.size : Int) := by omega
              have hdlt : decide ((p : Int) < (f.size : Int)) = true := decide_eq_true hpi
              have hp0 : (0 : Int) ≤ (p : Int) := by omega
              have hp1 : (p : Int) + 1 ≤ (f.size : Int) := by omega
              have hp2 : (p : Int) ≤ (p : Int) + 1 := by omega
              obtain ⟨t1, t2, t3⟩ := HAT.out p hpf
              have hlt' : p < ds.length := by rw [HLN.out]; exact hlt
              have HTK : Hid (ds.take (p + 1) = ds.take p ++ [ds.getD p 0]) := by
                show _ = _
                rw [List.take_add_one]
                simp [List.getD, hlt']
              have HMEM : Hid (ds.getD p 0 ∈ ds) := by
                show _ ∈ _
                simp [List.getD, hlt']
              have hsz2 : (strOfNums (35 :: dyeL 1 (ds.take p))).size ≤ 100 := by
                rw [W.strOf_size, List.length_cons, dye_len, List.length_take]
                omega
              have hsz3 : (f.extract p (p + 1)).size ≤ 1 := by rw [t2, W.strOf_size]; simp
              have hbb := f[p].toNat_lt
              cases hc : hexI (ds.getD p 0) with
              | true =>
                have hge : decide (hexZ (lowZ (ds.getD p 0)) < 0) = false := decide_eq_false (by have := of_decide_eq_true (t3.trans hc); omega)
                have HS : Hid (strOfNums (35 :: dyeL 1 (ds.take (p + 1))) = strOfNums (35 :: dyeL 1 (ds.take p)) ++ strOfNums (List.replicate 1 (lowZ (ds.getD p 0)))) := by
                  show _ = _
                  rw [HTK.out, dye_snoc, ← W.nums_two]
                  rfl
                have HD2 : Hid ((ds.take (p + 1)).all hexI = true) := by
                  show _ = _
                  rw [HTK.out, List.all_append, HDG.out]
                  simp only [List.all_cons, List.all_nil, Bool.true_and, Bool.and_true]
                  exact hc
                have HEX : Hid (f.extract p (p + 1) = strOfNums [lowZ (ds.getD p 0)]) := t2
                have hcall := fun w' => rhexC f p hpf (lowZ (ds.getD p 0)) t1 w'
                have hcall2 := fun w' => refHex_any (lowZ (ds.getD p 0)) w' (by omega)
                generalize hexZ (lowZ (ds.getD p 0)) = hx at *
                clear t2 t3 HAT HTK HMEM hc
                generalize hos : strOfNums (35 :: dyeL 1 (ds.take p)) = os at *
                generalize lowZ (ds.getD p 0) = lc at *
                clear hos
                have hsz4 : (os ++ f.extract p (p + 1)).size ≤ 200 := by rw [ByteArray.size_append]; omega
                go_wp2_with (go_at_call 40; fail)
                first | with_reducible refine (hcall _).mono ?_ | with_reducible refine (hcall2 _).mono ?_
                rintro e w' ⟨rfl, rfl⟩
                clear hcall hcall2
                go_wp2
                go_roundw
                case rel =>
                  refine ⟨p + 1, by go_num, ?_, by omega, HD2, HBR⟩
                  refine congrArg Value.string ?_
                  rw [HS.out]
                  show _ = os ++ strOfNums [lc]
                  rw [HEX.out]
                  skip
                case measure => simp [intOf]; omega
              | false =>
                have hge : decide (hexZ (lowZ (ds.getD p 0)) < 0) = true := decide_eq_true (hexI_no (t3.trans hc))
                have HNO : Hid (R = none) := by
                  show _ = _
                  rw [HR.out, if_neg]
                  intro h
                  have := List.all_eq_true.1 h _ HMEM.out
                  rw [hc] at this
                  cases this
                have hcall := fun w' => rhexC f p hpf (lowZ (ds.getD p 0)) t1 w'
                have hcall2 := fun w' => refHex_any (lowZ (ds.getD p 0)) w' (by omega)
                generalize hexZ (lowZ (ds.getD p 0)) = hx at *
                clear t2 t3 HAT HTK HMEM hc
                generalize strOfNums (35 :: dyeL 1 (ds.take p)) = os at *
                generalize lowZ (ds.getD p 0) = lc at *
                go_wp2_with (go_at_call 40; fail)
                first | with_reducible refine (hcall _).mono ?_ | with_reducible refine (hcall2 _).mono ?_
                rintro e w' ⟨rfl, rfl⟩
                clear hcall hcall2
                go_wp2
                go_ret2
                exact ⟨by rw [HNO.out]; rfl, HBR.out⟩
            · have hpe : p = 6 := by omega
              have hdlt : decide ((p : Int) < (f.size : Int)) = false := decide_eq_false (by have := HNN.out; omega)
              have hpi : ¬ (p : Int) < (f.size : Int) := by have := HNN.out; omega
              have HDD : Hid (R = some (strOfNums (35 :: dyeL 1 (ds.take p)))) := by
                show _ = _
                have e : ds.take p = ds := List.take_of_length_le (by rw [HLN.out]; omega)
                have h1 := HDG.out
                rw [e] at h1 ⊢
                rw [HR.out, if_pos h1]
              generalize strOfNums (35 :: dyeL 1 (ds.take p)) = os at *
              clear HAT hpe
              go_wp2
              go_ret2
              exact ⟨by rw [HDD.out]; rfl, HBR.out⟩
        · have HN : Hid (R = none) := by show _ = _; rw [HDO.out, if_neg h3, if_neg h6]
          have q3 : ((f.size : Int) != 3) = true := by simpa using (by have := HFS.out; omega : (f.size : Int) ≠ 3)
          have q6 : ((f.size : Int) != 6) = true := by simpa using (by have := HFS.out; omega : (f.size : Int) ≠ 6)
          clear HDO HS2 HAT
          go_wp2
          go_ret2
          exact ⟨by rw [HN.out]; rfl, hb4⟩
    · have HR : Hid (colorO ⟨k, tx, un, wh, fl⟩ = none) := by show _ = _; unfold colorO; rw [if_neg h1, if_neg h4]
      rw [HR.out]
      have k4 : (k != 4) = true := by simpa using h4
      clear HR h1 h4
      go_enter Tryz.func17, Tryz.ntmps17
      go_wp2_with (go_at_call 33; fail)
      refine hid.mono ?_
      rintro e w1 ⟨rfl, hb1⟩
      have hb2 : Below w.heap.size w w1 := HB.out.trans (hb1.mono HB.out.size)
      have hx := (hb1.block w.heap.size (Array.getElem?_eq_some_iff.1 HX.out).1).trans HX.out
      have y0 : w1.cell? ⟨w.heap.size, 0, none⟩ = some (.int .i64 k) := L.cellAt hx 0
      have y1 : w1.cell? ⟨w.heap.size, 1, none⟩ = some (.string tx) := L.cellAt hx 1
      clear hid hb1 hx
      have hfo := HFO.out w1
      go_wp2_with (go_at_call 37; fail)
      refine hfo.mono ?_
      rintro e w2 ⟨rfl, hb3⟩
      have hb4 : Below w.heap.size w w2 := hb2.trans (hb3.mono hb2.size)
      have y2 : w2.cell? ⟨w.heap.size, 0, none⟩ = some (.int .i64 k) := (hb3.cell (p := ⟨w.heap.size, 0, none⟩) (P.lt_of_cell y0)).trans y0
      clear hfo hb3 y0 y1
      go_wp2
      go_ret2
      exact ⟨rfl, hb4⟩
end Go.Proofs.YtfgnlgkpgihbmaaGreatDoor.Z
