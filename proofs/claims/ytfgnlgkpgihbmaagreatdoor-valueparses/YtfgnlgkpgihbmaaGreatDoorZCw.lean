/- gouachelaw15.ValueColors: the walk. -/
import Derived.Test.YtfgnlgkpgihbmaaGreatDoorZBh
import Derived.Test.YtfgnlgkpgihbmaaGreatDoorZGr
namespace Go.Proofs.YtfgnlgkpgihbmaaGreatDoor.Z
open Go.RowKit
open Go.Proofs.YtfgnlgkpgihbmaaGreatDoor.L (T5 V VsAt t5Cells vCells cell_of_heap hid_mk)
set_option maxRecDepth 100000

/-- A digit to base 16. -/
def hxZ (k : Nat) : Int := if k < 10 then 48 + k else 87 + k
def hxT : ByteArray := ⟨#[48, 49, 50, 51, 52, 53, 54, 55, 56, 57, 97, 98, 99, 100, 101, 102]⟩
theorem hxT_at : ∀ m : Fin 16, hxT.extract m.val (m.val + 1) = strOfNums [hxZ m.val] := by decide +kernel
theorem hx_ok : ∀ m : Fin 16, hexI (hxZ m.val) = true ∧ lowZ (hxZ m.val) = hxZ m.val := by decide +kernel
set_option maxHeartbeats 1000000 in
theorem hex_of (n : Int) (h0 : 0 ≤ n) (h1 : n ≤ 18446744073709551615) (w : World) : Calls Tryz.prog 23 #[.int .u64 n] w fun e w' => e = .returned (.string (strOfNums [hxZ (n % 16).toNat])) ∧ w' = w := by
  obtain ⟨k, hk, hk16⟩ : ∃ k : Nat, n % 16 = (k : Int) ∧ k < 16 := ⟨(n % 16).toNat, by omega, by omega⟩
  have hkn : (n % 16).toNat = k := by omega
  rw [hkn]
  have HX := hid_mk (hxT_at ⟨k, hk16⟩)
  have hk0 : (0 : Int) ≤ (k : Int) := by omega
  have hk1 : (k : Int) + 1 ≤ 16 := by omega
  have hk2 : (k : Int) ≤ (k : Int) + 1 := by omega
  go_enter Tryz.func23, Tryz.ntmps23
  go_wp2
  go_ret
  exact ⟨congrArg (fun s => Ending.returned (.string s)) HX.out, rfl⟩
/-- A value that is told in a slice of one. -/
theorem vs_single {P : Nat → Prop} {w : World} {t : T5} {ka : Option Addr} {kc : Nat} {ks : List V} (hk : VsAt P w (.slice ka ks.length kc) ks) : VsAt (fun _ => True) (w.alloc (.cells #[.int .i64 t.k, .string t.tx, .string t.un, .bool t.wh, .bool t.fl, .slice ka ks.length kc] 32)) (.slice (some ⟨w.heap.size, 0, none⟩) 1 1) [V.mk t ks] := by
  have hX := World.alloc_heap_new w (.cells #[.int .i64 t.k, .string t.tx, .string t.un, .bool t.wh, .bool t.fl, .slice ka ks.length kc] 32)
  have hB : Below w.heap.size w (w.alloc (.cells #[.int .i64 t.k, .string t.tx, .string t.un, .bool t.wh, .bool t.fl, .slice ka ks.length kc] 32)) := (Below.refl _ w).alloc (Nat.le_refl _) _
  refine .mk (some ⟨w.heap.size, 0, none⟩) 1 [V.mk t ks] w.heap.size 0 (fun _ => .slice ka ks.length kc) (Nat.le_refl _) (by decide) (fun _ => ⟨rfl, (Array.getElem?_eq_some_iff.1 hX).1, trivial⟩) (fun i h j y hy => ?_) (fun i h => ?_)
  · have hi : i = 0 := by simp at h; omega
    subst hi
    rw [L.cellAt hX]
    simp only [Nat.zero_mul, Nat.zero_add]
    have : (vCells t (.slice ka ks.length kc))[j]? = some y := hy
    unfold vCells at this
    simpa using this
  · have hi : i = 0 := by simp at h; omega
    subst hi
    exact (hk.keep hB).wider fun _ _ _ => trivial
theorem num_cat (l r : List Int) : strOfNums l ++ strOfNums r = strOfNums (l ++ r) := (W.nums_two l r).symm
set_option maxHeartbeats 4000000 in
theorem colors_rest (n : Int) (h0 : 0 ≤ n) (h1 : n ≤ 18446744073709551615) : ∃ sa sb sc : ByteArray, sa.size = 1 ∧ sb.size = 1 ∧ sc.size = 1 ∧ (∀ w, Calls Tryz.prog 23 #[.int .u64 n] w fun e w' => e = .returned (.string sa) ∧ w' = w) ∧ (∀ w, Calls Tryz.prog 23 #[.int .u64 (n / 16)] w fun e w' => e = .returned (.string sb) ∧ w' = w) ∧ (∀ w, Calls Tryz.prog 23 #[.int .u64 (n / 256)] w fun e w' => e = .returned (.string sc) ∧ w' = w) ∧
    okS (⟨#[35]⟩ ++ sa ++ sb ++ sc) = true ∧ okS (⟨#[35]⟩ ++ sa ++ sa ++ sb ++ sb ++ sc ++ sc) = true ∧ parseO colN (valsS (⟨#[35]⟩ ++ sa ++ sb ++ sc)) = some (⟨#[35]⟩ ++ sa ++ sa ++ sb ++ sb ++ sc ++ sc) ∧ parseO colN (valsS (⟨#[35]⟩ ++ sa ++ sa ++ sb ++ sb ++ sc ++ sc)) = some (⟨#[35]⟩ ++ sa ++ sa ++ sb ++ sb ++ sc ++ sc) := by
  have ha := hx_ok ⟨(n % 16).toNat, by omega⟩
  have hb := hx_ok ⟨(n / 16 % 16).toNat, by omega⟩
  have hc := hx_ok ⟨(n / 256 % 16).toNat, by omega⟩
  have ka := hex_of n h0 h1
  have kb := hex_of (n / 16) (by omega) (by omega)
  have kc := hex_of (n / 256) (by omega) (by omega)
  simp only at ha hb hc
  generalize hxZ (n % 16).toNat = a at *
  generalize hxZ (n / 16 % 16).toNat = b at *
  generalize hxZ (n / 256 % 16).toNat = c at *
  have h3 : Hx [a, b, c] := fun x hx => by
    simp at hx
    rcases hx with rfl | rfl | rfl
    · exact ha
    · exact hb
    · exact hc
  have h6 : Hx [a, a, b, b, c, c] := fun x hx => h3 x (by simp at hx ⊢; exact hx)
  have e35 : (⟨#[35]⟩ : ByteArray) = strOfNums [35] := rfl
  refine ⟨strOfNums [a], strOfNums [b], strOfNums [c], by rw [W.strOf_size]; rfl, by rw [W.strOf_size]; rfl, by rw [W.strOf_size]; rfl, ka, kb, kc, ?_⟩
  rw [e35]
  simp only [num_cat, List.cons_append, List.nil_append]
  refine ⟨ok_hx h3 (by simp) (by simp), ok_hx h6 (by simp) (by simp), ?_, ?_⟩
  · rw [vals_hx h3 (by simp), parse_col _ (show (4 : Int) ≠ 13 by decide), color_three h3]
  · rw [vals_hx h6 (by simp), parse_col _ (show (4 : Int) ≠ 13 by decide), color_six h6 (by simp)]
end Go.Proofs.YtfgnlgkpgihbmaaGreatDoor.Z
