/- The document's examples of layer 14. -/
import Derived.Test.YtaoodkpbhehdgaaPLg
namespace Go.Proofs.Ytaoodkpbhehdgaa
open Go.RowKit
set_option maxRecDepth 100000

theorem ex_color : plc (⟨#[99, 111, 108, 111, 114]⟩ : ByteArray) = 38 ∧ prc (⟨#[99, 111, 108, 111, 114]⟩ : ByteArray) = ⟨(⟨#[99, 111, 108, 111, 114]⟩ : ByteArray), (⟨#[35, 48, 48, 48, 48, 48, 48]⟩ : ByteArray), true, (⟨#[60, 99, 111, 108, 111, 114, 62]⟩ : ByteArray)⟩ := ⟨by kernel_rfl, by kernel_rfl⟩
theorem ex_position : plc (⟨#[112, 111, 115, 105, 116, 105, 111, 110]⟩ : ByteArray) = 1 := by kernel_rfl
theorem ex_overflow : lgs (⟨#[111, 118, 101, 114, 102, 108, 111, 119]⟩ : ByteArray) = LO := by kernel_rfl
set_option maxHeartbeats 2000000 in
theorem lives_any (w : World) : Calls Try.prog 9 #[] w fun e w' => e = .returned (.bool true) ∧ Below w.heap.size w w' := by
  have hf := find_any (⟨#[99, 111, 108, 111, 114]⟩ : ByteArray) w
  rw [ex_color.1, ex_color.2] at hf
  have hlo := longs_any (⟨#[111, 118, 101, 114, 102, 108, 111, 119]⟩ : ByteArray)
  rw [ex_overflow] at hlo
  have hpl := place_any (⟨#[112, 111, 115, 105, 116, 105, 111, 110]⟩ : ByteArray)
  rw [ex_position] at hpl
  have HLO := hid_mk hlo
  have HPL := hid_mk hpl
  have HLL := hid_mk StrAt.lit
  clear hlo hpl
  go_enter Try.func9, Try.ntmps9
  go_wp2_with (go_at_call 6; fail)
  refine hf.mono ?_
  rintro e w1 ⟨rfl, hb1⟩
  have hX := Bx.new w1 28 #[.string (⟨#[99, 111, 108, 111, 114]⟩ : ByteArray), .string (⟨#[35, 48, 48, 48, 48, 48, 48]⟩ : ByteArray), .bool true, .string (⟨#[60, 99, 111, 108, 111, 114, 62]⟩ : ByteArray)]
  have hB := hb1.alloc hb1.size (.cells #[.string (⟨#[99, 111, 108, 111, 114]⟩ : ByteArray), .string (⟨#[35, 48, 48, 48, 48, 48, 48]⟩ : ByteArray), .bool true, .string (⟨#[60, 99, 111, 108, 111, 114, 62]⟩ : ByteArray)] 28)
  have q1 : (w1.alloc (.cells #[.string (⟨#[99, 111, 108, 111, 114]⟩ : ByteArray), .string (⟨#[35, 48, 48, 48, 48, 48, 48]⟩ : ByteArray), .bool true, .string (⟨#[60, 99, 111, 108, 111, 114, 62]⟩ : ByteArray)] 28)).cell? ⟨w1.heap.size, 1, none⟩ = some (.string (⟨#[35, 48, 48, 48, 48, 48, 48]⟩ : ByteArray)) := hX.cell 1 _ rfl
  have q2 : (w1.alloc (.cells #[.string (⟨#[99, 111, 108, 111, 114]⟩ : ByteArray), .string (⟨#[35, 48, 48, 48, 48, 48, 48]⟩ : ByteArray), .bool true, .string (⟨#[60, 99, 111, 108, 111, 114, 62]⟩ : ByteArray)] 28)).cell? ⟨w1.heap.size, 2, none⟩ = some (.bool true) := hX.cell 2 _ rfl
  clear hf hb1 hX
  go_upto_region 2 with fail
  generalize w1.alloc (.cells #[.string (⟨#[99, 111, 108, 111, 114]⟩ : ByteArray), .string (⟨#[35, 48, 48, 48, 48, 48, 48]⟩ : ByteArray), .bool true, .string (⟨#[60, 99, 111, 108, 111, 114, 62]⟩ : ByteArray)] 28) = w2 at *
  have hlo := HLO.out w2
  have HB := hid_mk hB
  clear hB
  go_wp2_with (go_at_call 8; fail)
  refine hlo.mono ?_
  rintro e w3 ⟨⟨a, n, c, rfl, hn, hS⟩, hb3⟩
  have HB3 : Hid (Below w.heap.size w w3) := HB.out.trans (hb3.mono HB.out.size)
  have hB4 : Below w3.heap.size w3 (w3.alloc (.cells (LO.map Value.string).toArray 9)) := (Below.refl _ w3).alloc (Nat.le_refl _) _
  have htx := texts_yes (hS.keep hB4) (HLL.out w3 LO (by decide))
  have HB4 : Hid (Below w.heap.size w (w3.alloc (.cells (LO.map Value.string).toArray 9))) := HB3.out.trans (hB4.mono HB3.out.size)
  clear hlo hb3 hn hS hB4 q1 q2
  go_wp2_with (go_at_call 14; fail)
  refine htx.mono ?_
  rintro e w5 ⟨rfl, hb5⟩
  have HB5 : Hid (Below w.heap.size w w5) := HB4.out.trans (hb5.mono HB4.out.size)
  have hpl := HPL.out w5
  clear htx hb5
  go_wp2_with (go_at_call 7; fail)
  refine hpl.mono ?_
  rintro e w6 ⟨rfl, hb6⟩
  have HB6 : Hid (Below w.heap.size w w6) := HB5.out.trans (hb6.mono HB5.out.size)
  clear hpl hb6
  go_wp2
  go_ret
  exact ⟨rfl, HB6.out⟩
/-- A later world. -/
theorem later {w w' w'' : World} (h : Below w.heap.size w w') (h' : Below w'.heap.size w' w'') : Below w.heap.size w w'' := h.trans (h'.mono h.size)
end Go.Proofs.Ytaoodkpbhehdgaa
