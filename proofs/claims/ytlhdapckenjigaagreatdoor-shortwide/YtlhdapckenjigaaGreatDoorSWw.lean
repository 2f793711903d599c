/- gouachelaw16.ShortWide: the walk. -/
import Derived.Test.YtlhdapckenjigaaGreatDoorSLv
namespace Go.Proofs.YtlhdapckenjigaaGreatDoor.S
open Go.RowKit
open Go.Proofs.YtlhdapckenjigaaGreatDoor.L (T5 V VsAt t5Cells vCells cell_of_heap hid_mk cellAt set_at)
open Go.Proofs.YtlhdapckenjigaaGreatDoor.P (Bx StrAt)
open Go.Proofs.YtlhdapckenjigaaGreatDoor.Z (valsS okS okS_out vals_ok)
set_option maxRecDepth 100000

def tU : ByteArray := ⟨#[85, 110, 115, 101, 116]⟩
def tu : ByteArray := ⟨#[117, 110, 115, 101, 116]⟩
def tUU : ByteArray := ⟨#[117, 110, 115, 101, 116, 32, 117, 110, 115, 101, 116]⟩
theorem okU : okS tU = true := by kernel_rfl
theorem okUU : okS tUU = true := by kernel_rfl
theorem wide_at (name : ByteArray) (h : name ∈ P.shs) (imp : Bool) : expO name (valsS tU) imp = (P.lgs name).map (fun n => ⟨n, tu, imp⟩) ∧ expO name (valsS tUU) false = [] ∧ expO name [] false = [] := by
  unfold P.shs at h
  simp only [List.mem_cons, List.not_mem_nil, or_false] at h
  cases imp <;> rcases h with rfl | rfl | rfl | rfl | rfl | rfl <;> exact ⟨by kernel_rfl, by kernel_rfl, by kernel_rfl⟩
theorem exp_nil (name : ByteArray) (W : World) (hok : Okk W) (hR : expO name [] false = []) : Calls Tryz.prog 11 #[.agg #[.string name, .slice none 0 0, .bool false]] W fun e w' => ∃ a c, e = .returned (.slice a 0 c) ∧ Below W.heap.size W w' := by
  refine (expand_any (P0 := fun _ => True) (vs := []) name false (VsAt.nil _ W) (.mk _ (by simp) (fun y hy => by simp at hy)) (fun y hy => by simp at hy) hok.ok hok.sid).mono ?_
  rintro e w' ⟨a, n, c, rfl, hn, _, hb⟩
  rw [hR] at hn
  exact ⟨a, c, by rw [hn]; rfl, hb⟩
theorem vals_sl {s : ByteArray} (h : okS s = true) (W : World) : Calls Tryz.prog 21 #[.string s] W fun e w' => ∃ a n c, e = .returned (.slice a n c) ∧ VsAt (fun _ => True) w' (.slice a n c) (valsS s) ∧ Below W.heap.size W w' := (vals_ok h W).mono fun e w'' h => by
  obtain ⟨u, h1, h2, h3⟩ := h
  obtain ⟨a, c, hu, _, _⟩ := h2.slice
  rw [hu] at h1 h2
  exact ⟨a, _, c, h1, h2, h3⟩
set_option maxHeartbeats 4000000 in
theorem wide_walk (i : Int) (imp : Bool) (h0 : 0 ≤ i) (h1 : i ≤ 18446744073709551615) (w : World) (hok : Okk w) : Calls Tryz.prog 6 #[.int .u64 i, .bool imp] w fun e w' => e = .returned (.bool true) ∧ Below w.heap.size w w' := by
  have hsh := P.shorts_any w
  obtain ⟨k, hk, hk6⟩ : ∃ k : Nat, i % 6 = (k : Int) ∧ k < 6 := ⟨(i % 6).toNat, by omega, by omega⟩
  obtain ⟨name, hnm⟩ : ∃ name, P.shs[k]? = some name := ⟨_, List.getElem?_eq_getElem (show k < P.shs.length from hk6)⟩
  obtain ⟨e1, e2, e3⟩ := wide_at name (List.mem_of_getElem? hnm) imp
  have HV : Hid (∀ W, Below w.heap.size w W → Calls Tryz.prog 21 #[.string tU] W fun e w' => ∃ a n c, e = .returned (.slice a n c) ∧ VsAt (fun _ => True) w' (.slice a n c) (valsS tU) ∧ Below W.heap.size W w') := fun W hb => vals_sl okU W
  have HX : Hid (∀ W v, Below w.heap.size w W → VsAt (fun _ => True) W v (valsS tU) → Calls Tryz.prog 11 #[.agg #[.string name, v, .bool imp]] W fun e w' => ∃ a n c, e = .returned (.slice a n c) ∧ n = ((P.lgs name).map (fun n => (⟨n, tu, imp⟩ : Lg))).length ∧ LgAt 43 w' (.slice a n c) ((P.lgs name).map (fun n => ⟨n, tu, imp⟩)) ∧ Below W.heap.size W w') := fun W v hb hv => exp_ok okU e1 hv (hok.keep hb)
  have HL : Hid (∀ W, Calls Tryz.prog 20 #[.string name] W fun e w' => (∃ a n c, e = .returned (.slice a n c) ∧ n = (P.lgs name).length ∧ StrAt w' (.slice a n c) (P.lgs name)) ∧ Below W.heap.size W w') := fun W => P.longs_any name W
  have HV2 : Hid (∀ W, Below w.heap.size w W → Calls Tryz.prog 21 #[.string tUU] W fun e w' => ∃ a n c, e = .returned (.slice a n c) ∧ VsAt (fun _ => True) w' (.slice a n c) (valsS tUU) ∧ Below W.heap.size W w') := fun W hb => vals_sl okUU W
  have HX2 : Hid (∀ W v, Below w.heap.size w W → VsAt (fun _ => True) W v (valsS tUU) → Calls Tryz.prog 11 #[.agg #[.string name, v, .bool false]] W fun e w' => ∃ a c, e = .returned (.slice a 0 c) ∧ Below W.heap.size W w') := fun W v hb hv => (exp_ok okUU e2 hv (hok.keep hb)).mono fun e w' h => by
    obtain ⟨a, n, c, h1, h2, _, h4⟩ := h
    exact ⟨a, c, by rw [h1, h2]; rfl, h4⟩
  have HX3 : Hid (∀ W, Below w.heap.size w W → Calls Tryz.prog 11 #[.agg #[.string name, .slice none 0 0, .bool false]] W fun e w' => ∃ a c, e = .returned (.slice a 0 c) ∧ Below W.heap.size W w') := fun W hb => exp_nil name W (hok.keep hb) e3
  have HLV : Hid (∀ W, Below w.heap.size w W → Calls Tryz.prog 8 #[] W fun e w' => e = .returned (.bool true) ∧ Below W.heap.size W w') := fun W hb => lives_any W (hok.keep hb)
  have HNM := hid_mk hnm
  have HLM : Hid (((P.lgs name).map (fun n => (⟨n, tu, imp⟩ : Lg))).length = (P.lgs name).length) := List.length_map ..
  generalize valsS tU = vU at *
  generalize valsS tUU = vUU at *
  generalize P.lgs name = N at *
  unfold tU tUU at *
  have hki : (k : Int) < 6 := by omega
  have hk0 : (0 : Int) ≤ (k : Int) := by omega
  have hkd : decide ((k : Int) < 6) = true := decide_eq_true hki
  clear hok hnm e1 e2 e3
  go_enter Tryz.func6, Tryz.ntmps6
  go_wp2_with (go_at_call 22; fail)
  refine hsh.mono ?_
  rintro e w1 ⟨⟨sa, sc, rfl, hst⟩, hb1⟩
  obtain ⟨sa', sc', es, q1, q2, q3⟩ := hst.form
  cases es
  obtain ⟨sg, rfl, hcs⟩ := q3 (by decide)
  have r1 := hcs k name HNM.out
  have HB1 := hid_mk hb1
  have hv := HV.out w1 hb1
  have hsc : 6 ≤ sc := q1
  clear hsh hst hcs q3 q1 hb1 HV HNM
  go_wp2_with (go_at_call 21; fail)
  refine hv.mono ?_
  rintro e w2 ⟨ua, un, uc, rfl, hu, hb2⟩
  have HB2 : Hid (Below w.heap.size w w2) := HB1.out.trans (hb2.mono HB1.out.size)
  have hx := HX.out w2 _ HB2.out hu
  clear hv hb2 HB1 HX hu r1
  go_wp2_with (go_at_call 11; fail)
  refine hx.mono ?_
  rintro e w3 ⟨la, ln, lc, rfl, hln, hlg, hb3⟩
  have HB3 : Hid (Below w.heap.size w w3) := HB2.out.trans (hb3.mono HB2.out.size)
  have hl := HL.out w3
  rw [HLM.out] at hln
  subst hln
  have HLG := hid_mk hlg
  clear hx hb3 HB2 HL hlg
  go_wp2_with (go_at_call 20; fail)
  refine hl.mono ?_
  rintro e w4 ⟨⟨na, nn, nc, rfl, hnn, _⟩, hb4⟩
  subst hnn
  have HB4 : Hid (Below w.heap.size w w4) := HB3.out.trans (hb4.mono HB3.out.size)
  have HLG4 := hid_mk (HLG.out.keep hb4)
  obtain ⟨la', lc', el, p1, p2, p3⟩ := HLG4.out.form
  rw [HLM.out] at el p1 p3
  cases el
  have HC := hid_mk p3
  generalize hNl : N.length = n at *
  have HNl := hid_mk hNl
  have hnq : ((n : Int) != (n : Int)) = false := by simp
  clear hl hb4 HB3 HLG HLG4 p3 hNl
  go_wp2
  go_loopw [35] (fun a35 wr => ∃ j : Nat, j ≤ n ∧ a35 = .int .i64 (j : Int) ∧ Hid (Below w4.heap.size w4 wr)) (fun a35 _ => n + 1 - (intOf a35).toNat)
  case atStart => exact ⟨0, Nat.zero_le _, rfl, Below.refl _ _⟩
  case round =>
    obtain ⟨j, hj, rfl, HJ⟩ := hrel
    by_cases hlt : j < n
    · have hd : decide ((j : Int) < (n : Int)) = true := decide_eq_true (by omega)
      obtain ⟨g, ea, hcell⟩ := HC.out (by omega)
      subst ea
      obtain ⟨nm, hnm⟩ : ∃ nm, N[j]? = some nm := ⟨_, List.getElem?_eq_getElem (by rw [HNl.out]; exact hlt)⟩
      obtain ⟨k0, k1, k2⟩ := hcell j ⟨nm, tu, imp⟩ (by rw [List.getElem?_map, hnm]; rfl)
      have j0 := (HJ.out.cell (p := ⟨g, j * 3, none⟩) (P.lt_of_cell k0)).trans k0
      have j1 := (HJ.out.cell (p := ⟨g, j * 3 + 1, none⟩) (P.lt_of_cell k1)).trans k1
      have j2 := (HJ.out.cell (p := ⟨g, j * 3 + 2, none⟩) (P.lt_of_cell k2)).trans k2
      simp only at j0 j1 j2
      unfold tu at j1
      have hbb : (imp == imp) = true := by simp
      have HN : Hid (Below w4.heap.size w4 (wr.alloc (.cells #[.string nm, .string ⟨#[117, 110, 115, 101, 116]⟩, .bool imp] 43))) := HJ.out.alloc HJ.out.size _
      clear k0 k1 k2 hcell hnm
      go_wp2
      refine ⟨⟨j + 1, by omega, rfl, HN.out⟩, ?_⟩
      simp only [intOf]
      omega
    · have hd : decide ((j : Int) < (n : Int)) = false := decide_eq_false (by omega)
      have HB5 : Hid (Below w.heap.size w wr) := HB4.out.trans (HJ.out.mono HB4.out.size)
      have hv2 := HV2.out wr HB5.out
      clear HC HJ HB4
      go_wp2_with (go_at_call 21; fail)
      refine hv2.mono ?_
      rintro e w6 ⟨xa, xn, xc, rfl, hxu, hb6⟩
      have HB6 : Hid (Below w.heap.size w w6) := HB5.out.trans (hb6.mono HB5.out.size)
      have hx2 := HX2.out w6 _ HB6.out hxu
      clear hv2 hxu hb6 HB5 HX2 HV2
      go_wp2_with (go_at_call 11; fail)
      refine hx2.mono ?_
      rintro e w7 ⟨ya, yc, rfl, hb7⟩
      have HB7 : Hid (Below w.heap.size w w7) := HB6.out.trans (hb7.mono HB6.out.size)
      have hx3 := HX3.out w7 HB7.out
      clear hx2 hb7 HB6 HX3
      go_wp2_with (go_at_call 11; fail)
      refine hx3.mono ?_
      rintro e w8 ⟨za, zc, rfl, hb8⟩
      have HB8 : Hid (Below w.heap.size w w8) := HB7.out.trans (hb8.mono HB7.out.size)
      have hlv := HLV.out w8 HB8.out
      clear hx3 hb8 HB7 HLV
      go_wp2_with (go_at_call 8; fail)
      refine hlv.mono ?_
      rintro e w9 ⟨rfl, hb9⟩
      have HB9 : Hid (Below w.heap.size w w9) := HB8.out.trans (hb9.mono HB8.out.size)
      clear hlv hb9 HB8
      go_wp2
      go_ret
      exact ⟨rfl, HB9.out⟩
end Go.Proofs.YtlhdapckenjigaaGreatDoor.S
