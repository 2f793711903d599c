/- The document's Longs. -/
import Derived.Test.YtaoodkpbhehdgaaDoorPLg
namespace Go.Proofs.YtaoodkpbhehdgaaDoor
open Go.RowKit
set_option maxRecDepth 100000

theorem sl_six (s : ByteArray) (h : 6 ≤ s.size) (w : World) : (Instr.slice 9 (.string s) (some (.int .i64 6)) none none).run Tryd.prog w = .ok (.string (s.extract 6 s.size)) w := by
  have h2 : (6 : Int) ≤ (s.size : Int) := by omega
  simp [Instr.slice, run_underlying Tryd.underlying9, Instr.sliceBounds, run_sliceBound, h2]
set_option maxHeartbeats 4000000 in
theorem rlongs_M {name : ByteArray} (h : (name.toList == [109, 97, 114, 103, 105, 110]) = true) (w : World) : Calls Tryd.prog 13 #[.string name] w fun e w' => (∃ a n c, e = .returned (.slice a n c) ∧ n = (lgs name).length ∧ StrAt w' (.slice a n c) (lgs name)) ∧ Below w.heap.size w w' := by
  rw [lgs_M h]
  obtain ⟨i0, hi, hz0, hz1, hz2⟩ := info_parts info9
  have HI0 := hid_mk hi
  have HZ0 := hid_mk hz0
  have HZ1 := hid_mk hz1
  have HZ2 := hid_mk hz2
  clear hi hz0 hz1 hz2
  have HX0 : Hid (Bx (w.alloc (.cells (sides.map Value.string).toArray 9)) w.heap.size 9 (sides.map Value.string).toArray) := Bx.new w _ _
  have HB0 : Hid (Below w.heap.size w (w.alloc (.cells (sides.map Value.string).toArray 9))) := (Below.refl _ w).alloc (Nat.le_refl _) _
  have he : sd (name ++ ⟨#[45]⟩) ⟨#[]⟩ = LM := by rw [str_of h]; kernel_rfl
  have HSD : Hid (∀ k s, sides[k]? = some s → (sd (name ++ ⟨#[45]⟩) ⟨#[]⟩).take (k + 1) = (sd (name ++ ⟨#[45]⟩) ⟨#[]⟩).take k ++ [name ++ ⟨#[45]⟩ ++ s ++ ⟨#[]⟩]) := fun k s h => sd_take h
  rw [he] at HSD
  clear he
  have HL : Hid (LM.length = 4) := rfl
  generalize LM = D at *
  have hs : name.size ≤ 20 := by rw [str_of h]; decide
  go_enter Tryd.func13, Tryd.ntmps13
  go_wp2
  go_loopw [3, 24] (fun a3 a24 wr => ∃ (k : Nat) (oa : Option Addr) (oc : Nat), a3 = .slice oa k oc ∧ a24 = .int .i64 (k : Int) ∧ k ≤ 4 ∧ Hid (wr.ownsRow (w.heap.size + 1) 9 1 (.slice oa k oc) k ((D.take k).map Value.string)) ∧ Hid (Bx wr w.heap.size 9 (sides.map Value.string).toArray) ∧ Hid (Below w.heap.size w wr)) (fun _ a24 _ => 5 - (intOf a24).toNat)
  case atStart => exact ⟨0, _, _, rfl, rfl, by omega, World.ownsRow_nil _ _ _ _, HX0, HB0⟩
  case round =>
    obtain ⟨k, oa, oc, rfl, rfl, hk, HOW, HX, HB⟩ := hrel
    by_cases hlt : k < 4
    · obtain ⟨s, hs, hss⟩ := sides_at k hlt
      have q1 : wr.cell? ⟨w.heap.size, k, none⟩ = some (.string s) := HX.out.cell k _ (by simp [hs])
      have HTK := hid_mk (HSD.out k s hs)
      have has : (name ++ ⟨#[45]⟩ ++ s).size ≤ 1006 := by
        rw [ByteArray.size_append, ByteArray.size_append]
        have : (⟨#[45]⟩ : ByteArray).size = 1 := rfl
        omega
      have has2 : (name ++ ⟨#[45]⟩).size ≤ 1000 := by
        rw [ByteArray.size_append]
        have : (⟨#[45]⟩ : ByteArray).size = 1 := rfl
        omega
      obtain ⟨x, hx⟩ : ∃ x, x = name ++ ⟨#[45]⟩ ++ s ++ ⟨#[]⟩ := ⟨_, rfl⟩
      rw [← hx] at HTK
      have HOA := hid_mk (HOW.out.alloc (.cells #[Value.string x] 9))
      have HSZ : Hid (w.heap.size + 1 ≤ (wr.alloc (.cells #[Value.string x] 9)).heap.size) := by
        have := HX.out.lt
        rw [Hid, World.size_alloc]
        omega
      have HNW := hid_mk (cell_one_new wr (Value.string x) 9)
      have HAP : Hid (∀ v' w2, w2.ownsRow (w.heap.size + 1) 9 1 v' (k + 1) ((D.take k).map Value.string ++ [Value.string x]) → (wr.alloc (.cells #[Value.string x] 9)).grownBy w2 (Value.slice oa k oc).ownBlock → (∃ g cap, v' = .slice (some ⟨g, 0, none⟩) (k + 1) cap) ∧ Bx w2 w.heap.size 9 (sides.map Value.string).toArray ∧ Below w.heap.size w w2) := fun v' w2 h1 h2 => app_on HOW.out HX.out HB.out (Nat.le_refl _) h1 h2
      rw [hx] at HOA HSZ HNW HAP
      clear hs
      go_wp2_with (at_builtin; with_reducible refine wpList_append_own _ rfl _ _ 32 rfl (w.heap.size + 1) 9 i0 (.string ⟨#[]⟩) 1 16 Tryd.underlying32 HI0.out HZ0.out HZ1.out HZ2.out rfl (by decide) (.slice oa k oc) k ((D.take k).map Value.string) rfl HOA.out ⟨wr.heap.size, 0, none⟩ 1 1 [Value.string (name ++ ⟨#[45]⟩ ++ s ++ ⟨#[]⟩)] rfl rfl HNW.out ?c0 ?c1 ?c2 ?c3 ?_)
      case c0 => simp [Value.oneCell']
      case c1 => unfold maxLen; omega
      case c2 => omega
      case c3 => exact HSZ.out
      intro v' w2 hown hg _
      rw [← List.map_take] at hown
      obtain ⟨⟨g, cap, rfl⟩, hx2, hb2⟩ := HAP.out v' w2 hown hg
      have HX2 := hid_mk hx2
      have HB2 := hid_mk hb2
      have HOW2 : Hid (w2.ownsRow (w.heap.size + 1) 9 1 (.slice (some ⟨g, 0, none⟩) (k + 1) cap) (k + 1) ((D.take (k + 1)).map Value.string)) := by
        rw [Hid, HTK.out, List.map_append, hx]
        exact hown
      clear hown hg hb2 hx2 HAP HNW HOA HSZ HTK hx q1
      go_wp2
      refine ⟨⟨k + 1, _, _, rfl, by simp, by omega, HOW2, HX2, HB2⟩, ?_⟩
      simp only [intOf]
      omega
    · obtain rfl : k = 4 := by omega
      have HST : Hid (StrAt wr (.slice oa 4 oc) D) := by
        refine StrAt.of (B := w.heap.size + 1) ?_
        have := HOW.out
        rw [List.take_of_length_le (by rw [HL.out]; omega)] at this
        rw [HL.out]
        exact this
      clear HOW
      go_wp2
      go_ret
      exact ⟨⟨_, _, _, rfl, HL.out.symm, HST.out⟩, HB.out⟩
set_option maxHeartbeats 4000000 in
theorem rlongs_P {name : ByteArray} (h : (name.toList == [112, 97, 100, 100, 105, 110, 103]) = true) (w : World) : Calls Tryd.prog 13 #[.string name] w fun e w' => (∃ a n c, e = .returned (.slice a n c) ∧ n = (lgs name).length ∧ StrAt w' (.slice a n c) (lgs name)) ∧ Below w.heap.size w w' := by
  rw [lgs_P h]
  have fM := ne_PM h
  obtain ⟨i0, hi, hz0, hz1, hz2⟩ := info_parts info9
  have HI0 := hid_mk hi
  have HZ0 := hid_mk hz0
  have HZ1 := hid_mk hz1
  have HZ2 := hid_mk hz2
  clear hi hz0 hz1 hz2
  have HX0 : Hid (Bx (w.alloc (.cells (sides.map Value.string).toArray 9)) w.heap.size 9 (sides.map Value.string).toArray) := Bx.new w _ _
  have HB0 : Hid (Below w.heap.size w (w.alloc (.cells (sides.map Value.string).toArray 9))) := (Below.refl _ w).alloc (Nat.le_refl _) _
  have he : sd (name ++ ⟨#[45]⟩) ⟨#[]⟩ = LP := by rw [str_of h]; kernel_rfl
  have HSD : Hid (∀ k s, sides[k]? = some s → (sd (name ++ ⟨#[45]⟩) ⟨#[]⟩).take (k + 1) = (sd (name ++ ⟨#[45]⟩) ⟨#[]⟩).take k ++ [name ++ ⟨#[45]⟩ ++ s ++ ⟨#[]⟩]) := fun k s h => sd_take h
  rw [he] at HSD
  clear he
  have HL : Hid (LP.length = 4) := rfl
  generalize LP = D at *
  have hs : name.size ≤ 20 := by rw [str_of h]; decide
  go_enter Tryd.func13, Tryd.ntmps13
  go_wp2
  go_loopw [3, 24] (fun a3 a24 wr => ∃ (k : Nat) (oa : Option Addr) (oc : Nat), a3 = .slice oa k oc ∧ a24 = .int .i64 (k : Int) ∧ k ≤ 4 ∧ Hid (wr.ownsRow (w.heap.size + 1) 9 1 (.slice oa k oc) k ((D.take k).map Value.string)) ∧ Hid (Bx wr w.heap.size 9 (sides.map Value.string).toArray) ∧ Hid (Below w.heap.size w wr)) (fun _ a24 _ => 5 - (intOf a24).toNat)
  case atStart => exact ⟨0, _, _, rfl, rfl, by omega, World.ownsRow_nil _ _ _ _, HX0, HB0⟩
  case round =>
    obtain ⟨k, oa, oc, rfl, rfl, hk, HOW, HX, HB⟩ := hrel
    by_cases hlt : k < 4
    · obtain ⟨s, hs, hss⟩ := sides_at k hlt
      have q1 : wr.cell? ⟨w.heap.size, k, none⟩ = some (.string s) := HX.out.cell k _ (by simp [hs])
      have HTK := hid_mk (HSD.out k s hs)
      have has : (name ++ ⟨#[45]⟩ ++ s).size ≤ 1006 := by
        rw [ByteArray.size_append, ByteArray.size_append]
        have : (⟨#[45]⟩ : ByteArray).size = 1 := rfl
        omega
      have has2 : (name ++ ⟨#[45]⟩).size ≤ 1000 := by
        rw [ByteArray.size_append]
        have : (⟨#[45]⟩ : ByteArray).size = 1 := rfl
        omega
      obtain ⟨x, hx⟩ : ∃ x, x = name ++ ⟨#[45]⟩ ++ s ++ ⟨#[]⟩ := ⟨_, rfl⟩
      rw [← hx] at HTK
      have HOA := hid_mk (HOW.out.alloc (.cells #[Value.string x] 9))
      have HSZ : Hid (w.heap.size + 1 ≤ (wr.alloc (.cells #[Value.string x] 9)).heap.size) := by
        have := HX.out.lt
        rw [Hid, World.size_alloc]
        omega
      have HNW := hid_mk (cell_one_new wr (Value.string x) 9)
      have HAP : Hid (∀ v' w2, w2.ownsRow (w.heap.size + 1) 9 1 v' (k + 1) ((D.take k).map Value.string ++ [Value.string x]) → (wr.alloc (.cells #[Value.string x] 9)).grownBy w2 (Value.slice oa k oc).ownBlock → (∃ g cap, v' = .slice (some ⟨g, 0, none⟩) (k + 1) cap) ∧ Bx w2 w.heap.size 9 (sides.map Value.string).toArray ∧ Below w.heap.size w w2) := fun v' w2 h1 h2 => app_on HOW.out HX.out HB.out (Nat.le_refl _) h1 h2
      rw [hx] at HOA HSZ HNW HAP
      clear hs
      go_wp2_with (at_builtin; with_reducible refine wpList_append_own _ rfl _ _ 32 rfl (w.heap.size + 1) 9 i0 (.string ⟨#[]⟩) 1 16 Tryd.underlying32 HI0.out HZ0.out HZ1.out HZ2.out rfl (by decide) (.slice oa k oc) k ((D.take k).map Value.string) rfl HOA.out ⟨wr.heap.size, 0, none⟩ 1 1 [Value.string (name ++ ⟨#[45]⟩ ++ s ++ ⟨#[]⟩)] rfl rfl HNW.out ?c0 ?c1 ?c2 ?c3 ?_)
      case c0 => simp [Value.oneCell']
      case c1 => unfold maxLen; omega
      case c2 => omega
      case c3 => exact HSZ.out
      intro v' w2 hown hg _
      rw [← List.map_take] at hown
      obtain ⟨⟨g, cap, rfl⟩, hx2, hb2⟩ := HAP.out v' w2 hown hg
      have HX2 := hid_mk hx2
      have HB2 := hid_mk hb2
      have HOW2 : Hid (w2.ownsRow (w.heap.size + 1) 9 1 (.slice (some ⟨g, 0, none⟩) (k + 1) cap) (k + 1) ((D.take (k + 1)).map Value.string)) := by
        rw [Hid, HTK.out, List.map_append, hx]
        exact hown
      clear hown hg hb2 hx2 HAP HNW HOA HSZ HTK hx q1
      go_wp2
      refine ⟨⟨k + 1, _, _, rfl, by simp, by omega, HOW2, HX2, HB2⟩, ?_⟩
      simp only [intOf]
      omega
    · obtain rfl : k = 4 := by omega
      have HST : Hid (StrAt wr (.slice oa 4 oc) D) := by
        refine StrAt.of (B := w.heap.size + 1) ?_
        have := HOW.out
        rw [List.take_of_length_le (by rw [HL.out]; omega)] at this
        rw [HL.out]
        exact this
      clear HOW
      go_wp2
      go_ret
      exact ⟨⟨_, _, _, rfl, HL.out.symm, HST.out⟩, HB.out⟩
set_option maxHeartbeats 4000000 in
theorem rlongs_W {name : ByteArray} (h : (name.toList == [98, 111, 114, 100, 101, 114, 45, 119, 105, 100, 116, 104]) = true) (w : World) : Calls Tryd.prog 13 #[.string name] w fun e w' => (∃ a n c, e = .returned (.slice a n c) ∧ n = (lgs name).length ∧ StrAt w' (.slice a n c) (lgs name)) ∧ Below w.heap.size w w' := by
  rw [lgs_W h]
  have fM := ne_WM h
  have fP := ne_WP h
  obtain ⟨i0, hi, hz0, hz1, hz2⟩ := info_parts info9
  have HI0 := hid_mk hi
  have HZ0 := hid_mk hz0
  have HZ1 := hid_mk hz1
  have HZ2 := hid_mk hz2
  clear hi hz0 hz1 hz2
  have HX0 : ∀ m, Hid (Bx ((w.drewN m).alloc (.cells (sides.map Value.string).toArray 9)) w.heap.size 9 (sides.map Value.string).toArray) := fun m => Bx.new (w.drewN m) _ _
  have HB0 : ∀ m, Hid (Below w.heap.size w ((w.drewN m).alloc (.cells (sides.map Value.string).toArray 9))) := fun m => (Below.trans (Below.refl _ w) ⟨rfl, rfl, rfl, Nat.le_refl _, fun _ _ => rfl⟩ : Below w.heap.size w (w.drewN m)).alloc (Nat.le_refl _) _
  have he : sd (⟨#[98, 111, 114, 100, 101, 114]⟩ ++ ⟨#[45]⟩) ⟨#[45, 119, 105, 100, 116, 104]⟩ = LW := by kernel_rfl
  have HSD : Hid (∀ k s, sides[k]? = some s → (sd (⟨#[98, 111, 114, 100, 101, 114]⟩ ++ ⟨#[45]⟩) ⟨#[45, 119, 105, 100, 116, 104]⟩).take (k + 1) = (sd (⟨#[98, 111, 114, 100, 101, 114]⟩ ++ ⟨#[45]⟩) ⟨#[45, 119, 105, 100, 116, 104]⟩).take k ++ [⟨#[98, 111, 114, 100, 101, 114]⟩ ++ ⟨#[45]⟩ ++ s ++ ⟨#[45, 119, 105, 100, 116, 104]⟩]) := fun k s h => sd_take h
  rw [he] at HSD
  clear he
  have HL : Hid (LW.length = 4) := rfl
  generalize LW = D at *
  have hs : name.size = 12 := by rw [str_of h]; rfl
  have hsl := fun w => sl_six name (by omega) w
  have hex : name.extract 6 name.size = ⟨#[45, 119, 105, 100, 116, 104]⟩ := by rw [str_of h]; kernel_rfl
  rw [hex] at hsl
  clear hex
  obtain ⟨HD, hHD⟩ : ∃ HD : ByteArray, HD = ⟨#[98, 111, 114, 100, 101, 114]⟩ := ⟨_, rfl⟩
  obtain ⟨TL, hTL⟩ : ∃ TL : ByteArray, TL = ⟨#[45, 119, 105, 100, 116, 104]⟩ := ⟨_, rfl⟩
  have hhs : HD.size ≤ 20 := by rw [hHD]; decide
  have hts : TL.size ≤ 20 := by rw [hTL]; decide
  rw [← hTL] at hsl
  rw [← hHD, ← hTL] at HSD
  have HHD := hid_mk hHD
  clear hHD hTL
  go_enter Tryd.func13, Tryd.ntmps13
  go_upto_region 10 with fail
  go_quiet (fail)
  rw [← HHD.out]
  clear HHD hsl
  go_wp2
  go_loopw [3, 24] (fun a3 a24 wr => ∃ (k : Nat) (oa : Option Addr) (oc : Nat), a3 = .slice oa k oc ∧ a24 = .int .i64 (k : Int) ∧ k ≤ 4 ∧ Hid (wr.ownsRow (w.heap.size + 1) 9 1 (.slice oa k oc) k ((D.take k).map Value.string)) ∧ Hid (Bx wr w.heap.size 9 (sides.map Value.string).toArray) ∧ Hid (Below w.heap.size w wr)) (fun _ a24 _ => 5 - (intOf a24).toNat)
  case atStart => exact ⟨0, _, _, rfl, rfl, by omega, World.ownsRow_nil _ _ _ _, HX0 _, HB0 _⟩
  case round =>
    obtain ⟨k, oa, oc, rfl, rfl, hk, HOW, HX, HB⟩ := hrel
    by_cases hlt : k < 4
    · obtain ⟨s, hs, hss⟩ := sides_at k hlt
      have q1 : wr.cell? ⟨w.heap.size, k, none⟩ = some (.string s) := HX.out.cell k _ (by simp [hs])
      have HTK := hid_mk (HSD.out k s hs)
      have has : (HD ++ ⟨#[45]⟩ ++ s).size ≤ 1006 := by
        rw [ByteArray.size_append, ByteArray.size_append]
        have : (⟨#[45]⟩ : ByteArray).size = 1 := rfl
        omega
      have has2 : (HD ++ ⟨#[45]⟩).size ≤ 1000 := by
        rw [ByteArray.size_append]
        have : (⟨#[45]⟩ : ByteArray).size = 1 := rfl
        omega
      obtain ⟨x, hx⟩ : ∃ x, x = HD ++ ⟨#[45]⟩ ++ s ++ TL := ⟨_, rfl⟩
      rw [← hx] at HTK
      have HOA := hid_mk (HOW.out.alloc (.cells #[Value.string x] 9))
      have HSZ : Hid (w.heap.size + 1 ≤ (wr.alloc (.cells #[Value.string x] 9)).heap.size) := by
        have := HX.out.lt
        rw [Hid, World.size_alloc]
        omega
      have HNW := hid_mk (cell_one_new wr (Value.string x) 9)
      have HAP : Hid (∀ v' w2, w2.ownsRow (w.heap.size + 1) 9 1 v' (k + 1) ((D.take k).map Value.string ++ [Value.string x]) → (wr.alloc (.cells #[Value.string x] 9)).grownBy w2 (Value.slice oa k oc).ownBlock → (∃ g cap, v' = .slice (some ⟨g, 0, none⟩) (k + 1) cap) ∧ Bx w2 w.heap.size 9 (sides.map Value.string).toArray ∧ Below w.heap.size w w2) := fun v' w2 h1 h2 => app_on HOW.out HX.out HB.out (Nat.le_refl _) h1 h2
      rw [hx] at HOA HSZ HNW HAP
      clear hs
      go_wp2_with (at_builtin; with_reducible refine wpList_append_own _ rfl _ _ 32 rfl (w.heap.size + 1) 9 i0 (.string ⟨#[]⟩) 1 16 Tryd.underlying32 HI0.out HZ0.out HZ1.out HZ2.out rfl (by decide) (.slice oa k oc) k ((D.take k).map Value.string) rfl HOA.out ⟨wr.heap.size, 0, none⟩ 1 1 [Value.string (HD ++ ⟨#[45]⟩ ++ s ++ TL)] rfl rfl HNW.out ?c0 ?c1 ?c2 ?c3 ?_)
      case c0 => simp [Value.oneCell']
      case c1 => unfold maxLen; omega
      case c2 => omega
      case c3 => exact HSZ.out
      intro v' w2 hown hg _
      rw [← List.map_take] at hown
      obtain ⟨⟨g, cap, rfl⟩, hx2, hb2⟩ := HAP.out v' w2 hown hg
      have HX2 := hid_mk hx2
      have HB2 := hid_mk hb2
      have HOW2 : Hid (w2.ownsRow (w.heap.size + 1) 9 1 (.slice (some ⟨g, 0, none⟩) (k + 1) cap) (k + 1) ((D.take (k + 1)).map Value.string)) := by
        rw [Hid, HTK.out, List.map_append, hx]
        exact hown
      clear hown hg hb2 hx2 HAP HNW HOA HSZ HTK hx q1
      go_wp2
      refine ⟨⟨k + 1, _, _, rfl, by simp, by omega, HOW2, HX2, HB2⟩, ?_⟩
      simp only [intOf]
      omega
    · obtain rfl : k = 4 := by omega
      have HST : Hid (StrAt wr (.slice oa 4 oc) D) := by
        refine StrAt.of (B := w.heap.size + 1) ?_
        have := HOW.out
        rw [List.take_of_length_le (by rw [HL.out]; omega)] at this
        rw [HL.out]
        exact this
      clear HOW
      go_wp2
      go_ret
      exact ⟨⟨_, _, _, rfl, HL.out.symm, HST.out⟩, HB.out⟩
set_option maxHeartbeats 4000000 in
theorem rlongs_S {name : ByteArray} (h : (name.toList == [98, 111, 114, 100, 101, 114, 45, 115, 116, 121, 108, 101]) = true) (w : World) : Calls Tryd.prog 13 #[.string name] w fun e w' => (∃ a n c, e = .returned (.slice a n c) ∧ n = (lgs name).length ∧ StrAt w' (.slice a n c) (lgs name)) ∧ Below w.heap.size w w' := by
  rw [lgs_S h]
  have fM := ne_SM h
  have fP := ne_SP h
  have fW := ne_SW h
  obtain ⟨i0, hi, hz0, hz1, hz2⟩ := info_parts info9
  have HI0 := hid_mk hi
  have HZ0 := hid_mk hz0
  have HZ1 := hid_mk hz1
  have HZ2 := hid_mk hz2
  clear hi hz0 hz1 hz2
  have HX0 : ∀ m, Hid (Bx ((w.drewN m).alloc (.cells (sides.map Value.string).toArray 9)) w.heap.size 9 (sides.map Value.string).toArray) := fun m => Bx.new (w.drewN m) _ _
  have HB0 : ∀ m, Hid (Below w.heap.size w ((w.drewN m).alloc (.cells (sides.map Value.string).toArray 9))) := fun m => (Below.trans (Below.refl _ w) ⟨rfl, rfl, rfl, Nat.le_refl _, fun _ _ => rfl⟩ : Below w.heap.size w (w.drewN m)).alloc (Nat.le_refl _) _
  have he : sd (⟨#[98, 111, 114, 100, 101, 114]⟩ ++ ⟨#[45]⟩) ⟨#[45, 115, 116, 121, 108, 101]⟩ = LS := by kernel_rfl
  have HSD : Hid (∀ k s, sides[k]? = some s → (sd (⟨#[98, 111, 114, 100, 101, 114]⟩ ++ ⟨#[45]⟩) ⟨#[45, 115, 116, 121, 108, 101]⟩).take (k + 1) = (sd (⟨#[98, 111, 114, 100, 101, 114]⟩ ++ ⟨#[45]⟩) ⟨#[45, 115, 116, 121, 108, 101]⟩).take k ++ [⟨#[98, 111, 114, 100, 101, 114]⟩ ++ ⟨#[45]⟩ ++ s ++ ⟨#[45, 115, 116, 121, 108, 101]⟩]) := fun k s h => sd_take h
  rw [he] at HSD
  clear he
  have HL : Hid (LS.length = 4) := rfl
  generalize LS = D at *
  have hs : name.size = 12 := by rw [str_of h]; rfl
  have hsl := fun w => sl_six name (by omega) w
  have hex : name.extract 6 name.size = ⟨#[45, 115, 116, 121, 108, 101]⟩ := by rw [str_of h]; kernel_rfl
  rw [hex] at hsl
  clear hex
  obtain ⟨HD, hHD⟩ : ∃ HD : ByteArray, HD = ⟨#[98, 111, 114, 100, 101, 114]⟩ := ⟨_, rfl⟩
  obtain ⟨TL, hTL⟩ : ∃ TL : ByteArray, TL = ⟨#[45, 115, 116, 121, 108, 101]⟩ := ⟨_, rfl⟩
  have hhs : HD.size ≤ 20 := by rw [hHD]; decide
  have hts : TL.size ≤ 20 := by rw [hTL]; decide
  rw [← hTL] at hsl
  rw [← hHD, ← hTL] at HSD
  have HHD := hid_mk hHD
  clear hHD hTL
  go_enter Tryd.func13, Tryd.ntmps13
  go_upto_region 10 with fail
  go_quiet (fail)
  rw [← HHD.out]
  clear HHD hsl
  go_wp2
  go_loopw [3, 24] (fun a3 a24 wr => ∃ (k : Nat) (oa : Option Addr) (oc : Nat), a3 = .slice oa k oc ∧ a24 = .int .i64 (k : Int) ∧ k ≤ 4 ∧ Hid (wr.ownsRow (w.heap.size + 1) 9 1 (.slice oa k oc) k ((D.take k).map Value.string)) ∧ Hid (Bx wr w.heap.size 9 (sides.map Value.string).toArray) ∧ Hid (Below w.heap.size w wr)) (fun _ a24 _ => 5 - (intOf a24).toNat)
  case atStart => exact ⟨0, _, _, rfl, rfl, by omega, World.ownsRow_nil _ _ _ _, HX0 _, HB0 _⟩
  case round =>
    obtain ⟨k, oa, oc, rfl, rfl, hk, HOW, HX, HB⟩ := hrel
    by_cases hlt : k < 4
    · obtain ⟨s, hs, hss⟩ := sides_at k hlt
      have q1 : wr.cell? ⟨w.heap.size, k, none⟩ = some (.string s) := HX.out.cell k _ (by simp [hs])
      have HTK := hid_mk (HSD.out k s hs)
      have has : (HD ++ ⟨#[45]⟩ ++ s).size ≤ 1006 := by
        rw [ByteArray.size_append, ByteArray.size_append]
        have : (⟨#[45]⟩ : ByteArray).size = 1 := rfl
        omega
      have has2 : (HD ++ ⟨#[45]⟩).size ≤ 1000 := by
        rw [ByteArray.size_append]
        have : (⟨#[45]⟩ : ByteArray).size = 1 := rfl
        omega
      obtain ⟨x, hx⟩ : ∃ x, x = HD ++ ⟨#[45]⟩ ++ s ++ TL := ⟨_, rfl⟩
      rw [← hx] at HTK
      have HOA := hid_mk (HOW.out.alloc (.cells #[Value.string x] 9))
      have HSZ : Hid (w.heap.size + 1 ≤ (wr.alloc (.cells #[Value.string x] 9)).heap.size) := by
        have := HX.out.lt
        rw [Hid, World.size_alloc]
        omega
      have HNW := hid_mk (cell_one_new wr (Value.string x) 9)
      have HAP : Hid (∀ v' w2, w2.ownsRow (w.heap.size + 1) 9 1 v' (k + 1) ((D.take k).map Value.string ++ [Value.string x]) → (wr.alloc (.cells #[Value.string x] 9)).grownBy w2 (Value.slice oa k oc).ownBlock → (∃ g cap, v' = .slice (some ⟨g, 0, none⟩) (k + 1) cap) ∧ Bx w2 w.heap.size 9 (sides.map Value.string).toArray ∧ Below w.heap.size w w2) := fun v' w2 h1 h2 => app_on HOW.out HX.out HB.out (Nat.le_refl _) h1 h2
      rw [hx] at HOA HSZ HNW HAP
      clear hs
      go_wp2_with (at_builtin; with_reducible refine wpList_append_own _ rfl _ _ 32 rfl (w.heap.size + 1) 9 i0 (.string ⟨#[]⟩) 1 16 Tryd.underlying32 HI0.out HZ0.out HZ1.out HZ2.out rfl (by decide) (.slice oa k oc) k ((D.take k).map Value.string) rfl HOA.out ⟨wr.heap.size, 0, none⟩ 1 1 [Value.string (HD ++ ⟨#[45]⟩ ++ s ++ TL)] rfl rfl HNW.out ?c0 ?c1 ?c2 ?c3 ?_)
      case c0 => simp [Value.oneCell']
      case c1 => unfold maxLen; omega
      case c2 => omega
      case c3 => exact HSZ.out
      intro v' w2 hown hg _
      rw [← List.map_take] at hown
      obtain ⟨⟨g, cap, rfl⟩, hx2, hb2⟩ := HAP.out v' w2 hown hg
      have HX2 := hid_mk hx2
      have HB2 := hid_mk hb2
      have HOW2 : Hid (w2.ownsRow (w.heap.size + 1) 9 1 (.slice (some ⟨g, 0, none⟩) (k + 1) cap) (k + 1) ((D.take (k + 1)).map Value.string)) := by
        rw [Hid, HTK.out, List.map_append, hx]
        exact hown
      clear hown hg hb2 hx2 HAP HNW HOA HSZ HTK hx q1
      go_wp2
      refine ⟨⟨k + 1, _, _, rfl, by simp, by omega, HOW2, HX2, HB2⟩, ?_⟩
      simp only [intOf]
      omega
    · obtain rfl : k = 4 := by omega
      have HST : Hid (StrAt wr (.slice oa 4 oc) D) := by
        refine StrAt.of (B := w.heap.size + 1) ?_
        have := HOW.out
        rw [List.take_of_length_le (by rw [HL.out]; omega)] at this
        rw [HL.out]
        exact this
      clear HOW
      go_wp2
      go_ret
      exact ⟨⟨_, _, _, rfl, HL.out.symm, HST.out⟩, HB.out⟩
set_option maxHeartbeats 4000000 in
theorem rlongs_C {name : ByteArray} (h : (name.toList == [98, 111, 114, 100, 101, 114, 45, 99, 111, 108, 111, 114]) = true) (w : World) : Calls Tryd.prog 13 #[.string name] w fun e w' => (∃ a n c, e = .returned (.slice a n c) ∧ n = (lgs name).length ∧ StrAt w' (.slice a n c) (lgs name)) ∧ Below w.heap.size w w' := by
  rw [lgs_C h]
  have fM := ne_CM h
  have fP := ne_CP h
  have fW := ne_CW h
  have fS := ne_CS h
  obtain ⟨i0, hi, hz0, hz1, hz2⟩ := info_parts info9
  have HI0 := hid_mk hi
  have HZ0 := hid_mk hz0
  have HZ1 := hid_mk hz1
  have HZ2 := hid_mk hz2
  clear hi hz0 hz1 hz2
  have HX0 : ∀ m, Hid (Bx ((w.drewN m).alloc (.cells (sides.map Value.string).toArray 9)) w.heap.size 9 (sides.map Value.string).toArray) := fun m => Bx.new (w.drewN m) _ _
  have HB0 : ∀ m, Hid (Below w.heap.size w ((w.drewN m).alloc (.cells (sides.map Value.string).toArray 9))) := fun m => (Below.trans (Below.refl _ w) ⟨rfl, rfl, rfl, Nat.le_refl _, fun _ _ => rfl⟩ : Below w.heap.size w (w.drewN m)).alloc (Nat.le_refl _) _
  have he : sd (⟨#[98, 111, 114, 100, 101, 114]⟩ ++ ⟨#[45]⟩) ⟨#[45, 99, 111, 108, 111, 114]⟩ = LC := by kernel_rfl
  have HSD : Hid (∀ k s, sides[k]? = some s → (sd (⟨#[98, 111, 114, 100, 101, 114]⟩ ++ ⟨#[45]⟩) ⟨#[45, 99, 111, 108, 111, 114]⟩).take (k + 1) = (sd (⟨#[98, 111, 114, 100, 101, 114]⟩ ++ ⟨#[45]⟩) ⟨#[45, 99, 111, 108, 111, 114]⟩).take k ++ [⟨#[98, 111, 114, 100, 101, 114]⟩ ++ ⟨#[45]⟩ ++ s ++ ⟨#[45, 99, 111, 108, 111, 114]⟩]) := fun k s h => sd_take h
  rw [he] at HSD
  clear he
  have HL : Hid (LC.length = 4) := rfl
  generalize LC = D at *
  have hs : name.size = 12 := by rw [str_of h]; rfl
  have hsl := fun w => sl_six name (by omega) w
  have hex : name.extract 6 name.size = ⟨#[45, 99, 111, 108, 111, 114]⟩ := by rw [str_of h]; kernel_rfl
  rw [hex] at hsl
  clear hex
  obtain ⟨HD, hHD⟩ : ∃ HD : ByteArray, HD = ⟨#[98, 111, 114, 100, 101, 114]⟩ := ⟨_, rfl⟩
  obtain ⟨TL, hTL⟩ : ∃ TL : ByteArray, TL = ⟨#[45, 99, 111, 108, 111, 114]⟩ := ⟨_, rfl⟩
  have hhs : HD.size ≤ 20 := by rw [hHD]; decide
  have hts : TL.size ≤ 20 := by rw [hTL]; decide
  rw [← hTL] at hsl
  rw [← hHD, ← hTL] at HSD
  have HHD := hid_mk hHD
  clear hHD hTL
  go_enter Tryd.func13, Tryd.ntmps13
  go_upto_region 10 with fail
  go_quiet (fail)
  rw [← HHD.out]
  clear HHD hsl
  go_wp2
  go_loopw [3, 24] (fun a3 a24 wr => ∃ (k : Nat) (oa : Option Addr) (oc : Nat), a3 = .slice oa k oc ∧ a24 = .int .i64 (k : Int) ∧ k ≤ 4 ∧ Hid (wr.ownsRow (w.heap.size + 1) 9 1 (.slice oa k oc) k ((D.take k).map Value.string)) ∧ Hid (Bx wr w.heap.size 9 (sides.map Value.string).toArray) ∧ Hid (Below w.heap.size w wr)) (fun _ a24 _ => 5 - (intOf a24).toNat)
  case atStart => exact ⟨0, _, _, rfl, rfl, by omega, World.ownsRow_nil _ _ _ _, HX0 _, HB0 _⟩
  case round =>
    obtain ⟨k, oa, oc, rfl, rfl, hk, HOW, HX, HB⟩ := hrel
    by_cases hlt : k < 4
    · obtain ⟨s, hs, hss⟩ := sides_at k hlt
      have q1 : wr.cell? ⟨w.heap.size, k, none⟩ = some (.string s) := HX.out.cell k _ (by simp [hs])
      have HTK := hid_mk (HSD.out k s hs)
      have has : (HD ++ ⟨#[45]⟩ ++ s).size ≤ 1006 := by
        rw [ByteArray.size_append, ByteArray.size_append]
        have : (⟨#[45]⟩ : ByteArray).size = 1 := rfl
        omega
      have has2 : (HD ++ ⟨#[45]⟩).size ≤ 1000 := by
        rw [ByteArray.size_append]
        have : (⟨#[45]⟩ : ByteArray).size = 1 := rfl
        omega
      obtain ⟨x, hx⟩ : ∃ x, x = HD ++ ⟨#[45]⟩ ++ s ++ TL := ⟨_, rfl⟩
      rw [← hx] at HTK
      have HOA := hid_mk (HOW.out.alloc (.cells #[Value.string x] 9))
      have HSZ : Hid (w.heap.size + 1 ≤ (wr.alloc (.cells #[Value.string x] 9)).heap.size) := by
        have := HX.out.lt
        rw [Hid, World.size_alloc]
        omega
      have HNW := hid_mk (cell_one_new wr (Value.string x) 9)
      have HAP : Hid (∀ v' w2, w2.ownsRow (w.heap.size + 1) 9 1 v' (k + 1) ((D.take k).map Value.string ++ [Value.string x]) → (wr.alloc (.cells #[Value.string x] 9)).grownBy w2 (Value.slice oa k oc).ownBlock → (∃ g cap, v' = .slice (some ⟨g, 0, none⟩) (k + 1) cap) ∧ Bx w2 w.heap.size 9 (sides.map Value.string).toArray ∧ Below w.heap.size w w2) := fun v' w2 h1 h2 => app_on HOW.out HX.out HB.out (Nat.le_refl _) h1 h2
      rw [hx] at HOA HSZ HNW HAP
      clear hs
      go_wp2_with (at_builtin; with_reducible refine wpList_append_own _ rfl _ _ 32 rfl (w.heap.size + 1) 9 i0 (.string ⟨#[]⟩) 1 16 Tryd.underlying32 HI0.out HZ0.out HZ1.out HZ2.out rfl (by decide) (.slice oa k oc) k ((D.take k).map Value.string) rfl HOA.out ⟨wr.heap.size, 0, none⟩ 1 1 [Value.string (HD ++ ⟨#[45]⟩ ++ s ++ TL)] rfl rfl HNW.out ?c0 ?c1 ?c2 ?c3 ?_)
      case c0 => simp [Value.oneCell']
      case c1 => unfold maxLen; omega
      case c2 => omega
      case c3 => exact HSZ.out
      intro v' w2 hown hg _
      rw [← List.map_take] at hown
      obtain ⟨⟨g, cap, rfl⟩, hx2, hb2⟩ := HAP.out v' w2 hown hg
      have HX2 := hid_mk hx2
      have HB2 := hid_mk hb2
      have HOW2 : Hid (w2.ownsRow (w.heap.size + 1) 9 1 (.slice (some ⟨g, 0, none⟩) (k + 1) cap) (k + 1) ((D.take (k + 1)).map Value.string)) := by
        rw [Hid, HTK.out, List.map_append, hx]
        exact hown
      clear hown hg hb2 hx2 HAP HNW HOA HSZ HTK hx q1
      go_wp2
      refine ⟨⟨k + 1, _, _, rfl, by simp, by omega, HOW2, HX2, HB2⟩, ?_⟩
      simp only [intOf]
      omega
    · obtain rfl : k = 4 := by omega
      have HST : Hid (StrAt wr (.slice oa 4 oc) D) := by
        refine StrAt.of (B := w.heap.size + 1) ?_
        have := HOW.out
        rw [List.take_of_length_le (by rw [HL.out]; omega)] at this
        rw [HL.out]
        exact this
      clear HOW
      go_wp2
      go_ret
      exact ⟨⟨_, _, _, rfl, HL.out.symm, HST.out⟩, HB.out⟩
set_option maxHeartbeats 4000000 in
theorem rlongs_O {name : ByteArray} (h : (name.toList == [111, 118, 101, 114, 102, 108, 111, 119]) = true) (w : World) : Calls Tryd.prog 13 #[.string name] w fun e w' => (∃ a n c, e = .returned (.slice a n c) ∧ n = (lgs name).length ∧ StrAt w' (.slice a n c) (lgs name)) ∧ Below w.heap.size w w' := by
  rw [lgs_O h]
  have fM := ne_OM h
  have fP := ne_OP h
  have fW := ne_OW h
  have fS := ne_OS h
  have fC := ne_OC h
  have hS := StrAt.lit w LO (by decide)
  have hB : Below w.heap.size w (w.alloc (.cells (LO.map Value.string).toArray 9)) := (Below.refl _ w).alloc (Nat.le_refl _) _
  go_enter Tryd.func13, Tryd.ntmps13
  go_wp2
  go_ret
  exact ⟨⟨_, _, _, rfl, rfl, hS⟩, hB⟩
set_option maxHeartbeats 2000000 in
theorem rlongs_none {name : ByteArray} (hM : (name.toList == [109, 97, 114, 103, 105, 110]) = false) (hP : (name.toList == [112, 97, 100, 100, 105, 110, 103]) = false) (hW : (name.toList == [98, 111, 114, 100, 101, 114, 45, 119, 105, 100, 116, 104]) = false) (hS : (name.toList == [98, 111, 114, 100, 101, 114, 45, 115, 116, 121, 108, 101]) = false) (hC : (name.toList == [98, 111, 114, 100, 101, 114, 45, 99, 111, 108, 111, 114]) = false) (hO : (name.toList == [111, 118, 101, 114, 102, 108, 111, 119]) = false) (w : World) : Calls Tryd.prog 13 #[.string name] w fun e w' => (∃ a n c, e = .returned (.slice a n c) ∧ n = (lgs name).length ∧ StrAt w' (.slice a n c) (lgs name)) ∧ Below w.heap.size w w' := by
  rw [lgs_none hM hP hW hS hC hO]
  go_enter Tryd.func13, Tryd.ntmps13
  go_wp2
  go_ret
  exact ⟨⟨_, _, _, rfl, rfl, StrAt.nil _⟩, Below.refl _ _⟩
theorem rlongs_any (name : ByteArray) (w : World) : Calls Tryd.prog 13 #[.string name] w fun e w' => (∃ a n c, e = .returned (.slice a n c) ∧ n = (lgs name).length ∧ StrAt w' (.slice a n c) (lgs name)) ∧ Below w.heap.size w w' := by
  cases hM : (name.toList == [109, 97, 114, 103, 105, 110]) with
  | true => exact rlongs_M hM w
  | false =>
    cases hP : (name.toList == [112, 97, 100, 100, 105, 110, 103]) with
    | true => exact rlongs_P hP w
    | false =>
      cases hW : (name.toList == [98, 111, 114, 100, 101, 114, 45, 119, 105, 100, 116, 104]) with
      | true => exact rlongs_W hW w
      | false =>
        cases hS : (name.toList == [98, 111, 114, 100, 101, 114, 45, 115, 116, 121, 108, 101]) with
        | true => exact rlongs_S hS w
        | false =>
          cases hC : (name.toList == [98, 111, 114, 100, 101, 114, 45, 99, 111, 108, 111, 114]) with
          | true => exact rlongs_C hC w
          | false =>
            cases hO : (name.toList == [111, 118, 101, 114, 102, 108, 111, 119]) with
            | true => exact rlongs_O hO w
            | false =>
              exact rlongs_none hM hP hW hS hC hO w
end Go.Proofs.YtaoodkpbhehdgaaDoor
