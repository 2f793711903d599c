/- fill: an entry is put into a cell, if that is empty. -/
import Derived.Test.YtdgbebgjenfmbaaMCo
namespace Go.Proofs.Ytdgbebgjenfmbaa.M
open Go.RowKit
set_option maxRecDepth 100000

theorem fill_taken {P Q : Nat → Prop} {w : World} {c j : Nat} {L : List (Option En)} {x y : En} (hR : Ring P w c L) (hj : L[j]? = some (some y)) {sv : Value} (hS : SsAt Q w sv x.l) : Calls Try.prog 34 #[.pointer (some ⟨c, j, none⟩), .agg #[.int .i64 x.e, .int .i64 x.d, sv]] w fun r w' => r = .returned (.bool false) ∧ Below w.heap.size w w' := by
  obtain ⟨a, cap, g0, o, rfl, _⟩ := hS
  generalize x.l.length = n at *
  generalize x.e = xe at *
  generalize x.d = xd at *
  obtain ⟨wx, hwx⟩ : ∃ wx, wx = w.alloc (.cells #[.int .i64 xe, .int .i64 xd, .slice a n cap] 31) := ⟨_, rfl⟩
  have hbx : Below w.heap.size w wx := by rw [hwx]; exact (Below.refl _ w).alloc (Nat.le_refl _) _
  obtain ⟨v, hv, hV, _⟩ := (hR.keep (Kb.of_below hbx) (hbx.block c hR.lt)).cell hj
  have hl := loadE_any hv hV
  obtain ⟨g, rfl, _⟩ := hV
  rw [hwx] at hl
  have HBX : Hid (Below w.heap.size w (w.alloc (.cells #[.int .i64 xe, .int .i64 xd, .slice a n cap] 31))) := by rw [← hwx]; exact hbx
  clear hbx hwx hv hR hj
  go_enter Try.func34, Try.ntmps34
  go_wp2_with (go_at_call 35; refine hl.mono ?_; rintro e w' ⟨rfl, hw⟩; rw [hw]; clear hw w')
  go_wp2
  go_ret
  exact ⟨rfl, HBX.out⟩
set_option maxHeartbeats 2000000 in
theorem fill_free {P Q : Nat → Prop} {w : World} {c j : Nat} {L : List (Option En)} {x : En} (hR : Ring P w c L) (hj : L[j]? = some none) {sv : Value} (hS : SsAt Q w sv x.l) (hln : x.l.length ≤ 8796093021952) (hP : ∀ b, w.heap.size ≤ b → P b) : Calls Try.prog 34 #[.pointer (some ⟨c, j, none⟩), .agg #[.int .i64 x.e, .int .i64 x.d, sv]] w fun r w' => r = .returned (.bool true) ∧ Ring P w' c (L.set j (some x)) ∧ Kb (fun k => k ≠ c) w w' := by
  have hjl : j < L.length := (List.getElem?_eq_some_iff.1 hj).1
  have hS' := hS
  obtain ⟨a, cap, g0, o, hsv, _⟩ := hS'
  obtain ⟨wx, hwx⟩ : ∃ wx, wx = w.alloc (.cells #[.int .i64 x.e, .int .i64 x.d, sv] 31) := ⟨_, rfl⟩
  have hbx : Below w.heap.size w wx := by rw [hwx]; exact (Below.refl _ w).alloc (Nat.le_refl _) _
  have hcx : wx.heap[w.heap.size]? = some (.cells #[.int .i64 x.e, .int .i64 x.d, sv] 31 (0, 0)) := by rw [hwx]; exact heap_alloc_last w _
  have hRx : Ring P wx c L := hR.keep (Kb.of_below hbx) (hbx.block c hR.lt)
  obtain ⟨v, hv, hV, _⟩ := hRx.cell hj
  have hl := loadE_any hv hV
  have hV : v = .pointer none := hV
  subst hV
  have hEx : EnAt (fun _ => True) wx w.heap.size x := ⟨trivial, sv, hcx, (hS.keep (Kb.of_below hbx)).mono fun _ _ _ => trivial⟩
  have hcp := copied_any hEx hln
  have HGO : Hid (∀ (w2 : World) (v2 : Value) (W3 : World), StO wx.heap.size w2 v2 x.l → Below wx.heap.size wx w2 → W3 = w2.alloc (.cells #[.int .i64 x.e, .int .i64 x.d, v2] 31) → Calls Try.prog 42 #[.pointer (some ⟨c, j, none⟩), .pointer none, .pointer (some ⟨w2.heap.size, 0, none⟩)] W3 fun r w' => r = .returned (.bool true) ∧ Ring P w' c (L.set j (some x)) ∧ Kb (fun k => k ≠ c) w w') := fun w2 v2 W3 h1 h2 h3 => by
    have hb3 : Below w2.heap.size w2 W3 := by rw [h3]; exact (Below.refl _ w2).alloc (Nat.le_refl _) _
    have hb4 : Below wx.heap.size wx W3 := h2.trans (hb3.mono h2.size)
    have hR3 : Ring P W3 c L := hRx.keep (Kb.of_below hb4) (hb4.block c hRx.lt)
    obtain ⟨v', hv', hV', hz'⟩ := hR3.cell hj
    have hV' : v' = .pointer none := hV'
    subst hV'
    have hg3 : W3.heap[w2.heap.size]? = some (.cells #[.int .i64 x.e, .int .i64 x.d, v2] 31 (0, 0)) := by rw [h3]; exact heap_alloc_last w2 _
    have hwb : w.heap.size ≤ wx.heap.size := hbx.size
    have hwb2 : wx.heap.size ≤ w2.heap.size := h2.size
    have hE3 : EnAt P W3 w2.heap.size x := ⟨hP _ (by omega), v2, hg3, ((h1.ss).keep (Kb.of_below hb3)).mono fun k _ hk => hP k (by omega)⟩
    refine (casE_any hv' hz' hg3 rfl).mono ?_
    rintro r w' ⟨rfl, hw⟩
    rw [hw]
    refine ⟨rfl, hR3.set hjl hE3, ((Kb.of_below (P := fun k => k ≠ c) hbx).trans (Kb.of_below hb4)).set (p := ⟨c, j, none⟩) (fun hh => hh rfl) _⟩
  rw [hwx] at hl hcp
  have HCP := hid_mk hcp
  have HWX := hid_mk hwx
  clear hbx hcx hRx hEx hv hcp hR hj hS hP hwx
  subst hsv
  generalize x.l.length = n at *
  generalize x.e = xe at *
  generalize x.d = xd at *
  go_enter Try.func34, Try.ntmps34
  go_wp2_with (first
    | (go_at_call 35; refine hl.mono ?_; rintro e w' ⟨rfl, hw⟩; rw [hw]; clear hw w' hl)
    | (go_at_call 37; refine HCP.out.mono ?_; rintro e w2 ⟨v2, rfl, h1, h2⟩; have h3 := HGO.out w2 v2 _ (by rw [HWX.out]; exact h1) (by rw [HWX.out]; exact h2) rfl; obtain ⟨pa, pc, rfl⟩ := h1.form; clear h1 h2))
  refine h3.mono ?_
  rintro e w' ⟨rfl, h4, h5⟩
  have H4 := hid_mk h4
  have H5 := hid_mk h5
  clear h3 h4 h5 HGO HCP HWX
  go_wp2
  go_ret
  exact ⟨rfl, H4.out, H5.out⟩
end Go.Proofs.Ytdgbebgjenfmbaa.M
