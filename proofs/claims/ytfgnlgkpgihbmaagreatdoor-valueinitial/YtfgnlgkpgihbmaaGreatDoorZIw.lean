/- gouachelaw15.ValueInitial: the walk. -/
import Derived.Test.YtfgnlgkpgihbmaaGreatDoorZLi
namespace Go.Proofs.YtfgnlgkpgihbmaaGreatDoor.Z
open Go.RowKit
open Go.Proofs.YtfgnlgkpgihbmaaGreatDoor.L (T5 V VsAt t5Cells vCells cell_of_heap)
set_option maxRecDepth 100000

set_option maxHeartbeats 2000000 in
theorem initial_walk (i : Int) (h0 : 0 ≤ i) (h1 : i ≤ 18446744073709551615) (w : World) (hok : Ok w) : Calls Tryz.prog 6 #[.int .u64 i] w fun e w' => e = .returned (.bool true) ∧ Below w.heap.size w w' := by
  have hall := P.all_any w
  obtain ⟨k, hk, hk48⟩ : ∃ k : Nat, i % 48 = (k : Int) ∧ k < 48 := ⟨(i % 48).toNat, by omega, by omega⟩
  have hT : ∃ p, P.T[k]? = some p := ⟨_, List.getElem?_eq_getElem (by rw [P.T_len]; exact hk48)⟩
  obtain ⟨⟨tn, ti, th, tf⟩, ht⟩ := hT
  obtain ⟨hti, htp⟩ := T_at ht
  have HOK : Hid (∀ w', Below w.heap.size w w' → Ok w') := fun w' hb => hok.keep hb
  have HV : Hid (∀ w', Below w.heap.size w w' → Calls Tryz.prog 20 #[.string ti] w' fun e w'' => ∃ a n c, e = .returned (.slice a n c) ∧ VsAt (fun _ => True) w'' (.slice a n c) (valsS ti) ∧ Below w'.heap.size w' w'') := fun w' hb => (vals_ok hti w').mono fun e w'' h => by
    obtain ⟨u, h1, h2, h3⟩ := h
    obtain ⟨a, c, hu, _, _⟩ := h2.slice
    rw [hu] at h1 h2
    exact ⟨a, _, c, h1, h2, h3⟩
  have HP : Hid (∀ w' v, Below w.heap.size w w' → VsAt (fun _ => True) w' v (valsS ti) → Calls Tryz.prog 10 #[.string tn, v] w' fun e w'' => e = .returned (.tuple #[.string ti, .bool true]) ∧ Below w'.heap.size w' w'') := fun w' v hb hv => parse_ok hti htp hv (HOK.out w' hb)
  have HV9 : Hid (∀ w', Below w.heap.size w w' → Calls Tryz.prog 20 #[.string (⟨#[32, 73, 78, 72, 69, 82, 73, 84, 32]⟩ : ByteArray)] w' fun e w'' => ∃ a n c, e = .returned (.slice a n c) ∧ VsAt (fun _ => True) w'' (.slice a n c) (valsS (⟨#[32, 73, 78, 72, 69, 82, 73, 84, 32]⟩ : ByteArray)) ∧ Below w.heap.size w w'') := fun w' hb => (vals_ok ok9 w').mono fun e w'' h => by
    obtain ⟨u, h1, h2, h3⟩ := h
    obtain ⟨a, c, hu, _, _⟩ := h2.slice
    rw [hu] at h1 h2
    exact ⟨a, _, c, h1, h2, hb.trans (h3.mono hb.size)⟩
  have HW9 : Hid (∀ w' v, Below w.heap.size w w' → VsAt (fun _ => True) w' v (valsS (⟨#[32, 73, 78, 72, 69, 82, 73, 84, 32]⟩ : ByteArray)) → Calls Tryz.prog 12 #[v] w' fun e w'' => e = .returned (.string (⟨#[105, 110, 104, 101, 114, 105, 116]⟩ : ByteArray)) ∧ Below w.heap.size w w'') := fun w' v hb hv => (wide_any hv (okS_out ok9).2.2.1 (okS_out ok9).2.2.2).mono fun e w'' h => ⟨h.1.trans (by rw [ex9]), hb.trans (h.2.mono hb.size)⟩
  have HL : Hid (∀ w', Below w.heap.size w w' → Calls Tryz.prog 9 #[] w' fun e w'' => e = .returned (.bool true) ∧ Below w.heap.size w w'') := fun w' hb => (lives_any w' (HOK.out w' hb)).mono fun e w'' h => ⟨h.1, hb.trans (h.2.mono hb.size)⟩
  have HT := L.hid_mk ht
  generalize valsS ti = vt at *
  generalize valsS (⟨#[32, 73, 78, 72, 69, 82, 73, 84, 32]⟩ : ByteArray) = v9 at *
  have hki : (k : Int) < 48 := by omega
  have hk0 : (0 : Int) ≤ (k : Int) := by omega
  have hkd : decide ((k : Int) < 48) = true := decide_eq_true hki
  clear hok HOK ht hti htp
  go_enter Tryz.func6, Tryz.ntmps6
  go_wp2_with (go_at_call 22; fail)
  refine hall.mono ?_
  rintro e w2 ⟨b, rfl, hA2, hb2⟩
  obtain ⟨r1, r2, r3, r4⟩ := P.row_at hA2 k _ HT.out
  simp only at r1 r2 r3 r4
  have hX3 := P.Bx.new w2 45 #[.string tn, .string ti, .bool th, .string tf]
  have hB3 : Below w.heap.size w (w2.alloc (.cells #[.string tn, .string ti, .bool th, .string tf] 45)) := hb2.alloc hb2.size _
  have HX3 := L.hid_mk hX3
  have HB3 := L.hid_mk hB3
  clear hall hA2 hb2 HT hX3 hB3
  go_upto_region 5 with (fail)
  obtain ⟨W, hW⟩ : ∃ W, W = w2.alloc (.cells #[.string tn, .string ti, .bool th, .string tf] 45) := ⟨_, rfl⟩
  rw [← hW] at HX3 HB3 ⊢
  clear hW r1 r2 r3 r4
  have gd : Below W.heap.size W W := Below.refl _ _
  have ge : Below W.heap.size W W.drew := gd.drew
  have HS : Hid (∀ w', Below W.heap.size W w' → w'.cell? ⟨w2.heap.size, 0, none⟩ = some (.string tn) ∧ w'.cell? ⟨w2.heap.size, 1, none⟩ = some (.string ti)) := fun w' hb => ⟨(HX3.out.below hb).cell 0 _ rfl, (HX3.out.below hb).cell 1 _ rfl⟩
  have HV2 : Hid (∀ w', Below W.heap.size W w' → Calls Tryz.prog 20 #[.string ti] w' fun e w'' => (∃ a n c, e = .returned (.slice a n c) ∧ VsAt (fun _ => True) w'' (.slice a n c) vt) ∧ Below W.heap.size W w'') := fun w' hb => (HV.out w' (HB3.out.trans (hb.mono HB3.out.size))).mono fun e w'' h => by
    obtain ⟨a, n, c, h1, h2, h3⟩ := h
    exact ⟨⟨a, n, c, h1, h2⟩, hb.trans (h3.mono hb.size)⟩
  have HP2 : Hid (∀ w' v, Below W.heap.size W w' → VsAt (fun _ => True) w' v vt → Calls Tryz.prog 10 #[.string tn, v] w' fun e w'' => e = .returned (.tuple #[.string ti, .bool true]) ∧ Below W.heap.size W w'') := fun w' v hb hv => (HP.out w' v (HB3.out.trans (hb.mono HB3.out.size)) hv).mono fun e w'' h => ⟨h.1, hb.trans (h.2.mono hb.size)⟩
  clear HV HP
  go_region_held3 (fun w' => w'.cell? ⟨w2.heap.size, 0, none⟩ = some (.string tn) ∧ w'.cell? ⟨w2.heap.size, 1, none⟩ = some (.string ti))
    (first | with_reducible exact HS.out _ gd | with_reducible exact HS.out _ ge | with_reducible exact HS.out _ ga | with_reducible exact HS.out _ gb)
    (first
      | (go_at_call 20; with_reducible refine (HV2.out _ ge).mono ?_; rintro e wa ⟨⟨a, n, c, rfl, sv⟩, ga⟩)
      | (go_at_call 10; with_reducible refine (HP2.out _ _ ga sv).mono ?_; rintro e wb ⟨rfl, gb⟩))
  have g5 : Below w.heap.size w wb := HB3.out.trans (gb.mono HB3.out.size)
  obtain ⟨z1, z2⟩ := HS.out _ gb
  have c9 := HV9.out _ g5
  clear HV2 HP2 HS HV9 sv ga gb gd ge
  have hteq : (ti.toList == ti.toList) = true := by simp
  go_wp2_with (go_at_call 20; fail)
  refine c9.mono ?_
  rintro e x1 ⟨a1, n1, c1, rfl, s1, d1⟩
  have c12 := HW9.out _ _ d1 s1
  clear c9 HW9 s1
  go_wp2_with (go_at_call 12; fail)
  refine c12.mono ?_
  rintro e x2 ⟨rfl, d2⟩
  have c0 := HL.out _ d2
  clear c12 HL d1
  go_wp2_with (go_at_call 9; fail)
  refine c0.mono ?_
  rintro e x3 ⟨rfl, d3⟩
  clear c0 d2
  go_wp2
  go_ret
  exact ⟨rfl, d3⟩
end Go.Proofs.YtfgnlgkpgihbmaaGreatDoor.Z
