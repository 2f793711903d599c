/- The document's Place, Before and After. WalkPlaces: the walk. -/
import Derived.Test.YtoncgmnccgegmaaGreatRcmN
import Derived.Test.YtoncgmnccgegmaaGreatWoW
namespace Go.Proofs.YtoncgmnccgegmaaGreat.N
open Go.RowKit
set_option maxRecDepth 100000

theorem among_lt {uok : List (ByteArray × ByteArray) → Prop} {m : M} {nx : Int} {d : Int → Nat} (I : Inv uok m nx d) (id : Int) : (amongZ m id).2 < ((amongZ m id).1.length : Int) := by
  cases h : m id with
  | none => rw [among_none h]; decide
  | some e =>
    obtain ⟨l, i, hi, h1, _⟩ := among_some I h
    rw [h1]
    show (i : Int) < (l.length : Int)
    omega
theorem among_neg {uok : List (ByteArray × ByteArray) → Prop} {m : M} {nx : Int} {d : Int → Nat} (I : Inv uok m nx d) (id : Int) : (amongZ m id).2 < 0 → (amongZ m id).1.length = 0 := by
  cases h : m id with
  | none => rw [among_none h]; intro _; rfl
  | some e =>
    obtain ⟨l, i, hi, h1, _⟩ := among_some I h
    rw [h1]
    intro h2
    have : (i : Int) < 0 := h2
    omega
set_option maxHeartbeats 2000000 in
theorem rplace_any {w : World} {rp : Value} {L : List El} {m : M} {nx : Int} (h : RTree w rp L m nx) (id : Int) : Calls Tryz.prog 18 #[rp, .int .i64 id] w fun x w' => x = .returned (.tuple #[.int .i64 (placeZ m id).1, .int .i64 (placeZ m id).2]) ∧ Below w.heap.size w w' := by
  have hk := rkids_any h id
  have hx := among_idx m id
  obtain ⟨d, I⟩ := h.2.2.2
  obtain ⟨b1, b2, b3⟩ := among_len I id
  have b4 := among_lt I id
  have b5 := among_neg I id
  have HAT : Hid (∀ w' a c, RowAt w' 1 a (amongZ m id).1.length c (intsV (amongZ m id).1) → Calls Tryz.prog 40 #[.slice a (amongZ m id).1.length c, .int .i64 id] w' fun e w'' => e = .returned (.int .i64 (amongZ m id).2) ∧ Below w'.heap.size w' w'') := fun w' a c hr => by
    have := rat_int hr id
    rw [← hx] at this
    exact this
  unfold placeZ
  generalize (amongZ m id).1 = l at *
  generalize (amongZ m id).2 = ix at *
  clear h I hx
  by_cases hlt : ix < 0
  · rw [if_pos hlt]
    have HLT := hid_mk hlt
    clear b4 b5
    go_enter Tryz.func18, Tryz.ntmps18
    go_wp2_with (go_at_call 39; fail)
    refine hk.mono ?_
    rintro e w1 ⟨a, c, rfl, hr, hB⟩
    have hat := HAT.out w1 a c hr
    have HR := hid_mk hr
    have HB1 := hid_mk hB
    clear hk hr hB HAT
    go_wp2_with (go_at_call 40; fail)
    refine hat.mono ?_
    rintro e w2 ⟨rfl, hB2⟩
    have HB := hid_mk (HB1.out.trans (hB2.mono HB1.out.size))
    have HR2 := hid_mk (HR.out.keep hB2)
    clear hat hB2 HB1 HR
    go_wp2
    refine bodyPost_ret (v := .tuple #[.int .i64 0, .int .i64 0]) (by simp [results, Tryz.results18, go_sem]) rfl ⟨rfl, HB.out⟩
  · rw [if_neg hlt]
    have h0 : 0 ≤ ix := by omega
    clear b5
    go_enter Tryz.func18, Tryz.ntmps18
    go_wp2_with (go_at_call 39; fail)
    refine hk.mono ?_
    rintro e w1 ⟨a, c, rfl, hr, hB⟩
    have hat := HAT.out w1 a c hr
    have HR := hid_mk hr
    have HB1 := hid_mk hB
    clear hk hr hB HAT
    go_wp2_with (go_at_call 40; fail)
    refine hat.mono ?_
    rintro e w2 ⟨rfl, hB2⟩
    have HB := hid_mk (HB1.out.trans (hB2.mono HB1.out.size))
    have HR2 := hid_mk (HR.out.keep hB2)
    clear hat hB2 HB1 HR
    go_wp2
    refine bodyPost_ret (v := .tuple #[.int .i64 (ix + 1), .int .i64 (l.length - ix)]) (by simp [results, Tryz.results18, go_sem]) rfl ⟨rfl, HB.out⟩
set_option maxHeartbeats 2000000 in
theorem rbefore_any {w : World} {rp : Value} {L : List El} {m : M} {nx : Int} (h : RTree w rp L m nx) (id : Int) : Calls Tryz.prog 20 #[rp, .int .i64 id] w fun x w' => x = .returned (.int .i64 (besideZ m id (-1))) ∧ Below w.heap.size w w' := by
  have hk := rkids_any h id
  have hx := among_idx m id
  obtain ⟨d, I⟩ := h.2.2.2
  obtain ⟨b1, b2, b3⟩ := among_len I id
  have b4 := among_lt I id
  have b5 := among_neg I id
  have HAT : Hid (∀ w' a c, RowAt w' 1 a (amongZ m id).1.length c (intsV (amongZ m id).1) → Calls Tryz.prog 40 #[.slice a (amongZ m id).1.length c, .int .i64 id] w' fun e w'' => e = .returned (.int .i64 (amongZ m id).2) ∧ Below w'.heap.size w' w'') := fun w' a c hr => by
    have := rat_int hr id
    rw [← hx] at this
    exact this
  have HE : Hid (besideZ m id (-1) = if (amongZ m id).2 + (-1) < 0 ∨ ((amongZ m id).1.length : Int) ≤ (amongZ m id).2 + (-1) then 0 else (amongZ m id).1.getD ((amongZ m id).2 + (-1)).toNat 0) := rfl
  rw [HE.out]
  generalize (amongZ m id).1 = l at *
  generalize (amongZ m id).2 = ix at *
  clear h I hx HE
  by_cases hgood : 0 < ix
  · obtain ⟨t, ht⟩ : ∃ t : Nat, ix + (-1) = t := ⟨(ix + (-1)).toNat, by omega⟩
    have HT := hid_mk ht
    have htl : t < l.length := by omega
    have hw1 : IntKind.i64.wrap (ix - 1) = (t : Int) := by rw [IntKind.wrap_i64]; omega
    rw [if_neg (by omega), ht, Int.toNat_natCast, List.getD_eq_getElem?_getD, List.getElem?_eq_getElem htl]
    have hlt2 : (t : Int) < (l.length : Int) := by omega
    have hix : 0 ≤ ix := by omega
    have hpos : 0 < ix := by omega
    clear ht b5 hgood b4
    go_enter Tryz.func20, Tryz.ntmps20
    go_wp2_with (go_at_call 39; fail)
    refine hk.mono ?_
    rintro e w1 ⟨a, c, rfl, hr, hB⟩
    have hat := HAT.out w1 a c hr
    have HR := hid_mk hr
    have HB1 := hid_mk hB
    clear hk hr hB HAT
    go_wp2_with (go_at_call 40; fail)
    refine hat.mono ?_
    rintro e w2 ⟨rfl, hB2⟩
    have HB := hid_mk (HB1.out.trans (hB2.mono HB1.out.size))
    have HR2 := hid_mk (HR.out.keep hB2)
    clear hat hB2 HB1 HR
    obtain ⟨ab, ao, rfl, _, hcl⟩ := HR2.out.intAt htl
    have hcap := HR2.out.2.1
    have hcm := HR2.out.2.2.1
    unfold maxLen at hcm
    clear HR2
    go_wp2
    go_ret
    exact ⟨rfl, HB.out⟩
  · have hle : ix ≤ 0 := by omega
    rw [if_pos (by omega)]
    clear b5 b4 hgood
    go_enter Tryz.func20, Tryz.ntmps20
    go_wp2_with (go_at_call 39; fail)
    refine hk.mono ?_
    rintro e w1 ⟨a, c, rfl, hr, hB⟩
    have hat := HAT.out w1 a c hr
    have HR := hid_mk hr
    have HB1 := hid_mk hB
    clear hk hr hB HAT
    go_wp2_with (go_at_call 40; fail)
    refine hat.mono ?_
    rintro e w2 ⟨rfl, hB2⟩
    have HB := hid_mk (HB1.out.trans (hB2.mono HB1.out.size))
    have HR2 := hid_mk (HR.out.keep hB2)
    clear hat hB2 HB1 HR
    clear HR2
    go_wp2
    go_ret
    exact ⟨rfl, HB.out⟩
set_option maxHeartbeats 2000000 in
theorem rafter_any {w : World} {rp : Value} {L : List El} {m : M} {nx : Int} (h : RTree w rp L m nx) (id : Int) : Calls Tryz.prog 22 #[rp, .int .i64 id] w fun x w' => x = .returned (.int .i64 (besideZ m id 1)) ∧ Below w.heap.size w w' := by
  have hk := rkids_any h id
  have hx := among_idx m id
  obtain ⟨d, I⟩ := h.2.2.2
  obtain ⟨b1, b2, b3⟩ := among_len I id
  have b4 := among_lt I id
  have b5 := among_neg I id
  have HAT : Hid (∀ w' a c, RowAt w' 1 a (amongZ m id).1.length c (intsV (amongZ m id).1) → Calls Tryz.prog 40 #[.slice a (amongZ m id).1.length c, .int .i64 id] w' fun e w'' => e = .returned (.int .i64 (amongZ m id).2) ∧ Below w'.heap.size w' w'') := fun w' a c hr => by
    have := rat_int hr id
    rw [← hx] at this
    exact this
  have HE : Hid (besideZ m id 1 = if (amongZ m id).2 + 1 < 0 ∨ ((amongZ m id).1.length : Int) ≤ (amongZ m id).2 + 1 then 0 else (amongZ m id).1.getD ((amongZ m id).2 + 1).toNat 0) := rfl
  rw [HE.out]
  generalize (amongZ m id).1 = l at *
  generalize (amongZ m id).2 = ix at *
  clear h I hx HE
  by_cases hgood : 0 ≤ ix ∧ ix + 1 < (l.length : Int)
  · obtain ⟨t, ht⟩ : ∃ t : Nat, ix + 1 = t := ⟨(ix + 1).toNat, by omega⟩
    have HT := hid_mk ht
    have htl : t < l.length := by omega
    have hw1 : IntKind.i64.wrap (ix + 1) = (t : Int) := by rw [IntKind.wrap_i64]; omega
    rw [if_neg (by omega), ht, Int.toNat_natCast, List.getD_eq_getElem?_getD, List.getElem?_eq_getElem htl]
    have hlt2 : (t : Int) < (l.length : Int) := by omega
    have hix : 0 ≤ ix := by omega
    have hlt3 : ix + 1 < (l.length : Int) := by omega
    clear ht b5 hgood b4
    go_enter Tryz.func22, Tryz.ntmps22
    go_wp2_with (go_at_call 39; fail)
    refine hk.mono ?_
    rintro e w1 ⟨a, c, rfl, hr, hB⟩
    have hat := HAT.out w1 a c hr
    have HR := hid_mk hr
    have HB1 := hid_mk hB
    clear hk hr hB HAT
    go_wp2_with (go_at_call 40; fail)
    refine hat.mono ?_
    rintro e w2 ⟨rfl, hB2⟩
    have HB := hid_mk (HB1.out.trans (hB2.mono HB1.out.size))
    have HR2 := hid_mk (HR.out.keep hB2)
    clear hat hB2 HB1 HR
    obtain ⟨ab, ao, rfl, _, hcl⟩ := HR2.out.intAt htl
    have hcap := HR2.out.2.1
    have hcm := HR2.out.2.2.1
    unfold maxLen at hcm
    clear HR2
    go_wp2
    go_ret
    exact ⟨rfl, HB.out⟩
  · rw [if_pos (by
      by_cases h0 : ix < 0
      · have := b5 h0
        omega
      · omega)]
    by_cases h0 : ix < 0
    · clear b5 b4 hgood
      go_enter Tryz.func22, Tryz.ntmps22
      go_wp2_with (go_at_call 39; fail)
      refine hk.mono ?_
      rintro e w1 ⟨a, c, rfl, hr, hB⟩
      have hat := HAT.out w1 a c hr
      have HR := hid_mk hr
      have HB1 := hid_mk hB
      clear hk hr hB HAT
      go_wp2_with (go_at_call 40; fail)
      refine hat.mono ?_
      rintro e w2 ⟨rfl, hB2⟩
      have HB := hid_mk (HB1.out.trans (hB2.mono HB1.out.size))
      have HR2 := hid_mk (HR.out.keep hB2)
      clear hat hB2 HB1 HR
      clear HR2
      go_wp2
      go_ret
      exact ⟨rfl, HB.out⟩
    · have h1 : 0 ≤ ix := by omega
      have hw1 : IntKind.i64.wrap (ix + 1) = ix + 1 := by rw [IntKind.wrap_i64]; omega
      have h2 : (l.length : Int) ≤ ix + 1 := by omega
      clear b5 b4 hgood h0
      go_enter Tryz.func22, Tryz.ntmps22
      go_wp2_with (go_at_call 39; fail)
      refine hk.mono ?_
      rintro e w1 ⟨a, c, rfl, hr, hB⟩
      have hat := HAT.out w1 a c hr
      have HR := hid_mk hr
      have HB1 := hid_mk hB
      clear hk hr hB HAT
      go_wp2_with (go_at_call 40; fail)
      refine hat.mono ?_
      rintro e w2 ⟨rfl, hB2⟩
      have HB := hid_mk (HB1.out.trans (hB2.mono HB1.out.size))
      have HR2 := hid_mk (HR.out.keep hB2)
      clear hat hB2 HB1 HR
      clear HR2
      go_wp2
      go_ret
      exact ⟨rfl, HB.out⟩

end Go.Proofs.YtoncgmnccgegmaaGreat.N
namespace Go.Proofs.YtoncgmnccgegmaaGreat.N
open Go.RowKit
set_option maxRecDepth 100000

set_option maxHeartbeats 8000000 in
theorem places_walk {W : World} {v : Value} {xs : List Act6} (hp : ActsIn W v xs) (a b : Int) : Calls Tryz.prog 4 #[v, .int .i64 a, .int .i64 b] W fun e w' => e = .returned (.bool true) ∧ Below W.heap.size W w' := by
  have hlight := rlight_any hp 80 (by decide)
  have HLV : Hid (∀ w', Calls Tryz.prog 7 #[] w' fun e w'' => e = .returned (.bool true) ∧ Below w'.heap.size w' w'') := fun w' => wlives_any w'
  have HTA : Hid (∀ w', Below W.heap.size W w' → xs.length ≤ 130 → _) := fun w' hw' hx => tree_any (W := w') (v := v) (xs := xs) ⟨hp.1.keep hw', hp.2⟩ hx
  obtain ⟨⟨av, cap, rfl, hcap, hmax, hx⟩, hsz⟩ := hp
  clear hx hsz
  go_enter Tryz.func4, Tryz.ntmps4
  go_wp2_with (go_at_call 6; fail)
  refine hlight.mono ?_
  rintro e w1 ⟨lb, rfl, hlen, hB1⟩
  have HB1 := hid_mk hB1
  clear hlight hB1
  cases lb with
  | false =>
    clear HTA
    go_wp2_with (go_at_call 7; refine (HLV.out _).mono ?_; rintro e w2 ⟨rfl, hB2⟩)
    go_ret
    exact ⟨rfl, HB1.out.trans (hB2.mono HB1.out.size)⟩
  | true =>
    have h80 := hlen rfl
    have hta := HTA.out w1 HB1.out (by omega)
    clear HTA hlen
    go_wp2_with (go_at_call 8; fail)
    refine hta.mono ?_
    rintro e w2 ⟨p, q, m, nx, L, rfl, hR, _, hT, hRT, hB2⟩
    have HB2 := hid_mk (HB1.out.trans (hB2.mono HB1.out.size))
    have HT := hid_mk hT
    have HRT := hid_mk hRT
    clear hta hR hT hRT hB2 HB1
    have h17 := place_pair HT.out a
    go_wp2_with (go_at_call 17; fail)
    refine h17.mono ?_
    rintro e w3 ⟨rfl, hB3⟩
    have HB3 := hid_mk (HB2.out.trans (hB3.mono HB2.out.size))
    have HT3 := hid_mk (HT.out.keep hB3)
    have HRT3 := hid_mk (HRT.out.keep hB3)
    clear h17 hB3 HB2 HT HRT
    have h18 := rplace_any HRT3.out a
    go_wp2_with (go_at_call 18; fail)
    refine h18.mono ?_
    rintro e w4 ⟨rfl, hB4⟩
    have HB4 := hid_mk (HB3.out.trans (hB4.mono HB3.out.size))
    have HT4 := hid_mk (HT3.out.keep hB4)
    have HRT4 := hid_mk (HRT3.out.keep hB4)
    clear h18 hB4 HB3 HT3 HRT3
    have h19 := before_any HT4.out a
    go_wp2_with (go_at_call 19; fail)
    refine h19.mono ?_
    rintro e w5 ⟨rfl, hB5⟩
    have HB5 := hid_mk (HB4.out.trans (hB5.mono HB4.out.size))
    have HT5 := hid_mk (HT4.out.keep hB5)
    have HRT5 := hid_mk (HRT4.out.keep hB5)
    clear h19 hB5 HB4 HT4 HRT4
    have h20 := rbefore_any HRT5.out a
    go_wp2_with (go_at_call 20; fail)
    refine h20.mono ?_
    rintro e w6 ⟨rfl, hB6⟩
    have HB6 := hid_mk (HB5.out.trans (hB6.mono HB5.out.size))
    have HT6 := hid_mk (HT5.out.keep hB6)
    have HRT6 := hid_mk (HRT5.out.keep hB6)
    clear h20 hB6 HB5 HT5 HRT5
    have h21 := after_any HT6.out a
    go_wp2_with (go_at_call 21; fail)
    refine h21.mono ?_
    rintro e w7 ⟨rfl, hB7⟩
    have HB7 := hid_mk (HB6.out.trans (hB7.mono HB6.out.size))
    have HT7 := hid_mk (HT6.out.keep hB7)
    have HRT7 := hid_mk (HRT6.out.keep hB7)
    clear h21 hB7 HB6 HT6 HRT6
    have h22 := rafter_any HRT7.out a
    go_wp2_with (go_at_call 22; fail)
    refine h22.mono ?_
    rintro e w8 ⟨rfl, hB8⟩
    have HB8 := hid_mk (HB7.out.trans (hB8.mono HB7.out.size))
    have HT8 := hid_mk (HT7.out.keep hB8)
    have HRT8 := hid_mk (HRT7.out.keep hB8)
    clear h22 hB8 HB7 HT7 HRT7
    have h23 := wcompare_any HT8.out a b
    go_wp2_with (go_at_call 23; fail)
    refine h23.mono ?_
    rintro e w9 ⟨rfl, hB9⟩
    have HB9 := hid_mk (HB8.out.trans (hB9.mono HB8.out.size))
    have HT9 := hid_mk (HT8.out.keep hB9)
    have HRT9 := hid_mk (HRT8.out.keep hB9)
    clear h23 hB9 HB8 HT8 HRT8
    have h24 := rcompare_any HRT9.out a b
    go_wp2_with (go_at_call 24; fail)
    refine h24.mono ?_
    rintro e w10 ⟨rfl, hB10⟩
    have HB10 := hid_mk (HB9.out.trans (hB10.mono HB9.out.size))
    have HT10 := hid_mk (HT9.out.keep hB10)
    have HRT10 := hid_mk (HRT9.out.keep hB10)
    clear h24 hB10 HB9 HT9 HRT9
    go_wp2_with (go_at_call 7; fail)
    refine (HLV.out w10).mono ?_
    rintro e w11 ⟨rfl, hB11⟩
    go_wp2
    go_ret
    exact ⟨rfl, HB10.out.trans (hB11.mono HB10.out.size)⟩

end Go.Proofs.YtoncgmnccgegmaaGreat.N
