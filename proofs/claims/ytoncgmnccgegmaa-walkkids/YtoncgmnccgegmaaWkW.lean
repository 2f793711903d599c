/- WalkKids: the walk. -/
import Derived.Test.YtoncgmnccgegmaaWoW
namespace Go.Proofs.Ytoncgmnccgegmaa.N
open Go.RowKit
set_option maxRecDepth 100000

/-- What the law asks of an element's Kids. -/
theorem kids_math {uok : List (ByteArray × ByteArray) → Prop} {m : M} {nx : Int} {d : Int → Nat} (I : Inv uok m nx d) {id : Int} {el : El} (hm : m id = some el) (i : Nat) (hi : i < el.ks.length) :
    placeZ m el.ks[i] = ((i : Int) + 1, (el.ks.length : Int) - i) ∧ besideZ m el.ks[i] 1 = el.ks.getD (i + 1) 0 ∧ (ups m el.ks[i]).length = (ups m id).length + 1 := by
  have hk := List.getElem_mem hi
  obtain ⟨c, h1, h2⟩ := I.kid hm hk
  have ha : amongZ m el.ks[i] = (el.ks, (i : Int)) := by
    unfold amongZ
    rw [h1]
    dsimp only
    rw [h2, hm]
    dsimp only
    rw [idxOf_at (I.nd hm) hi]
  refine ⟨?_, ?_, ?_⟩
  · unfold placeZ
    rw [ha, if_neg (by show ¬ (i : Int) < 0; omega)]
  · rw [beside_some ha]
    by_cases hlt : (el.ks.length : Int) ≤ i + 1
    · rw [if_pos (Or.inr hlt), List.getD_eq_getElem?_getD, List.getElem?_eq_none (by omega)]
      rfl
    · rw [if_neg (by omega), show ((i : Int) + 1).toNat = i + 1 by omega]
  · rw [ups_head I h1, h2]
    rfl

set_option maxHeartbeats 8000000 in
theorem kids_walk {W : World} {v : Value} {xs : List Act6} (hp : ActsIn W v xs) (id : Int) : Calls Try.prog 4 #[v, .int .i64 id] W fun e w' => e = .returned (.bool true) ∧ Below W.heap.size W w' := by
  have hlight := rlight_any hp 80 (by decide)
  have HLV : Hid (∀ w', Calls Try.prog 7 #[] w' fun e w'' => e = .returned (.bool true) ∧ Below w'.heap.size w' w'') := fun w' => wlives_any w'
  have HTA : Hid (∀ w', Below W.heap.size W w' → xs.length ≤ 130 → _) := fun w' hw' hx => tree_any (W := w') (v := v) (xs := xs) ⟨hp.1.keep hw', hp.2⟩ hx
  obtain ⟨⟨av, cap, rfl, hcap, hmax, hx⟩, hsz⟩ := hp
  clear hx hsz
  go_enter Try.func4, Try.ntmps4
  go_wp2_with (go_at_call 6; fail)
  refine hlight.mono ?_
  rintro e w1 ⟨lb, rfl, hlen, hB1⟩
  have HB1 := hid_mk hB1
  clear hlight hB1
  cases lb with
  | false =>
    clear HTA
    go_wp2_with (go_at_call 7; refine (HLV.out _).mono ?_; rintro e w2 ⟨rfl, hB2⟩)
    go_ret
    exact ⟨rfl, HB1.out.trans (hB2.mono HB1.out.size)⟩
  | true =>
    have h80 := hlen rfl
    have hta := HTA.out w1 HB1.out (by omega)
    clear HTA hlen
    go_wp2_with (go_at_call 8; fail)
    refine hta.mono ?_
    rintro e w2 ⟨p, q, m, nx, L, rfl, hR, _, hT, hRT, hB2⟩
    have HB2 := hid_mk (HB1.out.trans (hB2.mono HB1.out.size))
    have HT := hid_mk hT
    obtain ⟨d, I⟩ := hT.2
    have HI := hid_mk I
    have HPL : Hid (∀ w' x, Below w2.heap.size w2 w' → _) := fun w' x hw' => place_pair (HT.out.keep hw') x
    have HAF : Hid (∀ w' x, Below w2.heap.size w2 w' → _) := fun w' x hw' => after_any (HT.out.keep hw') x
    have HDP : Hid (∀ w' x, Below w2.heap.size w2 w' → _) := fun w' x hw' => wdepth_any (HT.out.keep hw') x
    have hnd := tree_node HT.out id
    have hul := ups_le I id
    clear hta hR hT hRT hB2 I HB1 HT
    cases hm : m id with
    | none =>
      rw [hm] at hnd
      have hdp := fun w' (hw' : Below w2.heap.size w2 w') => HDP.out w' id hw'
      rw [ups_none hm] at hdp
      have HD := hid_mk hdp
      clear HPL HAF HDP HI hdp
      go_wp2_with (go_at_call 10; fail)
      refine hnd.mono ?_
      rintro x w4 ⟨s, rfl, hE, hB4⟩
      obtain ⟨w5, hw5⟩ : ∃ w5, w5 = w4.alloc (.cells #[.int .i64 s.id, .string s.tag, .int .i64 s.par, .slice s.ka s.kn s.kc, .slice s.aa s.an s.ac] 33) := ⟨_, rfl⟩
      have hA5 : Below w4.heap.size w4 w5 := by rw [hw5]; exact (Below.refl _ _).alloc (Nat.le_refl _) _
      have HB5 : Hid (Below w2.heap.size w2 w5) := hB4.trans (hA5.mono hB4.size)
      have hN5 : NodeAt w5 w4.heap.size s := by rw [hw5]; exact heap_alloc_last w4 _
      obtain ⟨⟨_, _, _, n3, _⟩, _, _, _, _, _, hgl⟩ := hN5.cells
      have HW5 := hid_mk hw5
      have hrow : RowAt w5 1 s.ka s.kn s.kc (intsV zeroEl.ks) := hE.2.2.2.1.keep hA5
      have hkn : s.kn = zeroEl.ks.length := by
        have := hrow.1
        simp only [intsV, List.length_map] at this
        omega
      clear hnd hE hB4 hA5 hw5
      clear hrow hkn hN5 n3 hgl
      go_upto_region 5 with (fail)
      rw [← HW5.out]
      go_wp2_with (go_at_call 14; fail)
      refine (HD.out w5 HB5.out).mono ?_
      rintro x w6 ⟨rfl, hB6⟩
      have HB6 := hid_mk (HB5.out.trans (hB6.mono HB5.out.size))
      go_wp2_with (go_at_call 7; fail)
      refine (HLV.out w6).mono ?_
      rintro e w7 ⟨rfl, hB7⟩
      go_wp2
      go_ret
      exact ⟨rfl, HB2.out.trans ((HB6.out.trans (hB7.mono HB6.out.size)).mono HB2.out.size)⟩
    | some el =>
      rw [hm] at hnd
      have HKM : Hid (∀ i (hi : i < el.ks.length), _) := fun i hi => kids_math HI.out hm i hi
      have hud : 0 < (ups m id).length := by rw [ups_head HI.out hm]; simp
      have hkl := HI.out.ksLen hm
      have hnb := HI.out.nxb
      go_wp2_with (go_at_call 10; fail)
      refine hnd.mono ?_
      rintro x w4 ⟨s, rfl, hE, hB4⟩
      obtain ⟨w5, hw5⟩ : ∃ w5, w5 = w4.alloc (.cells #[.int .i64 s.id, .string s.tag, .int .i64 s.par, .slice s.ka s.kn s.kc, .slice s.aa s.an s.ac] 33) := ⟨_, rfl⟩
      have hA5 : Below w4.heap.size w4 w5 := by rw [hw5]; exact (Below.refl _ _).alloc (Nat.le_refl _) _
      have HB5 : Hid (Below w2.heap.size w2 w5) := hB4.trans (hA5.mono hB4.size)
      have hN5 : NodeAt w5 w4.heap.size s := by rw [hw5]; exact heap_alloc_last w4 _
      obtain ⟨⟨_, _, _, n3, _⟩, _, _, _, _, _, hgl⟩ := hN5.cells
      have HW5 := hid_mk hw5
      have hrow : RowAt w5 1 s.ka s.kn s.kc (intsV el.ks) := hE.2.2.2.1.keep hA5
      have hkn : s.kn = el.ks.length := by
        have := hrow.1
        simp only [intsV, List.length_map] at this
        omega
      clear hnd hE hB4 hA5 hw5
      have HKN := hid_mk hkn
      clear hkn
      go_upto_region 5 with (fail)
      rw [← HW5.out]
      clear HW5
      have hkn := HKN.out
      clear HKN
      by_cases hks : el.ks.length = 0
      · rw [hkn, hks] at n3
        clear hkn
        have hdp := fun w' (hw' : Below w2.heap.size w2 w') => HDP.out w' id hw'
        have hgt : decide ((0 : Int) < ((ups m id).length : Int)) = true := by simp; omega
        generalize ((ups m id).length : Int) = D at *
        have HD := hid_mk hdp
        clear HPL HAF HDP HI hdp HKM hrow
        go_wp2_with (go_at_call 14; fail)
        refine (HD.out w5 HB5.out).mono ?_
        rintro x w6 ⟨rfl, hB6⟩
        have HB6 := hid_mk (HB5.out.trans (hB6.mono HB5.out.size))
        go_wp2_with (go_at_call 7; fail)
        refine (HLV.out w6).mono ?_
        rintro e w7 ⟨rfl, hB7⟩
        go_wp2
        go_ret
        exact ⟨rfl, HB2.out.trans ((HB6.out.trans (hB7.mono HB6.out.size)).mono HB2.out.size)⟩
      · have hpos : 0 < el.ks.length := by omega
        have hk0 : ((el.ks.length : Int) == 0) = false := beq_eq_false_iff_ne.2 (by omega)
        obtain ⟨ab, ao, hka, hal, hc0⟩ := hrow.intAt hpos
        rw [hkn] at n3 hrow
        rw [hka] at n3 hrow
        have HF : Hid (∀ w', Below w5.heap.size w5 w' → w'.cell? ⟨w4.heap.size, 3, none⟩ = some (.slice (some ⟨ab, ao, none⟩) el.ks.length s.kc)) := fun w' hw' => (hw'.cell (p := ⟨w4.heap.size, 3, none⟩) hgl).trans n3
        have HC : Hid (∀ w', Below w5.heap.size w5 w' → ∀ t (ht : t < el.ks.length), w'.cell? ⟨ab, ao + t, none⟩ = some (.int .i64 el.ks[t])) := fun w' hw' t ht => by
          obtain ⟨ab', ao', e1, l1, g1⟩ := hrow.intAt ht
          cases e1
          exact (hw'.cell (p := ⟨ab, ao + t, none⟩) l1).trans g1
        have HB25 : Hid (∀ w', Below w5.heap.size w5 w' → Below w2.heap.size w2 w') := fun w' hw' => HB5.out.trans (hw'.mono HB5.out.size)
        have hg0 : el.ks.getD 0 0 = el.ks[0] := by rw [List.getD_eq_getElem?_getD, List.getElem?_eq_getElem hpos]; rfl
        have HG0 := hid_mk hg0
        have hc0' : w5.cell? ⟨ab, ao, none⟩ = some (.int .i64 el.ks[0]) := hc0
        clear hrow hN5 hka hg0 HI
        generalize hkz : el.ks[0] = k0 at *
        clear hkz
        clear hkn
        go_upto_region 8 with (fail)
        clear hc0 hc0'
        go_wp2
        go_loopw [9, 52] (fun a9 a52 wr => ∃ i : Nat, i ≤ el.ks.length ∧ a9 = .int .i64 (el.ks.getD i 0) ∧ a52 = .int .i64 (i : Int) ∧ Hid (Below w5.heap.size w5 wr)) (fun _ a52 _ => el.ks.length + 1 - (intOf a52).toNat)
        case atStart => exact ⟨0, Nat.zero_le _, by rw [HG0.out], rfl, hid_mk (Below.refl _ _)⟩
        case round =>
          clear n3 HG0
          obtain ⟨i, hi, rfl, rfl, HB⟩ := hrel
          by_cases hlt : i < el.ks.length
          · obtain ⟨e1, e2, e3⟩ := HKM.out i hlt
            have hgi : el.ks.getD i 0 = el.ks[i] := by rw [List.getD_eq_getElem?_getD, List.getElem?_eq_getElem hlt]; rfl
            have HP : Hid (∀ w', Below w5.heap.size w5 w' → _) := fun w' hw' => HPL.out w' el.ks[i] (HB25.out w' hw')
            have HA : Hid (∀ w', Below w5.heap.size w5 w' → _) := fun w' hw' => HAF.out w' el.ks[i] (HB25.out w' hw')
            have HD : Hid (∀ w', Below w5.heap.size w5 w' → _) := fun w' hw' => HDP.out w' id (HB25.out w' hw')
            have HK : Hid (∀ w', Below w5.heap.size w5 w' → _) := fun w' hw' => HDP.out w' el.ks[i] (HB25.out w' hw')
            rw [e1] at HP
            rw [e2] at HA
            rw [e3] at HK
            rw [hgi]
            have HCI : Hid (∀ w', Below w5.heap.size w5 w' → w'.cell? ⟨ab, ao + i, none⟩ = some (.int .i64 el.ks[i])) := fun w' hw' => HC.out w' hw' i hlt
            have hw1 : IntKind.i64.wrap ((i : Int) + 1) = (i : Int) + 1 := by rw [IntKind.wrap_i64]; omega
            have hw2 : IntKind.i64.wrap ((el.ks.length : Int) - i) = (el.ks.length : Int) - i := by rw [IntKind.wrap_i64]; omega
            have hw3 : IntKind.i64.wrap (((ups m id).length : Int) + 1) = (((ups m id).length + 1 : Nat) : Int) := by rw [IntKind.wrap_i64]; omega
            clear HPL HAF HDP HC HKM e1 e2 e3 hgi
            obtain ⟨k2, hk2⟩ : ∃ k2, k2 = el.ks.getD (i + 1) 0 := ⟨_, rfl⟩
            rw [← hk2] at HA
            have HK2 := hid_mk hk2
            clear hk2
            generalize el.ks[i] = k at *
            generalize (((ups m id).length + 1 : Nat) : Int) = D1 at *
            generalize ((ups m id).length : Int) = D at *
            go_wp2_with (go_at_call 13; fail)
            refine (HP.out wr HB.out).mono ?_
            rintro x w6 ⟨rfl, hB6⟩
            have HB6 := hid_mk (HB.out.trans (hB6.mono HB.out.size))
            have f6 := HF.out w6 HB6.out
            have c6 := HCI.out w6 HB6.out
            clear HP hB6 HB
            go_wp2_with (go_at_call 14; fail)
            refine (HK.out w6 HB6.out).mono ?_
            rintro x w7 ⟨rfl, hB7⟩
            have HB7 := hid_mk (HB6.out.trans (hB7.mono HB6.out.size))
            clear HK hB7 HB6 f6 c6
            go_wp2_with (go_at_call 14; fail)
            refine (HD.out w7 HB7.out).mono ?_
            rintro x w8 ⟨rfl, hB8⟩
            have HB8 := hid_mk (HB7.out.trans (hB8.mono HB7.out.size))
            clear HD hB8 HB7
            go_wp2_with (go_at_call 11; fail)
            refine (HA.out w8 HB8.out).mono ?_
            rintro x w9 ⟨rfl, hB9⟩
            have HB9 := hid_mk (HB8.out.trans (hB9.mono HB8.out.size))
            clear HA hB9 HB8
            go_wp2
            exact ⟨⟨i + 1, hlt, by rw [HK2.out], by go_num, HB9⟩, by simp only [intOf]; omega⟩
          · obtain rfl : i = el.ks.length := by omega
            have hg : el.ks.getD el.ks.length 0 = 0 := by rw [List.getD_eq_getElem?_getD, List.getElem?_eq_none (Nat.le_refl _)]; rfl
            rw [hg]
            clear HPL HAF HDP HC HKM HF hg
            go_wp2_with (go_at_call 7; fail)
            refine (HLV.out wr).mono ?_
            rintro e w7 ⟨rfl, hB7⟩
            go_wp2
            go_ret
            exact ⟨rfl, HB2.out.trans ((HB25.out _ (HB.out.trans (hB7.mono HB.out.size))).mono HB2.out.size)⟩

end Go.Proofs.Ytoncgmnccgegmaa.N
