/- The document's SetAttr: the walk. The document's SetAttr, by the elements' numbers. The document's Move: what it refuses. -/
import Derived.Test.YtdiljkmlneeboaaGreatRfZ
import Derived.Deep.RegionLaw
import Derived.Deep.DeepCutAuto
import Derived.Test.YtdiljkmlneeboaaGreatMovN
namespace Go.Proofs.YtdiljkmlneeboaaGreat.N
open Go.RowKit
set_option maxRecDepth 100000

set_option maxHeartbeats 8000000 in
theorem rset_walk {w : World} {b : Nat} {L : List El} {m : M} {nx : Int} (h : RTree w (.pointer (some ⟨b, 0, none⟩)) L m nx) (hnx : nx ≤ 100000) (id : Int) (nm v : ByteArray) (hs : nm.size ≤ 281474976710656) {t : Nat} (ht : t < L.length) (hat : atZ L id = t) (hm : m id = some L[t]) (hnz : nameZ nm = true) (hvs : v.size ≤ 1000) (hok : ¬ ((valA L[t].us nm).isSome = false ∧ 16 ≤ L[t].us.length)) : Calls Tryz.prog 67 #[.pointer (some ⟨b, 0, none⟩), .int .i64 id, .string nm, .string v] w fun x w' => ∃ b', x = .returned (.tuple #[.pointer (some ⟨b', 0, none⟩), .int .i64 0]) ∧ RDoc w' (.pointer (some ⟨b', 0, none⟩)) (L.set t { L[t] with us := allU nm v L[t].us }) nx ∧ Below w.heap.size w w' := by
  have hlen := h.len
  have hnd := rt_node h id
  rw [hm] at hnd
  have HAR : Hid (∀ w', Below w.heap.size w w' → _) := fun w' hw' => rattr_any (h.keep hw') id nm
  have HCP : Hid (∀ w', Below w.heap.size w w' → _) := fun w' hw' => rcopy_any (h.keep hw') (by omega)
  have hul : L[t].us.length ≤ 1000 := (h.small _ (List.getElem_mem ht)).2
  have HAT := hid_mk hat
  have hav : attrZ m id nm = valA L[t].us nm := by unfold attrZ; rw [hm]
  have HNM : Hid (∀ w', Calls Tryz.prog 102 #[.string nm] w' fun e w'' => e = .returned (.bool true) ∧ w' = w'') := fun w' => by
    have := refName_any nm w' hs
    rwa [hnz] at this
  obtain ⟨el, hel⟩ : ∃ el, el = L[t] := ⟨_, rfl⟩
  rw [← hel] at hnd hul hok hav
  have HEL := hid_mk hel
  obtain ⟨i5, z5, hi0, hz0, hz1, hz2, hz3⟩ := info56r
  have HI0 := hid_mk hi0
  have HZ0 := hid_mk hz0
  have HZ1 := hid_mk hz1
  have HZ2 := hid_mk hz2
  have HZ3 := hid_mk hz3
  clear h hm hat hnz hs hel hi0 hz0 hz1 hz2 hz3
  go_enter Tryz.func67, Tryz.ntmps67
  go_wp2_with (go_at_call 33; fail)
  refine hnd.mono ?_
  rintro x w2 ⟨s, rfl, hE0, _, hB2⟩
  have hE : ElAt w2 s el := hE0
  have han : s.an = el.us.length := hE.an
  obtain ⟨w3, hw3⟩ : ∃ w3, w3 = w2.alloc (.cells #[.int .i64 s.id, .string s.tag, .int .i64 s.par, .slice s.ka s.kn s.kc, .slice s.aa s.an s.ac] 76) := ⟨_, rfl⟩
  have hB23 : Below w2.heap.size w2 w3 := by rw [hw3]; exact (Below.refl _ _).alloc (Nat.le_refl _) _
  have HB3 : Hid (Below w.heap.size w w3) := hB2.trans (hB23.mono hB2.size)
  have hN3 : NodeAt w3 w2.heap.size s := by rw [hw3]; exact heap_alloc_last w2 _
  obtain ⟨id0, tag0, par0, ka, kn, kc, aa, an, ac⟩ := s
  dsimp only at *
  subst han
  obtain ⟨⟨_, _, _, _, n4⟩, _, _, _, _, _, hgl⟩ := hN3.cells
  dsimp only at n4
  have hR3 := (hE.keep hB23).2.2.2.2
  have hcap1 := hR3.2.1
  have hcap2 := hR3.2.2.1
  dsimp only at hcap1 hcap2
  unfold maxLen at hcap2
  have HAC : Hid (∀ W', Below w3.heap.size w3 W' → ∀ i (hi : i < el.us.length), ∃ ab ao, aa = some ⟨ab, ao, none⟩ ∧ W'.cell? ⟨ab, ao + i * 2, none⟩ = some (.string el.us[i].1) ∧ W'.cell? ⟨ab, ao + i * 2 + 1, none⟩ = some (.string el.us[i].2)) := fun W' hW' i hi => by
    rcases (hR3.keep hW').2.2.2.2 with ⟨_, h0⟩ | ⟨ab, ao, e1, l1, g1⟩
    · have h0' : ac = 0 := h0
      omega
    · obtain ⟨q1, q2⟩ := attrsV_at hi
      refine ⟨ab, ao, e1, g1 _ _ q1, ?_⟩
      have := g1 _ _ q2
      rwa [← Nat.add_assoc] at this
  have HN4 : Hid (∀ W, Below w3.heap.size w3 W → W.cell? ⟨w2.heap.size, 4, none⟩ = some (.slice aa el.us.length ac)) := fun W hW => (hW.cell (p := ⟨w2.heap.size, 4, none⟩) hgl).trans n4
  have HW3 := hid_mk hw3
  have har := HAR.out w3 HB3.out
  rw [hav] at har
  clear hnd hE hE0 hB2 hw3 hN3 hB23 hgl hR3 HAR hav
  go_upto_region 2 with (fail)
  rw [← HW3.out]
  generalize (valA el.us nm).isSome = q at *
  generalize (valA el.us nm).getD ⟨#[]⟩ = q2 at *
  go_upto_region 9 with (first
    | (go_at_call 34; refine har.mono ?_; clear har; rintro e w4 ⟨rfl, hB4⟩; have y4 := HN4.out w4 hB4; have HB34 := hid_mk hB4; have hnm := HNM.out w4; clear hB4)
    | (go_at_call 102; refine hnm.mono ?_; clear hnm; rintro e w5 ⟨rfl, rfl⟩))
  go_cut [46] (fun s46 wx => s46 = .bool false ∧ wx = w4)
  case first =>
    cases q with
    | true =>
      go_wp2_with fail
      go_meet
      exact ⟨rfl, rfl⟩
    | false =>
      have h15 : el.us.length < 16 := by
        by_cases h : 16 ≤ el.us.length
        · exact absurd ⟨rfl, h⟩ hok
        · omega
      have h16 : ¬ (16 : Int) ≤ (el.us.length : Int) := by omega
      have h17 : decide ((16 : Int) ≤ (el.us.length : Int)) = false := decide_eq_false h16
      go_wp2_with fail
      go_meet
      exact ⟨rfl, rfl⟩
  case rest =>
  obtain ⟨rfl, hwc⟩ := hcut
  subst hwc
  obtain ⟨w4, hw4⟩ : ∃ w4, w4 = wc := ⟨_, rfl⟩
  subst hw4
  go_wp2
  have HB4 := hid_mk (HB3.out.trans (HB34.out.mono HB3.out.size))
  go_loopw [14, 15, 59] (fun a14 a15 a59 wq => ∃ i : Nat, i ≤ el.us.length ∧ a59 = .int .i64 (i : Int) ∧ a15 = .bool (accU nm v (el.us.take i)).2 ∧ Hid (wq.ownsRow w4.heap.size 128 2 a14 (accU nm v (el.us.take i)).1.length (attrsV (accU nm v (el.us.take i)).1)) ∧ Hid (Below w4.heap.size w4 wq)) (fun _ _ a59 _ => el.us.length + 1 - (intOf a59).toNat)
  case atStart => exact ⟨0, Nat.zero_le _, rfl, rfl, ⟨by simp [accU, attrsV], .inl ⟨rfl, by simp [accU]⟩⟩, hid_mk (Below.refl _ _)⟩
  case round =>
    clear y4 n4
    obtain ⟨i, hi, rfl, rfl, HO, HB⟩ := hrel
    have HB3r : Hid (Below w3.heap.size w3 wr) := HB34.out.trans (HB.out.mono HB34.out.size)
    by_cases hil : i < el.us.length
    · obtain ⟨ab, ao, rfl, q1, q2'⟩ := HAC.out wr HB3r.out i hil
      have htake : el.us.take (i + 1) = el.us.take i ++ [el.us[i]] := by rw [List.take_add_one, List.getElem?_eq_getElem hil]; rfl
      have HACC : Hid (accU nm v (el.us.take (i + 1)) = put2 nm (put1 nm v (accU nm v (el.us.take i)) el.us[i]) el.us[i]) := by rw [Hid, htake, accU_app]
      have hln : (accU nm v (el.us.take i)).1.length ≤ 2000 := by
        have := accU_len nm v (el.us.take i)
        rw [List.length_take] at this
        omega
      generalize accU nm v (el.us.take i) = st at *
      obtain ⟨l0, d0⟩ := st
      dsimp only at *
      generalize el.us[i] = pr at *
      obtain ⟨x1, x2⟩ := pr
      dsimp only at *
      obtain ⟨w5, hw5⟩ : ∃ w5, w5 = wr.alloc (.cells #[.string x1, .string x2] 128) := ⟨_, rfl⟩
      have hA5 : Below wr.heap.size wr w5 := by rw [hw5]; exact (Below.refl _ _).alloc (Nat.le_refl _) _
      have hb5 : w5.heap[wr.heap.size]? = some (.cells #[.string x1, .string x2] 128 (0, 0)) := by rw [hw5]; exact heap_alloc_last wr _
      have HB5 := hid_mk (HB.out.trans (hA5.mono HB.out.size))
      have hl5 : wr.heap.size < w5.heap.size := (Array.getElem?_eq_some_iff.1 hb5).1
      have HK : Hid (∀ W, Below w5.heap.size w5 W → W.cell? ⟨wr.heap.size, 0, none⟩ = some (.string x1) ∧ W.cell? ⟨wr.heap.size, 1, none⟩ = some (.string x2)) := fun W hW => by
        have h7 := (hW.block _ hl5).trans hb5
        exact ⟨by simp [World.cell?, h7], by simp [World.cell?, h7]⟩
      obtain ⟨k0, k1⟩ := HK.out w5 (Below.refl _ _)
      have HO5 := hid_mk (ownsRow_below HO.out hA5)
      have HRB : Hid (∀ g, u14.ownBlock = some g → g < wr.heap.size) := fun g hg => (HO.out.lt g hg).2
      have HBX := hid_mk hb5
      have HW5 := hid_mk hw5
      clear HAC htake HO hA5 hb5 hw5
      go_upto_region 16 with (fail)
      rw [← HW5.out]
      go_cut [70] (fun s70 wx => s70 = .bool (geB x1 nm && !d0) ∧ wx = w5)
      case first =>
        cases hg : Op.bytesLess x1.toList nm.toList <;> cases d0
        all_goals
          go_wp2_with fail
          go_meet
          exact ⟨by simp [geB, hg], rfl⟩
      case rest =>
      obtain ⟨rfl, hwc⟩ := hcut
      subst hwc
      obtain ⟨w5, hw5⟩ : ∃ w5, w5 = wc := ⟨_, rfl⟩
      subst hw5
      go_upto_if 70 with fail
      go_cut [14, 15] (fun s14 s15 wx => s15 = .bool (put1 nm v (l0, d0) (x1, x2)).2 ∧ Hid (wx.ownsRow w4.heap.size 128 2 s14 (put1 nm v (l0, d0) (x1, x2)).1.length (attrsV (put1 nm v (l0, d0) (x1, x2)).1)) ∧ Hid (Below w4.heap.size w4 wx) ∧ Hid (wx.heap[wr.heap.size]? = some (.cells #[.string x1, .string x2] 128 (0, 0))))
      case first =>
        cases hc : (geB x1 nm && !d0) with
        | false =>
          have HP : Hid (put1 nm v (l0, d0) (x1, x2) = (l0, d0)) := by rw [Hid, put1, if_neg (by rw [hc]; simp)]
          clear HK
          go_wp2_with fail
          go_meet
          rw [HP.out]
          exact ⟨rfl, HO5, HB5, HBX⟩
        | true =>
          have HP : Hid (put1 nm v (l0, d0) (x1, x2) = (l0 ++ [(nm, v)], true)) := by rw [Hid, put1, if_pos (by rw [hc])]
          have hA6 : Below w5.heap.size w5 (w5.alloc (.cells #[.string nm, .string v] 128)) := (Below.refl _ _).alloc (Nat.le_refl _) _
          have hown := ownsRow_below HO5.out hA6
          have hrow : RowAt (w5.alloc (.cells #[.string nm, .string v] 128)) 2 (some ⟨w5.heap.size, 0, none⟩) 1 1 (attrsV [(nm, v)]) := row_two (heap_alloc_last w5 _)
          have hBs : w4.heap.size ≤ (w5.alloc (.cells #[.string nm, .string v] 128)).heap.size := Nat.le_trans HB5.out.size hA6.size
          have HBA := hid_mk hA6
          have hi0 := HI0.out
          have hz0 := HZ0.out
          have hz1 := HZ1.out
          have hz2 := HZ2.out
          have hz3 := HZ3.out
          clear HK hA6
          go_wp2_with (at_builtin; go_must (refine wpList_append_rowAt rfl _ _ 74 rfl (B := w4.heap.size) Tryz.underlying74 hi0 hz0 hz1 hz2 hz3 (by decide) (by decide) rfl rfl hown hrow (by omega) hBs ?_); intro v' w6 hown6 hgrow6 _; have HO6 := hid_mk hown6; have HG6 := hid_mk hgrow6; clear hown6 hgrow6)
          go_meet
          rw [HP.out, List.length_append, attrsV_app]
          have hB6 : Below w4.heap.size w4 w6 := (HB5.out.trans (HBA.out.mono HB5.out.size)).grown HG6.out (HB5.out.trans (HBA.out.mono HB5.out.size)).size (fun k hk => (HO5.out.lt k hk).1)
          refine ⟨rfl, HO6, hB6, ?_⟩
          exact (HG6.out.block _ (Nat.lt_of_lt_of_le hl5 HBA.out.size) (fun e => Nat.lt_irrefl _ (HRB.out _ e.symm))).trans ((HBA.out.block _ hl5).trans HBX.out)
      case rest =>
      obtain ⟨hs15, HO7, HB7, HBX7⟩ := hcut
      subst hs15
      have hln7 : (put1 nm v (l0, d0) (x1, x2)).1.length ≤ 2001 := by
        have := put1_len nm v (l0, d0) (x1, x2)
        dsimp only at this
        omega
      generalize put1 nm v (l0, d0) (x1, x2) = st1 at *
      obtain ⟨l1, d1⟩ := st1
      dsimp only at *
      clear k0 k1 HK HO5 HB5 hl5 HBX HRB HW5
      obtain ⟨w7, hw7⟩ : ∃ w7, w7 = wc := ⟨_, rfl⟩
      subst hw7
      have hx7 := HBX7.out
      have k0 : w7.cell? ⟨wr.heap.size, 0, none⟩ = some (.string x1) := by simp [World.cell?, hx7]
      have k1 : w7.cell? ⟨wr.heap.size, 1, none⟩ = some (.string x2) := by simp [World.cell?, hx7]
      clear hx7
      cases hq : (x1 == nm) with
      | true =>
        have hq2 : (x1.toList == nm.toList) = true := by rw [← beq_toListBytes]; exact hq
        have hq3 : (x1 != nm) = false := by simp [bne, hq]
        have HE : Hid (accU nm v (el.us.take (i + 1)) = (l1, d1)) := by rw [Hid, HACC.out, put2, if_pos hq]
        go_wp2
        refine ⟨⟨i + 1, hil, by go_num, ?_, ?_, HB7⟩, by simp only [intOf]; omega⟩
        · rw [HE.out]
        · rw [HE.out]
          exact HO7
      | false =>
        have hq2 : (x1.toList == nm.toList) = false := by rw [← beq_toListBytes]; exact hq
        have hq3 : (x1 != nm) = true := by simp [bne, hq]
        have HE : Hid (accU nm v (el.us.take (i + 1)) = (l1 ++ [(x1, x2)], d1)) := by rw [Hid, HACC.out, put2, if_neg (by rw [hq]; simp)]
        have hA8 : Below w7.heap.size w7 (w7.alloc (.cells #[.string x1, .string x2] 128)) := (Below.refl _ _).alloc (Nat.le_refl _) _
        have hown := ownsRow_below HO7.out hA8
        have hrow : RowAt (w7.alloc (.cells #[.string x1, .string x2] 128)) 2 (some ⟨w7.heap.size, 0, none⟩) 1 1 (attrsV [(x1, x2)]) := row_two (heap_alloc_last w7 _)
        have hBs : w4.heap.size ≤ (w7.alloc (.cells #[.string x1, .string x2] 128)).heap.size := Nat.le_trans HB7.out.size hA8.size
        have HBA := hid_mk (HB7.out.trans (hA8.mono HB7.out.size))
        have hi0 := HI0.out
        have hz0 := HZ0.out
        have hz1 := HZ1.out
        have hz2 := HZ2.out
        have hz3 := HZ3.out
        clear hA8
        go_wp2_with (at_builtin; go_must (refine wpList_append_rowAt rfl _ _ 74 rfl (B := w4.heap.size) Tryz.underlying74 hi0 hz0 hz1 hz2 hz3 (by decide) (by decide) rfl rfl hown hrow (by omega) hBs ?_); intro v' w8 hown8 hgrow8 _; have HO8 := hid_mk hown8; have HB8 : Hid (Below w4.heap.size w4 w8) := HBA.out.grown hgrow8 HBA.out.size (fun k hk => (hown.lt k hk).1); clear hown8 hgrow8)
        refine ⟨⟨i + 1, hil, by go_num, ?_, ?_, HB8⟩, by simp only [intOf]; omega⟩
        · rw [HE.out]
        · rw [HE.out, List.length_append, attrsV_app]
          exact HO8
    · obtain rfl : i = el.us.length := by omega
      rw [List.take_length] at HO ⊢
      have hln : (accU nm v el.us).1.length ≤ 2000 := by
        have := accU_len nm v el.us
        omega
      have HALL : Hid (allU nm v el.us = if (accU nm v el.us).2 then (accU nm v el.us).1 else (accU nm v el.us).1 ++ [(nm, v)]) := rfl
      generalize accU nm v el.us = st at *
      obtain ⟨l0, d0⟩ := st
      dsimp only at *
      clear HAC HN4 hcap1 hcap2 hi
      go_upto_if 87 with fail
      go_cut [14] (fun s14 wx => Hid (wx.ownsRow w4.heap.size 128 2 s14 (allU nm v el.us).length (attrsV (allU nm v el.us))) ∧ Hid (Below w4.heap.size w4 wx))
      case first =>
        cases d0 with
        | true =>
          have HE : Hid (allU nm v el.us = l0) := HALL.out
          go_wp2_with fail
          go_meet
          rw [HE.out]
          exact ⟨HO, HB⟩
        | false =>
          have HE : Hid (allU nm v el.us = l0 ++ [(nm, v)]) := HALL.out
          have hA6 : Below wr.heap.size wr (wr.alloc (.cells #[.string nm, .string v] 128)) := (Below.refl _ _).alloc (Nat.le_refl _) _
          have hown := ownsRow_below HO.out hA6
          have hrow : RowAt (wr.alloc (.cells #[.string nm, .string v] 128)) 2 (some ⟨wr.heap.size, 0, none⟩) 1 1 (attrsV [(nm, v)]) := row_two (heap_alloc_last wr _)
          have hBs : w4.heap.size ≤ (wr.alloc (.cells #[.string nm, .string v] 128)).heap.size := Nat.le_trans HB.out.size hA6.size
          have HBA := hid_mk (HB.out.trans (hA6.mono HB.out.size))
          have hi0 := HI0.out
          have hz0 := HZ0.out
          have hz1 := HZ1.out
          have hz2 := HZ2.out
          have hz3 := HZ3.out
          clear hA6
          go_wp2_with (at_builtin; go_must (refine wpList_append_rowAt rfl _ _ 74 rfl (B := w4.heap.size) Tryz.underlying74 hi0 hz0 hz1 hz2 hz3 (by decide) (by decide) rfl rfl hown hrow (by omega) hBs ?_); intro v' w8 hown8 hgrow8 _; have HO8 := hid_mk hown8; have HB8 : Hid (Below w4.heap.size w4 w8) := HBA.out.grown hgrow8 HBA.out.size (fun k hk => (hown.lt k hk).1); clear hown8 hgrow8)
          go_meet
          rw [HE.out, List.length_append, attrsV_app]
          exact ⟨HO8, HB8⟩
      case rest =>
      obtain ⟨HOc, HBc⟩ := hcut
      obtain ⟨a9, c9, h14, hr9, hn9⟩ := RowAt.of_owns HOc.out (attrsV_one _)
      subst h14
      have HB0 := hid_mk (HB4.out.trans (HBc.out.mono HB4.out.size))
      have hcp := HCP.out wc HB0.out
      have HR9 := hid_mk hr9
      clear HO hr9 hn9 HCP HOc HALL
      go_upto_region 25 with (go_at_call 104; refine hcp.mono ?_; clear hcp; rintro e w6 ⟨bx, rfl, hO6, hB6⟩; have HO6 := hid_mk hO6; have HB6 := hid_mk hB6; clear hO6 hB6)
      have HD6 := hid_mk HO6.out.doc
      obtain ⟨hbx, v, hd6, hLO⟩ := HO6.out
      obtain ⟨va, vc, rfl, hls⟩ := hLO.ls
      obtain ⟨s1, ab, ao, e1, hgl, _, _, _, _, _, r4⟩ := hls.at ht
      subst e1
      obtain ⟨ss, h1, _, _, _, hob⟩ := hLO
      obtain ⟨rfl, hb4, cur, hcur⟩ : ao = 0 ∧ wc.heap.size ≤ ab ∧ ∃ cur, w6.heap[ab]? = some (.cells cur 128 (0, 0)) ∨ w6.heap[ab]? = some (.cells cur 76 (0, 0)) := by
        rcases h1.2 with ⟨e, _⟩ | ⟨g, cap, cur, e, hge, hg, _⟩
        · cases e
        · cases e
          exact ⟨rfl, hge, cur, .inr hg⟩
      have hLO2 := HO6.out.2
      rw [Nat.zero_add] at r4
      have hcap := hls.cap
      have hdl : bx < w6.heap.size := (Array.getElem?_eq_some_iff.1 hd6).1
      have hne1 : bx ≠ ab := fun e => hob (by rw [e]; rfl)
      have HF : Hid (∀ W, Below w6.heap.size w6 W → W.cell? ⟨bx, 0, none⟩ = some (.slice (some ⟨ab, 0, none⟩) L.length vc)) := fun W hW => by
        have h7 := (hW.block _ hdl).trans hd6
        simp [World.cell?, h7]
      have HFS : Hid (∀ W u, Below w6.heap.size w6 W → (W.setCell ⟨ab, t * 5 + 4, none⟩ u).cell? ⟨bx, 0, none⟩ = some (.slice (some ⟨ab, 0, none⟩) L.length vc)) := fun W u hW => (World.cell?_of_block (a := ⟨bx, 0, none⟩) (Below.heap_setCell W ⟨ab, t * 5 + 4, none⟩ u bx hne1)).trans (HF.out W hW)
      have HRW : Hid (∀ W, Below w6.heap.size w6 W → W.cell? ⟨ab, t * 5 + 4, none⟩ = some (.slice s1.aa s1.an s1.ac) ∧ W.frozen? ⟨ab, t * 5 + 4, none⟩ = false) := fun W hW => ⟨(hW.cell (p := ⟨ab, t * 5 + 4, none⟩) hgl).trans r4, by rcases hcur with hc | hc <;> simp [World.frozen?, (hW.block _ hgl).trans hc]⟩
      have HFIN : Hid (∀ W, Below w6.heap.size w6 W → Hid (ROwn wc.heap.size (W.setCell ⟨ab, t * 5 + 4, none⟩ (.slice a9 (allU nm v el.us).length c9)) bx (L.set t { el with us := allU nm v el.us }) nx) ∧ Hid (Below wc.heap.size wc (W.setCell ⟨ab, t * 5 + 4, none⟩ (.slice a9 (allU nm v el.us).length c9)))) := fun W hW => by
        obtain ⟨v2, hd2, hLO3⟩ := hLO2
        have ev : v2 = .slice (some ⟨ab, 0, none⟩) L.length vc := by
          rw [hd6] at hd2
          injection hd2 with hd2
          injection hd2 with hd2
          have := congrArg (fun c : Array Value => c[0]?) hd2
          simpa using this.symm
        subst ev
        have hlow := HR9.out.low
        have hk := (hLO3.keep hW).attrs ht (g := ab) rfl (HR9.out.keep (HB6.out.trans (hW.mono HB6.out.size))) (fun x hx e => by have := hlow x hx; omega) (fun x hx e => by have := hlow x hx; omega)
        rw [← HEL.out] at hk
        exact ⟨⟨hbx, _, (Below.heap_setCell W ⟨ab, t * 5 + 4, none⟩ _ bx hne1).trans ((hW.block _ hdl).trans hd6), hk⟩, (HB6.out.trans (hW.mono HB6.out.size)).setCell (p := ⟨ab, t * 5 + 4, none⟩) hb4 _⟩
      have HATC : Hid (∀ W, Below w6.heap.size w6 W → Calls Tryz.prog 74 #[.pointer (some ⟨bx, 0, none⟩), .int .i64 id] W fun x w' => x = .returned (.int .i64 (t : Int)) ∧ (w'.cell? ⟨ab, t * 5 + 4, none⟩ = some (.slice s1.aa s1.an s1.ac) ∧ w'.frozen? ⟨ab, t * 5 + 4, none⟩ = false) ∧ Below w6.heap.size w6 w') := fun W hW => by
        have := rat_any (HD6.out.keep hW) id
        rw [HAT.out] at this
        refine this.mono ?_
        rintro x w' ⟨rfl, hB⟩
        have hb := hW.trans (hB.mono hW.size)
        exact ⟨rfl, HRW.out _ hb, hb⟩
      have HB0W := hid_mk HB0.out
      clear hls r4 h1 hcur hbx hdl hgl hd6 hob hb4 hne1 hLO2 HO6 HB6 HD6
      have gd : Below w6.heap.size w6 w6.drew := (Below.refl _ _).drew
      go_region_held3 (fun w' => w'.cell? ⟨bx, 0, none⟩ = some (.slice (some ⟨ab, 0, none⟩) L.length vc))
        (first | with_reducible exact HF.out _ gd | with_reducible exact HF.out _ ga | with_reducible exact HFS.out _ _ ga)
        (first
          | (go_at_call 74; with_reducible refine (HATC.out _ gd).mono ?_; rintro e wa ⟨rfl, ⟨i1, i2⟩, ga⟩))
      all_goals
        obtain ⟨HOE, HBE⟩ := HFIN.out _ ga
        have HDE := hid_mk HOE.out.doc
        have heq : L.set t { el with us := allU nm v el.us } = L.set t { L[t] with us := allU nm v L[t].us } := by rw [HEL.out]
        rw [heq] at HDE
        clear heq
        go_wp2
        go_ret2
        exact ⟨bx, rfl, HDE.out, HB0W.out.trans (HBE.out.mono HB0W.out.size)⟩


end Go.Proofs.YtdiljkmlneeboaaGreat.N
namespace Go.Proofs.YtdiljkmlneeboaaGreat.N
open Go.RowKit
set_option maxRecDepth 100000

theorem less_dec : ∀ (a b : List UInt8), Op.bytesLess a b = decide (Lib.compareBytes a b < 0)
  | [], [] => by simp [Lib.compareBytes, Op.bytesLess]
  | [], _ :: _ => by simp [Lib.compareBytes, Op.bytesLess]
  | _ :: _, [] => by simp [Lib.compareBytes, Op.bytesLess]
  | x :: a, y :: b => by
    have ih := less_dec a b
    unfold Lib.compareBytes Op.bytesLess
    by_cases h1 : x < y
    · simp [h1]
    · rw [if_neg h1]
      by_cases h2 : y < x
      · rw [if_pos h2]
        have : x ≠ y := fun e => by subst e; exact h1 h2
        simp [h1, this]
      · rw [if_neg h2]
        have : x = y := UInt8.le_antisymm (UInt8.not_lt.1 h2) (UInt8.not_lt.1 h1)
        subst this
        rw [← ih]
        simp
theorem geB_cmp (a nm : ByteArray) : geB a nm = decide (0 ≤ cmpB a nm) := by
  unfold geB cmpB
  rw [less_dec, ByteArray.toList_eq, ByteArray.toList_eq]
  by_cases h : Lib.compareBytes a.data.toList nm.data.toList < 0
  · have h2 : ¬ 0 ≤ Lib.compareBytes a.data.toList nm.data.toList := by omega
    simp [h, h2]
  · have h2 : 0 ≤ Lib.compareBytes a.data.toList nm.data.toList := by omega
    simp [h, h2]
theorem fold_lo (nm v : ByteArray) : ∀ (us : Us) (st : Us × Bool), (∀ p ∈ us, cmpB p.1 nm < 0) → us.foldl (fun st a => put2 nm (put1 nm v st a) a) st = (st.1 ++ us, st.2)
  | [], st, _ => by simp
  | a :: r, st, h => by
    have ha := h a (by simp)
    have h1 : geB a.1 nm = false := by rw [geB_cmp]; simp; omega
    have h2 : (a.1 == nm) = false := by rw [← cmp_eq]; simp; omega
    rw [List.foldl_cons, put1, h1, Bool.false_and, if_neg (by simp), put2, h2, if_neg (by simp), fold_lo nm v r _ fun p hp => h p (by simp [hp])]
    simp
theorem fold_hi (nm v : ByteArray) : ∀ (us : Us) (l : Us), (∀ p ∈ us, 0 < cmpB p.1 nm) → us.foldl (fun st a => put2 nm (put1 nm v st a) a) (l, true) = (l ++ us, true)
  | [], l, _ => by simp
  | a :: r, l, h => by
    have ha := h a (by simp)
    have h2 : (a.1 == nm) = false := by rw [← cmp_eq]; simp; omega
    rw [List.foldl_cons, put1]
    simp only [Bool.not_true, Bool.and_false, Bool.false_eq_true, if_false]
    rw [put2, h2, if_neg (by simp), fold_hi nm v r _ fun p hp => h p (by simp [hp])]
    simp
theorem allU_set {us : Us} (nm v : ByteArray) (h : Srt us) : allU nm v us = setU us nm v := by
  have hs := srt_split nm h
  have hlo : ∀ p ∈ loA us nm, cmpB p.1 nm < 0 := fun p hp => by simpa [loA] using (List.mem_filter.1 hp).2
  have hhi : ∀ p ∈ hiA us nm, 0 < cmpB p.1 nm := fun p hp => by simpa [hiA] using (List.mem_filter.1 hp).2
  have hself : cmpB nm nm = 0 := cmpB_zero.2 rfl
  unfold setU
  generalize loA us nm = lo at *
  generalize hiA us nm = hi at *
  have hacc : accU nm v us = ((midA us nm ++ hi).foldl (fun st a => put2 nm (put1 nm v st a) a) (lo, false)) := by
    unfold accU
    conv => lhs; rw [hs]
    rw [List.append_assoc, List.foldl_append, fold_lo nm v lo _ hlo]
    simp
  unfold allU
  rw [hacc]
  unfold midA
  cases valA us nm with
  | some v0 =>
    have h1 : geB nm nm = true := by rw [geB_cmp, hself]; simp
    have h2 : (nm == nm) = true := by rw [← cmp_eq, hself]; simp
    have e : ([(nm, v0)] ++ hi).foldl (fun st a => put2 nm (put1 nm v st a) a) (lo, false) = (lo ++ [(nm, v)] ++ hi, true) := by
      rw [List.singleton_append, List.foldl_cons, put1]
      simp only [h1, Bool.not_false, Bool.and_true, if_true]
      rw [put2, if_pos h2, fold_hi nm v hi _ hhi]
    show (if (([(nm, v0)] ++ hi).foldl _ (lo, false)).2 = true then _ else _) = _
    rw [e]
    rfl
  | none =>
    cases hi with
    | nil => simp
    | cons a r =>
      have ha := hhi a (by simp)
      have h1 : geB a.1 nm = true := by rw [geB_cmp]; simp; omega
      have h2 : (a.1 == nm) = false := by rw [← cmp_eq]; simp; omega
      have e : ([] ++ a :: r).foldl (fun st a => put2 nm (put1 nm v st a) a) (lo, false) = (lo ++ [(nm, v)] ++ a :: r, true) := by
        rw [List.nil_append, List.foldl_cons, put1]
        simp only [h1, Bool.not_false, Bool.and_true, if_true]
        rw [put2, h2, if_neg (by simp), fold_hi nm v r _ fun p hp => hhi p (by simp [hp])]
        simp
      show (if (([] ++ a :: r).foldl _ (lo, false)).2 = true then _ else _) = _
      rw [e]
      rfl
theorem rset_ok {w : World} {b : Nat} {L : List El} {m : M} {nx : Int} (h : RTree w (.pointer (some ⟨b, 0, none⟩)) L m nx) (id : Int) (nm v : ByteArray) (hs : nm.size ≤ 281474976710656) (he : setErr m id nm v = 0) : Calls Tryz.prog 67 #[.pointer (some ⟨b, 0, none⟩), .int .i64 id, .string nm, .string v] w fun x w' => ∃ (b' : Nat) (L' : List El), x = .returned (.tuple #[.pointer (some ⟨b', 0, none⟩), .int .i64 0]) ∧ RTree w' (.pointer (some ⟨b', 0, none⟩)) L' (satM m id nm v) nx ∧ Below w.heap.size w w' := by
  obtain ⟨e, hm, hnz, hvs, hok⟩ := ok_setErr he
  rcases at_cases L id with ⟨_, e2⟩ | ⟨t, ht, e1, e2⟩
  · rw [h.2.1, hm] at e2
    cases e2
  · have e3 : e = L[t] := by
      rw [h.2.1, hm] at e2
      exact Option.some.inj e2
    subst e3
    have hh := h
    obtain ⟨_, hf, hnd, d, I⟩ := hh
    refine (rset_walk h I.nxb.2 id nm v hs ht e1 hm hnz hvs hok).mono ?_
    rintro x w' ⟨b', rfl, hD, hB⟩
    have hid : L[t].id = id := I.id hm
    have hus := I.us hm
    refine ⟨b', _, rfl, ⟨hD, fun n => ?_, ?_, ?_⟩, hB⟩
    · rw [findL_set ht (e' := { L[t] with us := allU nm v L[t].us }) hnd rfl, hid, hf, allU_set nm v hus.srt]
      unfold satM
      rw [hm]
      rfl
    · rw [ids_set ht (e' := { L[t] with us := allU nm v L[t].us }) rfl]
      exact hnd
    · unfold satM
      rw [hm]
      exact ⟨d, I.attrs hm (uOk_set hus hnz hvs hok)⟩

end Go.Proofs.YtdiljkmlneeboaaGreat.N
namespace Go.Proofs.YtdiljkmlneeboaaGreat.N
open Go.RowKit
set_option maxRecDepth 100000

set_option maxHeartbeats 4000000 in
theorem rmove_1 {w : World} {b : Nat} {L : List El} {m : M} {nx : Int} (h : RTree w (.pointer (some ⟨b, 0, none⟩)) L m nx) (id tg i : Int) (hno : m id = none ∨ m tg = none) : Calls Tryz.prog 66 #[.pointer (some ⟨b, 0, none⟩), .int .i64 id, .int .i64 tg, .int .i64 i] w fun x w' => x = .returned (.tuple #[.pointer (some ⟨b, 0, none⟩), .int .i64 1]) ∧ Below w.heap.size w w' := by
  have HN2 : Hid (∀ w', Below w.heap.size w w' → _) := fun w' hw' => rt_node (h.keep hw') tg
  have hn1 := rt_node h id
  have hks : ((m tg).getD zeroEl).ks.length ≤ 200000 := by
    cases hm : m tg with
    | none => simp [zeroEl]
    | some q =>
      obtain ⟨_, _, _, d, I⟩ := h
      have h1 := I.ksLen hm
      have h2 := I.nxb
      show q.ks.length ≤ 200000
      omega
  obtain ⟨bo1, hb1⟩ : ∃ bo, bo = (m id).isSome := ⟨_, rfl⟩
  obtain ⟨bo2, hb2⟩ : ∃ bo, bo = (m tg).isSome := ⟨_, rfl⟩
  obtain ⟨e1, he1⟩ : ∃ e, e = (m id).getD zeroEl := ⟨_, rfl⟩
  obtain ⟨e2, he2⟩ : ∃ e, e = (m tg).getD zeroEl := ⟨_, rfl⟩
  have hbb : bo1 = true → bo2 = false := fun h1 => by
    rcases hno with h0 | h0
    · rw [h0] at hb1; rw [hb1] at h1; cases h1
    · rw [hb2, h0]; rfl
  rw [← hb1, ← he1] at hn1
  rw [← hb2, ← he2] at HN2
  rw [← he2] at hks
  clear h hno hb1 hb2 he1 he2
  go_enter Tryz.func66, Tryz.ntmps66
  go_wp2_with (go_at_call 33; fail)
  refine hn1.mono ?_
  rintro x w2 ⟨s, rfl, hE1, _, hB2⟩
  have hpar : s.par = e1.par := hE1.2.2.1
  obtain ⟨w3, hw3⟩ : ∃ w3, w3 = w2.alloc (.cells #[.int .i64 s.id, .string s.tag, .int .i64 s.par, .slice s.ka s.kn s.kc, .slice s.aa s.an s.ac] 76) := ⟨_, rfl⟩
  have HB3 : Hid (Below w.heap.size w w3) := by rw [hw3]; exact hB2.alloc hB2.size _
  have hN3 : NodeAt w3 w2.heap.size s := by rw [hw3]; exact heap_alloc_last w2 _
  obtain ⟨⟨_, _, n2, _, _⟩, _, _, _, _, _, hgl⟩ := hN3.cells
  rw [hpar] at n2
  have HP3 : Hid (∀ W, Below w3.heap.size w3 W → W.cell? ⟨w2.heap.size, 2, none⟩ = some (.int .i64 e1.par)) := fun W hW => (hW.cell (p := ⟨w2.heap.size, 2, none⟩) hgl).trans n2
  have HG3 : Hid (w2.heap.size < w3.heap.size) := hgl
  have HW3 := hid_mk hw3
  clear hn1 hE1 hB2 hw3 hN3 hpar hgl n2
  go_upto_region 2 with (fail)
  rw [← HW3.out]
  go_wp2_with (go_at_call 33; fail)
  refine (HN2.out _ HB3.out).mono ?_
  rintro x w4 ⟨s2, rfl, hE2, _, hB4⟩
  have hkn : s2.kn = e2.ks.length := hE2.kn
  obtain ⟨id2, tag2, par2, ka2, kn2, kc2, aa2, an2, ac2⟩ := s2
  dsimp only at *
  subst hkn
  obtain ⟨w5, hw5⟩ : ∃ w5, w5 = w4.alloc (.cells #[.int .i64 id2, .string tag2, .int .i64 par2, .slice ka2 e2.ks.length kc2, .slice aa2 an2 ac2] 76) := ⟨_, rfl⟩
  have hB45 : Below w4.heap.size w4 w5 := by rw [hw5]; exact (Below.refl _ _).alloc (Nat.le_refl _) _
  have hN5 : NodeAt w5 w4.heap.size ⟨id2, tag2, par2, ka2, e2.ks.length, kc2, aa2, an2, ac2⟩ := by rw [hw5]; exact heap_alloc_last w4 _
  obtain ⟨⟨_, _, _, k3, _⟩, _⟩ := hN5.cells
  dsimp only at k3
  have hwo := rwithout_any ((hE2.keep hB45).2.2.2.1) hks id
  have HB35 : Hid (Below w3.heap.size w3 w5) := hB4.trans (hB45.mono hB4.size)
  have HW5 := hid_mk hw5
  clear hE2 hB4 hw5 hN5 hB45 HN2
  go_upto_region 3 with (fail)
  rw [← HW5.out]
  go_upto_region 4 with (go_at_call 107; refine hwo.mono ?_; clear hwo; rintro e w6 ⟨a6, c6, rfl, hr6, _, hB6⟩; have HR6 := hid_mk hr6; have HB56 := hid_mk hB6; clear hr6 hB6)
  have HB36 : Hid (Below w3.heap.size w3 w6) := HB35.out.trans (HB56.out.mono HB35.out.size)
  have HB6 : Hid (Below w.heap.size w w6) := HB3.out.trans (HB36.out.mono HB3.out.size)
  have p6 := HP3.out w6 HB36.out
  clear k3 HB56 HB35
  cases bo1 with
  | false =>
    clear hbb
    go_wp2
    go_ret2
    exact ⟨rfl, HB6.out⟩
  | true =>
    have h2 := hbb rfl
    subst h2
    clear hbb
    go_wp2
    go_ret2
    exact ⟨rfl, HB6.out⟩

set_option maxHeartbeats 4000000 in
theorem rmove_2 {w : World} {b : Nat} {L : List El} {m : M} {nx : Int} (h : RTree w (.pointer (some ⟨b, 0, none⟩)) L m nx) (id tg i : Int) {e1 e2 : El} (h1 : m id = some e1) (h2 : m tg = some e2) (hin : id ∈ ups m tg) : Calls Tryz.prog 66 #[.pointer (some ⟨b, 0, none⟩), .int .i64 id, .int .i64 tg, .int .i64 i] w fun x w' => x = .returned (.tuple #[.pointer (some ⟨b, 0, none⟩), .int .i64 2]) ∧ Below w.heap.size w w' := by
  have HN2 : Hid (∀ w', Below w.heap.size w w' → _) := fun w' hw' => rt_node (h.keep hw') tg
  have hn1 := rt_node h id
  have hks : ((m tg).getD zeroEl).ks.length ≤ 200000 := by
    cases hm : m tg with
    | none => simp [zeroEl]
    | some q =>
      obtain ⟨_, _, _, d, I⟩ := h
      have h1 := I.ksLen hm
      have h2 := I.nxb
      show q.ks.length ≤ 200000
      omega
  rw [h1] at hn1
  rw [h2] at HN2 hks
  have hn1 : Calls Tryz.prog 33 #[.pointer (some ⟨b, 0, none⟩), .int .i64 id] w fun x w' => ∃ s : N5, x = .returned (.tuple #[.agg #[.int .i64 s.id, .string s.tag, .int .i64 s.par, .slice s.ka s.kn s.kc, .slice s.aa s.an s.ac], .bool true]) ∧ ElAt w' s e1 ∧ (NewAt w.heap.size s.ka ∧ NewAt w.heap.size s.aa) ∧ Below w.heap.size w w' := hn1
  have HN2 : Hid (∀ w', Below w.heap.size w w' → Calls Tryz.prog 33 #[.pointer (some ⟨b, 0, none⟩), .int .i64 tg] w' fun x w'' => ∃ s : N5, x = .returned (.tuple #[.agg #[.int .i64 s.id, .string s.tag, .int .i64 s.par, .slice s.ka s.kn s.kc, .slice s.aa s.an s.ac], .bool true]) ∧ ElAt w'' s e2 ∧ (NewAt w'.heap.size s.ka ∧ NewAt w'.heap.size s.aa) ∧ Below w'.heap.size w' w'') := HN2
  have hks : e2.ks.length ≤ 200000 := hks
  have HBL : Hid (∀ w' n, Below w.heap.size w w' → _) := fun w' n hw' => rbelow_any (h.keep hw') n id (by rw [h1]; simp)
  have HDP : Hid (∀ w' n, Below w.heap.size w w' → _) := fun w' n hw' => rdepth_any (h.keep hw') n
  have HIN : Hid (decide (id ∈ ups m tg) = true) := by simpa [Hid] using hin
  clear h h1 h2 hin HDP
  go_enter Tryz.func66, Tryz.ntmps66
  go_wp2_with (go_at_call 33; fail)
  refine hn1.mono ?_
  rintro x w2 ⟨s, rfl, hE1, _, hB2⟩
  have hpar : s.par = e1.par := hE1.2.2.1
  obtain ⟨w3, hw3⟩ : ∃ w3, w3 = w2.alloc (.cells #[.int .i64 s.id, .string s.tag, .int .i64 s.par, .slice s.ka s.kn s.kc, .slice s.aa s.an s.ac] 76) := ⟨_, rfl⟩
  have HB3 : Hid (Below w.heap.size w w3) := by rw [hw3]; exact hB2.alloc hB2.size _
  have hN3 : NodeAt w3 w2.heap.size s := by rw [hw3]; exact heap_alloc_last w2 _
  obtain ⟨⟨_, _, n2, _, _⟩, _, _, _, _, _, hgl⟩ := hN3.cells
  rw [hpar] at n2
  have HP3 : Hid (∀ W, Below w3.heap.size w3 W → W.cell? ⟨w2.heap.size, 2, none⟩ = some (.int .i64 e1.par)) := fun W hW => (hW.cell (p := ⟨w2.heap.size, 2, none⟩) hgl).trans n2
  have HG3 : Hid (w2.heap.size < w3.heap.size) := hgl
  have HW3 := hid_mk hw3
  clear hn1 hE1 hB2 hw3 hN3 hpar hgl n2
  go_upto_region 2 with (fail)
  rw [← HW3.out]
  go_wp2_with (go_at_call 33; fail)
  refine (HN2.out _ HB3.out).mono ?_
  rintro x w4 ⟨s2, rfl, hE2, _, hB4⟩
  have hkn : s2.kn = e2.ks.length := hE2.kn
  obtain ⟨id2, tag2, par2, ka2, kn2, kc2, aa2, an2, ac2⟩ := s2
  dsimp only at *
  subst hkn
  obtain ⟨w5, hw5⟩ : ∃ w5, w5 = w4.alloc (.cells #[.int .i64 id2, .string tag2, .int .i64 par2, .slice ka2 e2.ks.length kc2, .slice aa2 an2 ac2] 76) := ⟨_, rfl⟩
  have hB45 : Below w4.heap.size w4 w5 := by rw [hw5]; exact (Below.refl _ _).alloc (Nat.le_refl _) _
  have hN5 : NodeAt w5 w4.heap.size ⟨id2, tag2, par2, ka2, e2.ks.length, kc2, aa2, an2, ac2⟩ := by rw [hw5]; exact heap_alloc_last w4 _
  obtain ⟨⟨_, _, _, k3, _⟩, _⟩ := hN5.cells
  dsimp only at k3
  have hwo := rwithout_any ((hE2.keep hB45).2.2.2.1) hks id
  have HB35 : Hid (Below w3.heap.size w3 w5) := hB4.trans (hB45.mono hB4.size)
  have HW5 := hid_mk hw5
  clear hE2 hB4 hw5 hN5 hB45 HN2
  go_upto_region 3 with (fail)
  rw [← HW5.out]
  go_upto_region 4 with (go_at_call 107; refine hwo.mono ?_; clear hwo; rintro e w6 ⟨a6, c6, rfl, hr6, _, hB6⟩; have HR6 := hid_mk hr6; have HB56 := hid_mk hB6; clear hr6 hB6)
  have HB36 : Hid (Below w3.heap.size w3 w6) := HB35.out.trans (HB56.out.mono HB35.out.size)
  have HB6 : Hid (Below w.heap.size w w6) := HB3.out.trans (HB36.out.mono HB3.out.size)
  have p6 := HP3.out w6 HB36.out
  clear k3 HB56 HB35
  have hbe := HBL.out w6 tg HB6.out
  rw [HIN.out] at hbe
  cases hp : (e1.par == 0) with
  | true =>
    clear hbe HBL
    go_wp2
    go_ret2
    exact ⟨rfl, HB6.out⟩
  | false =>
    clear HBL
    go_wp2_with (go_at_call 106; refine hbe.mono ?_; clear hbe; rintro e w7 ⟨rfl, hB7⟩; have HB7 := hid_mk (HB6.out.trans (hB7.mono HB6.out.size)); clear hB7)
    go_ret2
    exact ⟨rfl, HB7.out⟩

set_option maxHeartbeats 4000000 in
theorem rmove_3 {w : World} {b : Nat} {L : List El} {m : M} {nx : Int} (h : RTree w (.pointer (some ⟨b, 0, none⟩)) L m nx) (id tg i : Int) {e1 e2 : El} (h1 : m id = some e1) (h2 : m tg = some e2) (hin : id ∉ ups m tg) (hpz : e1.par ≠ 0) (hi : i < 0 ∨ ((rmv e2.ks id).length : Int) < i) : Calls Tryz.prog 66 #[.pointer (some ⟨b, 0, none⟩), .int .i64 id, .int .i64 tg, .int .i64 i] w fun x w' => x = .returned (.tuple #[.pointer (some ⟨b, 0, none⟩), .int .i64 3]) ∧ Below w.heap.size w w' := by
  have HN2 : Hid (∀ w', Below w.heap.size w w' → _) := fun w' hw' => rt_node (h.keep hw') tg
  have hn1 := rt_node h id
  have hks : ((m tg).getD zeroEl).ks.length ≤ 200000 := by
    cases hm : m tg with
    | none => simp [zeroEl]
    | some q =>
      obtain ⟨_, _, _, d, I⟩ := h
      have h1 := I.ksLen hm
      have h2 := I.nxb
      show q.ks.length ≤ 200000
      omega
  rw [h1] at hn1
  rw [h2] at HN2 hks
  have hn1 : Calls Tryz.prog 33 #[.pointer (some ⟨b, 0, none⟩), .int .i64 id] w fun x w' => ∃ s : N5, x = .returned (.tuple #[.agg #[.int .i64 s.id, .string s.tag, .int .i64 s.par, .slice s.ka s.kn s.kc, .slice s.aa s.an s.ac], .bool true]) ∧ ElAt w' s e1 ∧ (NewAt w.heap.size s.ka ∧ NewAt w.heap.size s.aa) ∧ Below w.heap.size w w' := hn1
  have HN2 : Hid (∀ w', Below w.heap.size w w' → Calls Tryz.prog 33 #[.pointer (some ⟨b, 0, none⟩), .int .i64 tg] w' fun x w'' => ∃ s : N5, x = .returned (.tuple #[.agg #[.int .i64 s.id, .string s.tag, .int .i64 s.par, .slice s.ka s.kn s.kc, .slice s.aa s.an s.ac], .bool true]) ∧ ElAt w'' s e2 ∧ (NewAt w'.heap.size s.ka ∧ NewAt w'.heap.size s.aa) ∧ Below w'.heap.size w' w'') := HN2
  have hks : e2.ks.length ≤ 200000 := hks
  have HBL : Hid (∀ w' n, Below w.heap.size w w' → _) := fun w' n hw' => rbelow_any (h.keep hw') n id (by rw [h1]; simp)
  have HDP : Hid (∀ w' n, Below w.heap.size w w' → _) := fun w' n hw' => rdepth_any (h.keep hw') n
  have HIN : Hid (decide (id ∈ ups m tg) = false) := by simpa [Hid] using hin
  have hp : (e1.par == 0) = false := by simpa using hpz
  have hrl : (rmv e2.ks id).length ≤ 200000 := Nat.le_trans (List.length_filter_le _ _) hks
  clear h h1 h2 hin HDP hpz
  go_enter Tryz.func66, Tryz.ntmps66
  go_wp2_with (go_at_call 33; fail)
  refine hn1.mono ?_
  rintro x w2 ⟨s, rfl, hE1, _, hB2⟩
  have hpar : s.par = e1.par := hE1.2.2.1
  obtain ⟨w3, hw3⟩ : ∃ w3, w3 = w2.alloc (.cells #[.int .i64 s.id, .string s.tag, .int .i64 s.par, .slice s.ka s.kn s.kc, .slice s.aa s.an s.ac] 76) := ⟨_, rfl⟩
  have HB3 : Hid (Below w.heap.size w w3) := by rw [hw3]; exact hB2.alloc hB2.size _
  have hN3 : NodeAt w3 w2.heap.size s := by rw [hw3]; exact heap_alloc_last w2 _
  obtain ⟨⟨_, _, n2, _, _⟩, _, _, _, _, _, hgl⟩ := hN3.cells
  rw [hpar] at n2
  have HP3 : Hid (∀ W, Below w3.heap.size w3 W → W.cell? ⟨w2.heap.size, 2, none⟩ = some (.int .i64 e1.par)) := fun W hW => (hW.cell (p := ⟨w2.heap.size, 2, none⟩) hgl).trans n2
  have HG3 : Hid (w2.heap.size < w3.heap.size) := hgl
  have HW3 := hid_mk hw3
  clear hn1 hE1 hB2 hw3 hN3 hpar hgl n2
  go_upto_region 2 with (fail)
  rw [← HW3.out]
  go_wp2_with (go_at_call 33; fail)
  refine (HN2.out _ HB3.out).mono ?_
  rintro x w4 ⟨s2, rfl, hE2, _, hB4⟩
  have hkn : s2.kn = e2.ks.length := hE2.kn
  obtain ⟨id2, tag2, par2, ka2, kn2, kc2, aa2, an2, ac2⟩ := s2
  dsimp only at *
  subst hkn
  obtain ⟨w5, hw5⟩ : ∃ w5, w5 = w4.alloc (.cells #[.int .i64 id2, .string tag2, .int .i64 par2, .slice ka2 e2.ks.length kc2, .slice aa2 an2 ac2] 76) := ⟨_, rfl⟩
  have hB45 : Below w4.heap.size w4 w5 := by rw [hw5]; exact (Below.refl _ _).alloc (Nat.le_refl _) _
  have hN5 : NodeAt w5 w4.heap.size ⟨id2, tag2, par2, ka2, e2.ks.length, kc2, aa2, an2, ac2⟩ := by rw [hw5]; exact heap_alloc_last w4 _
  obtain ⟨⟨_, _, _, k3, _⟩, _⟩ := hN5.cells
  dsimp only at k3
  have hwo := rwithout_any ((hE2.keep hB45).2.2.2.1) hks id
  have HB35 : Hid (Below w3.heap.size w3 w5) := hB4.trans (hB45.mono hB4.size)
  have HW5 := hid_mk hw5
  clear hE2 hB4 hw5 hN5 hB45 HN2
  go_upto_region 3 with (fail)
  rw [← HW5.out]
  go_upto_region 4 with (go_at_call 107; refine hwo.mono ?_; clear hwo; rintro e w6 ⟨a6, c6, rfl, hr6, _, hB6⟩; have HR6 := hid_mk hr6; have HB56 := hid_mk hB6; clear hr6 hB6)
  have HB36 : Hid (Below w3.heap.size w3 w6) := HB35.out.trans (HB56.out.mono HB35.out.size)
  have HB6 : Hid (Below w.heap.size w w6) := HB3.out.trans (HB36.out.mono HB3.out.size)
  have p6 := HP3.out w6 HB36.out
  clear k3 HB56 HB35
  have hbe := HBL.out w6 tg HB6.out
  rw [HIN.out] at hbe
  clear HBL
  generalize (rmv e2.ks id).length = RL at *
  go_upto_region 8 with (go_at_call 106; refine hbe.mono ?_; clear hbe; rintro e w7 ⟨rfl, hB7⟩; have HB7 := hid_mk (HB6.out.trans (hB7.mono HB6.out.size)); clear hB7)
  rcases hi with hi | hi
  · go_wp2
    go_ret2
    exact ⟨rfl, HB7.out⟩
  · have h0 : 0 ≤ i := by omega
    go_wp2
    go_ret2
    exact ⟨rfl, HB7.out⟩

end Go.Proofs.YtdiljkmlneeboaaGreat.N
