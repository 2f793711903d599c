/- dom.Doc's under: an element and all below it, level by level. -/
import Derived.Test.YtecbgleidohjpabAppN
import Derived.Laws.OwnMore
import Derived.Deep.AppendLies
namespace Go.Proofs.Ytecbgleidohjpab.N
open Go.RowKit
set_option maxRecDepth 100000

theorem intsV_app (a b : List Int) : intsV (a ++ b) = intsV a ++ intsV b := by simp [intsV]
theorem intsV_len (a : List Int) : (intsV a).length = a.length := by simp [intsV]
theorem intsV_one (a : List Int) : ∀ u ∈ intsV a, u.oneCell' = true := by
  intro u hu
  obtain ⟨k, _, rfl⟩ := List.mem_map.1 hu
  rfl
theorem intsV_at {a : List Int} {i : Nat} (h : i < a.length) : (intsV a)[i]? = some (.int .i64 a[i]) := by simp [intsV, h]
/-- The kids of the first i. -/
def kidsTo (m : M) (l : List Int) (i : Nat) : List Int := (l.take i).flatMap (kidsOf m)
theorem kidsTo_succ {m : M} {l : List Int} {i : Nat} (h : i < l.length) : kidsTo m l (i + 1) = kidsTo m l i ++ kidsOf m l[i] := by
  unfold kidsTo
  rw [List.take_succ_eq_append_getElem h, List.flatMap_append]
  simp
theorem kidsTo_len_le {m : M} {l : List Int} (i : Nat) : (kidsTo m l i).length ≤ (l.flatMap (kidsOf m)).length := by
  conv => rhs; rw [← List.take_append_drop i l, List.flatMap_append, List.length_append]
  exact Nat.le_add_right _ _
set_option maxHeartbeats 4000000 in
theorem under_any {uok : List (ByteArray × ByteArray) → Prop} {w : World} {dp : Value} {m : M} {nx : Int} {d : Int → Nat} (h : Dom w dp m nx) (I : Inv uok m nx d) {id : Int} {e0 : El} (h0 : m id = some e0) : Calls Try.prog 26 #[dp, .int .i64 id] w fun x w' => ∃ v k, x = .returned (.tuple #[v, .int .i64 (k : Nat)]) ∧ Full m id k ∧ w'.ownsRow w.heap.size 3 1 v (levs m id k).length (intsV (levs m id k)) ∧ Below w.heap.size w w' := by
  obtain ⟨i0, hi0, hz0, hz1, hz2⟩ := info_parts Try.info3
  have HF : Hid (∀ W k, Below w.heap.size w W → _) := fun W k hW => dom_find_any (h.keep hW) k
  have HI := hid_mk I
  have H0 := hid_mk h0
  have hnxb := I.nxb
  have HLN : Hid (∀ k, (levs m id k).length < 100000) := fun k => by
    have := levs_len I h0 k
    omega
  have HEL : Hid (∀ k n, n ∈ lev m id k → ∃ e, m n = some e) := fun k n hn => (lev_mem I h0 k n hn).1
  clear h I h0
  have HOW : Hid ((w.alloc (.cells #[.int .i64 id] 3)).ownsRow w.heap.size 3 1 (.slice (some ⟨w.heap.size, 0, none⟩) 1 1) (levs m id 1).length (intsV (levs m id 1))) := World.ownsRow_lit w #[.int .i64 id] 1 (Nat.le_refl _) (by decide) rfl
  have HBW : Hid (Below w.heap.size w (w.alloc (.cells #[.int .i64 id] 3))) := (Below.refl _ w).alloc (Nat.le_refl _) _
  go_enter Try.func26, Try.ntmps26
  go_wp2
  go_loopg [6, 7, 8] 514 (fun kx a6 a7 a8 wr => ∃ j : Nat, a7 = .int .i64 j ∧ a8 = .int .i64 (levs m id j).length ∧ 514 - j ≤ kx ∧ j ≤ 513 ∧ Hid (wr.ownsRow w.heap.size 3 1 a6 (levs m id (j + 1)).length (intsV (levs m id (j + 1)))) ∧ Hid (∀ k, k < j → lev m id k ≠ []) ∧ Hid (Below w.heap.size w wr))
  case atStart => exact ⟨0, rfl, rfl, by omega, by omega, HOW, hid_mk (fun k hk => absurd hk (Nat.not_lt_zero _)), HBW⟩
  case round =>
    clear HOW HBW
    obtain ⟨j, rfl, rfl, hk, hj, HO, HON, HB⟩ := hrel
    have HSUC : Hid (levs m id (j + 1) = levs m id j ++ lev m id j) := levs_succ id j
    have hl1 : (levs m id (j + 1)).length = (levs m id j).length + (lev m id j).length := by rw [HSUC.out, List.length_append]
    have hlt1 := HLN.out (j + 1)
    by_cases hne : lev m id j = []
    · have hz : (lev m id j).length = 0 := by rw [hne]; rfl
      have hO := HO.out
      have hsame : levs m id (j + 1) = levs m id j := by rw [HSUC.out, hne, List.append_nil]
      rw [hsame] at hO hlt1
      have hpos : 1 ≤ j := by
        rcases Nat.eq_zero_or_pos j with rfl | hp
        · exact absurd hne (by simp [lev])
        · exact hp
      obtain ⟨g, cap, rfl, hg1, hg2⟩ := hO.form (by
        have : id ∈ levs m id j := levs_mem.2 ⟨0, hpos, by simp [lev]⟩
        exact List.length_pos_of_mem this)
      have HO2 := hid_mk hO
      have HNE := hid_mk hne
      have HPO := hid_mk hpos
      clear hO hl1 hz hsame hne hpos hk HSUC
      generalize hL : (levs m id j).length = L at *
      have HL2 := hid_mk hL
      clear hL
      go_wp2
      refine bodyPost_ret (v := .tuple #[.slice (some ⟨g, 0, none⟩) L cap, .int .i64 (j : Nat)]) (by simp [results, Try.results26, go_sem]) rfl ⟨_, j, rfl, ⟨HPO.out, HNE.out, HON.out⟩, by rw [HL2.out]; exact HO2.out, HB.out⟩
    · have hz : 0 < (lev m id j).length := List.length_pos_iff.2 hne
      have hj2 : j + 1 ≤ 512 := by
        obtain ⟨n, hn⟩ := List.exists_mem_of_ne_nil _ hne
        obtain ⟨⟨e, he⟩, hd⟩ := lev_mem HI.out H0.out j n hn
        have := HI.out.top he
        have := HI.out.pos H0.out
        omega
      have HNE := hid_mk hne
      obtain ⟨g, cap, rfl, hg1, hg2⟩ := HO.out.form (by omega)
      obtain ⟨hcap, hcm⟩ : (levs m id (j + 1)).length ≤ cap ∧ cap ≤ maxLen := by
        rcases HO.out.2 with ⟨h, _⟩ | ⟨g', cap', cur, h, _, _, h1, h2, _⟩
        · cases h
        · cases h
          exact ⟨h1, h2⟩
      have HP : Hid (∀ i u, (intsV (lev m id j))[i]? = some u → wr.cell? ⟨g, (levs m id j).length + i, none⟩ = some u) := fun i u hu => by
        have hi := (List.getElem?_eq_some_iff.1 hu).1
        rw [intsV_len] at hi
        rw [World.ownsRow.cellAt HO.out _ (by omega), HSUC.out, intsV_app, List.getElem?_append_right (by rw [intsV_len]; omega), intsV_len, Nat.add_sub_cancel_left]
        exact hu
      have HXS : Hid (intsV (levs m id (j + 1)) = intsV (levs m id j) ++ intsV (lev m id j)) := by show _ = _; rw [HSUC.out, intsV_app]
      have HKD : Hid (levs m id (j + 1 + 1) = levs m id (j + 1) ++ kidsTo m (lev m id j) (lev m id j).length) := by
        show _ = _
        rw [levs_succ id (j + 1), lev]
        unfold kidsTo
        rw [List.take_length]
      have HKL : Hid (∀ i, (levs m id (j + 1)).length + (kidsTo m (lev m id j) i).length < 100000) := fun i => by
        have h1 := HLN.out (j + 1 + 1)
        rw [levs_succ id (j + 1), lev, List.length_append] at h1
        have := kidsTo_len_le (m := m) (l := lev m id j) i
        omega
      have HL0 : Hid ((levs m id j).length = (intsV (levs m id j)).length) := (intsV_len _).symm
      unfold maxLen at hcm
      clear hne HSUC
      generalize hL0 : (levs m id j).length = L0 at *
      generalize hL1 : (levs m id (j + 1)).length = L1 at *
      have HLV : Hid ((lev m id j).length = L1 - L0) := by show _ = _; omega
      have hlv : L0 < L1 := by omega
      have HE1 := hid_mk hL1
      clear hL0 hL1 hl1 hz
      go_wp2
      have HO2 : Hid (wr.ownsRow w.heap.size 3 1 (.slice (some ⟨g, 0, none⟩) L1 cap) (L1 + (kidsTo m (lev m id j) 0).length) (intsV (levs m id (j + 1)) ++ intsV (kidsTo m (lev m id j) 0))) := by
        show wr.ownsRow _ _ _ _ _ _
        rw [show kidsTo m (lev m id j) 0 = [] from rfl]
        simpa [intsV] using HO.out
      generalize L1 - L0 = V at *
      generalize cap - L0 = C at *
      have hV : V < 100000 := by
        have := HKL.out 0
        have h1 := HLV.out
        have h2 := congrArg List.length HXS.out
        rw [intsV_len, List.length_append, intsV_len, intsV_len, HE1.out] at h2
        omega
      have HK := hid_mk hk
      clear HO hk
      go_loopg [6, 29] (V + 1) (fun kx a6 a29 wq => ∃ i : Nat, a29 = .int .i64 i ∧ V + 1 - i ≤ kx ∧ i ≤ V ∧ g < wq.heap.size ∧ Hid (wq.ownsRow w.heap.size 3 1 a6 (L1 + (kidsTo m (lev m id j) i).length) (intsV (levs m id (j + 1)) ++ intsV (kidsTo m (lev m id j) i))) ∧ Hid (∀ i u, (intsV (lev m id j))[i]? = some u → wq.cell? ⟨g, L0 + i, none⟩ = some u) ∧ Hid (Below w.heap.size w wq))
      case atStart => exact ⟨0, rfl, by omega, Nat.zero_le _, hg2, HO2, HP, HB⟩
      case round =>
        clear HO2 HP HB
        obtain ⟨i, rfl, hki, hiV, hg3, HO, HP, HB⟩ := hrel
        by_cases hlt : i < V
        · have hil : i < (lev m id j).length := by rw [HLV.out]; exact hlt
          have hci := HP.out i _ (intsV_at hil)
          obtain ⟨e, he⟩ := HEL.out j _ (List.getElem_mem hil)
          have HKS : Hid (kidsTo m (lev m id j) (i + 1) = kidsTo m (lev m id j) i ++ e.ks) := by
            show _ = _
            rw [kidsTo_succ hil, kidsOf_some he]
          have hfi := HF.out wr ((lev m id j)[i]) HB.out
          rw [he] at hfi
          generalize (lev m id j)[i] = n at *
          go_wp2_with (go_at_call 24; fail)
          refine hfi.mono ?_
          rintro x w1 ⟨s, err, rfl, _, hE, hB1⟩
          have hB2 : Below wr.heap.size wr (w1.alloc (.cells #[.int .i64 s.id, .string s.tag, .int .i64 s.par, .slice s.ka s.kn s.kc, .slice s.aa s.an s.ac] 41)) := hB1.alloc hB1.size _
          have hN : NodeAt (w1.alloc (.cells #[.int .i64 s.id, .string s.tag, .int .i64 s.par, .slice s.ka s.kn s.kc, .slice s.aa s.an s.ac] 41)) w1.heap.size s := heap_alloc_last w1 _
          have hown := ownsRow_below HO.out hB2
          have hrow : RowAt (w1.alloc (.cells #[.int .i64 s.id, .string s.tag, .int .i64 s.par, .slice s.ka s.kn s.kc, .slice s.aa s.an s.ac] 41)) 1 s.ka s.kn s.kc (intsV e.ks) := (hE.keep hB2).2.2.2.1
          have hkn : s.kn = e.ks.length := hE.kn
          have hlen := HKL.out (i + 1)
          rw [HKS.out, List.length_append] at hlen
          have HB3 := hid_mk (HB.out.trans (hB2.mono HB.out.size))
          have hBs := HB3.out.size
          have HP3 : Hid (∀ i u, (intsV (lev m id j))[i]? = some u → (w1.alloc (.cells #[.int .i64 s.id, .string s.tag, .int .i64 s.par, .slice s.ka s.kn s.kc, .slice s.aa s.an s.ac] 41)).cell? ⟨g, L0 + i, none⟩ = some u) := fun i u hu => (hB2.cell (p := ⟨g, L0 + i, none⟩) hg3).trans (HP.out i u hu)
          have hg4 := Nat.lt_of_lt_of_le hg3 hB2.size
          clear hfi hB1 hB2 hE
          obtain ⟨⟨k0, k1, k2, k3, k4⟩, _⟩ := hN.cells
          have HKN := hid_mk hkn
          have hlen2 : L1 + (kidsTo m (lev m id j) i).length + s.kn < 100000 := by omega
          clear hkn hlen
          generalize hKL : (kidsTo m (lev m id j) i).length = KL at *
          have HKE := hid_mk hKL
          clear hKL
          go_wp2_with (at_builtin; go_must (refine wpList_append_far rfl _ _ 38 rfl (B := w.heap.size) Try.underlying38 hi0 hz0 hz1 hz2 rfl (by decide) (by decide) rfl rfl hown hrow (by omega) hBs ?_); intro v' w2 hown2 hgrow2 hfar2; have HO2 := hid_mk hown2; have HG2 := hid_mk hgrow2; have HF2 := hid_mk hfar2; clear hown2 hgrow2 hfar2)
          go_roundg (V + 1 - (i + 1))
          case measure => omega
          case rel =>
            have hlx : (kidsTo m (lev m id j) (i + 1)).length = KL + s.kn := by rw [HKS.out, List.length_append, HKE.out, HKN.out]
            have hO := HO2.out
            rw [List.append_assoc, ← intsV_app, ← HKS.out, Nat.add_assoc, ← hlx] at hO
            refine ⟨i + 1, by go_num, by omega, hlt, Nat.lt_of_lt_of_le hg4 HG2.out.size, hid_mk hO, ?_, hid_mk (HB3.out.grown HG2.out HB3.out.size (fun k hk => (hown.lt k hk).1))⟩
            rw [HXS.out] at hO
            exact hid_mk (part_kept hO HL0.out HP3.out hg4 HF2.out)
        · obtain rfl : i = V := by omega
          have hO := HO.out
          rw [← HLV.out, ← intsV_app, ← HKD.out, ← HE1.out, ← List.length_append, ← HKD.out] at hO
          have HO3 := hid_mk hO
          clear HO hO HP
          go_wp2
          go_roundg (514 - (j + 1))
          case measure => have := HK.out; omega
          case rel =>
            refine ⟨j + 1, by go_num, by rw [HE1.out], Nat.le_refl _, by omega, HO3, hid_mk fun k hk => ?_, HB⟩
            by_cases hkj : k = j
            · rw [hkj]; exact HNE.out
            · exact HON.out k (by omega)

end Go.Proofs.Ytecbgleidohjpab.N
