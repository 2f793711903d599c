/- The document's Up. WalkUnders: the walk. -/
import Derived.Test.YtoncgmnccgegmaaGreatRcmN
import Derived.Test.YtoncgmnccgegmaaGreatWcpN
import Derived.Test.YtoncgmnccgegmaaGreatLstN
import Derived.Test.YtoncgmnccgegmaaGreatWoW
namespace Go.Proofs.YtoncgmnccgegmaaGreat.N
open Go.RowKit
set_option maxRecDepth 100000

set_option maxHeartbeats 4000000 in
theorem rup_any {w : World} {rp : Value} {L : List El} {m : M} {nx : Int} (h : RTree w rp L m nx) (id : Int) : Calls Tryz.prog 14 #[rp, .int .i64 id] w fun x w' => ∃ v, x = .returned v ∧ w'.ownsRow w.heap.size 3 1 v (ups m (parOf m id)).length (intsV (ups m (parOf m id))) ∧ Below w.heap.size w w' := by
  have HND : Hid (∀ w' (n : Int), Below w.heap.size w w' → _) := fun w' n hw' => rt_node (h.keep hw') n
  obtain ⟨d, I⟩ := h.2.2.2
  have HI := hid_mk I
  have hup := ups_le I (parOf m id)
  obtain ⟨U, hU⟩ : ∃ U, U = ups m (parOf m id) := ⟨_, rfl⟩
  rw [← hU] at hup ⊢
  have HU := hid_mk hU
  obtain ⟨i3, z3, hi0, hz0, hz1, hz2, rfl⟩ := info3r
  have HI3 := hid_mk hi0
  have HZ0 := hid_mk hz0
  have HZ1 := hid_mk hz1
  have HZ2 := hid_mk hz2
  clear I h hi0 hz0 hz1 hz2 hU
  go_enter Tryz.func14, Tryz.ntmps14
  go_wp2
  go_loopw [1, 5] (fun a1 a5 wq => ∃ (n : Int) (told : List Int), a1 = .int .i64 n ∧ Hid (told ++ ups m (parOf m n) = U) ∧ Hid (wq.ownsRow w.heap.size 3 1 a5 told.length (intsV told)) ∧ Hid (Below w.heap.size w wq)) (fun _ a5 _ => 513 - lenV a5)
  case atStart => exact ⟨id, [], rfl, by rw [Hid, HU.out]; rfl, ⟨rfl, .inl ⟨rfl, rfl⟩⟩, hid_mk (Below.refl _ _)⟩
  case round =>
    obtain ⟨n, told, rfl, HT, HO, HB⟩ := hrel
    have hnd := HND.out wr n HB.out
    obtain ⟨av, cv, rfl⟩ := own_slice HO.out
    cases he : m n with
    | none =>
      rw [he] at hnd
      have HT2 : Hid (told = U) := by
        have := HT.out
        have hp : parOf m n = 0 := by unfold parOf; rw [he]; rfl
        rw [hp, ups_none HI.out.zero, List.append_nil] at this
        exact this
      clear he HT HND HI
      go_wp2_with (go_at_call 35; fail)
      refine hnd.mono ?_
      rintro x w3 ⟨s, rfl, _, _, hB3⟩
      have hB3' := HB.out.trans (hB3.mono HB.out.size)
      have HB4 := hid_mk (hB3'.alloc hB3'.size (.cells #[.int .i64 s.id, .string s.tag, .int .i64 s.par, .slice s.ka s.kn s.kc, .slice s.aa s.an s.ac] 47))
      have HO4 := hid_mk (ownsRow_below HO.out (hB3.trans (((Below.refl _ w3).alloc (Nat.le_refl _) (.cells #[.int .i64 s.id, .string s.tag, .int .i64 s.par, .slice s.ka s.kn s.kc, .slice s.aa s.an s.ac] 47)).mono hB3.size)))
      clear hnd hB3 hB3' HO HB
      go_wp2
      go_ret
      have := HT2.out
      subst this
      exact ⟨_, rfl, HO4.out, HB4.out⟩
    | some el =>
      rw [he] at hnd
      have hpn : parOf m n = el.par := by unfold parOf; rw [he]; rfl
      rw [hpn] at HT
      go_wp2_with (go_at_call 35; fail)
      refine hnd.mono ?_
      rintro x w3 ⟨s, rfl, hE, _, hB3⟩
      have hpar : s.par = el.par := hE.2.2.1
      obtain ⟨w4, hw4⟩ : ∃ w4, w4 = w3.alloc (.cells #[.int .i64 s.id, .string s.tag, .int .i64 s.par, .slice s.ka s.kn s.kc, .slice s.aa s.an s.ac] 47) := ⟨_, rfl⟩
      have hA4 : Below w3.heap.size w3 w4 := by rw [hw4]; exact (Below.refl _ _).alloc (Nat.le_refl _) _
      have hW4 : Below wr.heap.size wr w4 := hB3.trans (hA4.mono hB3.size)
      have HB4 := hid_mk (HB.out.trans (hW4.mono HB.out.size))
      have HO4 := hid_mk (ownsRow_below HO.out hW4)
      have hN4 : NodeAt w4 w3.heap.size s := by rw [hw4]; exact heap_alloc_last w3 _
      have HN4 := hid_mk hN4
      obtain ⟨⟨_, _, n2, _, _⟩, _, _, _, _, _, hgl⟩ := hN4.cells
      rw [hpar] at n2
      have HPR := hid_mk hpar
      have HW4 := hid_mk hw4
      clear hnd hE hB3 hA4 hW4 HB HO hw4 hN4 hpar
      go_upto_region 3 with (fail)
      rw [← HW4.out]
      clear HW4
      by_cases hp : el.par = 0
      · have HT2 : Hid (told = U) := by
          have := HT.out
          rw [hp, ups_none HI.out.zero, List.append_nil] at this
          exact this
        rw [hp] at n2
        clear he HT HND HI hp hpn
        go_wp2
        go_ret
        have := HT2.out
        subst this
        exact ⟨_, rfl, HO4.out, HB4.out⟩
      · have hp0 : (el.par == 0) = false := beq_eq_false_iff_ne.2 hp
        obtain ⟨P, hP, _⟩ := HI.out.par he (fun h1 => hp ((HI.out.parRoot he).2 h1))
        have HT2 : Hid ((told ++ [el.par]) ++ ups m (parOf m el.par) = U) := by
          have := HT.out
          have hpp : parOf m el.par = P.par := by unfold parOf; rw [hP]; rfl
          rw [ups_head HI.out hP] at this
          rw [Hid, hpp, ← this]
          simp
        have hlen : told.length + 1 ≤ 512 := by
          have := congrArg List.length HT2.out
          simp only [List.length_append, List.length_singleton] at this
          omega
        clear he HT HND HI hp hpn hP
        generalize el.par = pp at *
        have hA : Below w4.heap.size w4 (w4.alloc (.cells #[.int .i64 pp] 3)) := (Below.refl _ _).alloc (Nat.le_refl _) _
        have hown := ownsRow_below HO4.out hA
        have hrow : RowAt (w4.alloc (.cells #[.int .i64 pp] 3)) 1 (some ⟨w4.heap.size, 0, none⟩) 1 1 (intsV [pp]) := row_one (heap_alloc_last w4 _) rfl
        have hBs : w.heap.size ≤ (w4.alloc (.cells #[.int .i64 pp] 3)).heap.size := Nat.le_trans HB4.out.size hA.size
        have HBA := hid_mk (HB4.out.trans (hA.mono HB4.out.size))
        have HNA : Hid (∀ w6, (w4.alloc (.cells #[.int .i64 pp] 3)).grownBy w6 (Value.slice av told.length cv).ownBlock → NodeAt w6 w3.heap.size s) := fun w6 hg => by
          refine (hg.block _ (Nat.lt_of_lt_of_le hgl hA.size) (fun e => ?_)).trans ((hA.block _ hgl).trans HN4.out)
          rcases hown.2 with ⟨e1, _⟩ | ⟨k, cap, cur, e1, _, hk, _⟩
          · rw [e1] at e
            cases e
          · rw [e1] at e
            have e2 : w3.heap.size = k := Option.some.inj e
            rw [← e2, (hA.block _ hgl).trans HN4.out] at hk
            injection hk with hk
            injection hk with _ hk
            cases hk
        have hi0 := HI3.out
        have hz0 := HZ0.out
        have hz1 := HZ1.out
        have hz2 := HZ2.out
        clear hA HN4
        go_upto_region 6 with (at_builtin; go_must (refine wpList_append_rowAt rfl _ _ 29 rfl (B := w.heap.size) Tryz.underlying29 hi0 hz0 hz1 hz2 rfl (by decide) (by decide) rfl rfl hown hrow (by omega) hBs ?_); intro v' w6 hown6 hgrow6 _; have HO6 := hid_mk hown6; have HN6 := hid_mk (HNA.out w6 hgrow6); have HB6 : Hid (Below w.heap.size w w6) := HBA.out.grown hgrow6 HBA.out.size (fun k hk => (hown.lt k hk).1); clear hown6 hgrow6)
        obtain ⟨⟨_, _, k2, _, _⟩, _⟩ := HN6.out.cells
        rw [HPR.out] at k2
        obtain ⟨av', cv', rfl⟩ := own_slice HO6.out
        clear hown hrow hBs HBA HNA n2 hi0 hz0 hz1 hz2 HO4 HB4
        go_wp2
        refine ⟨⟨pp, told ++ [pp], rfl, HT2, ?_, HB6⟩, by simp only [lenV]; omega⟩
        rw [Hid, List.length_append, intsV_app]
        exact HO6.out

end Go.Proofs.YtoncgmnccgegmaaGreat.N
namespace Go.Proofs.YtoncgmnccgegmaaGreat.N
open Go.RowKit
set_option maxRecDepth 100000

theorem pre_len2 {uok : List (ByteArray × ByteArray) → Prop} {m : M} {nx : Int} {d : Int → Nat} (I : Inv uok m nx d) (id : Int) : (preO m id).length ≤ 100000 := by
  cases hm : m id with
  | none => rw [preO_none hm]; simp
  | some e => exact pre_len I hm
theorem calls_row {f : Nat} {args : Array Value} {w : World} {l : List Int} (h : Calls Tryz.prog f args w fun x w' => ∃ v, x = .returned v ∧ w'.ownsRow w.heap.size 3 1 v l.length (intsV l) ∧ Below w.heap.size w w') : Calls Tryz.prog f args w fun x w' => ∃ a n c, x = .returned (.slice a n c) ∧ Hid (RowAt w' 1 a n c (intsV l)) ∧ Below w.heap.size w w' :=
  h.mono fun x w' ⟨v, e, ho, hB⟩ => by
    obtain ⟨a, c, rfl, hr, _⟩ := RowAt.of_owns ho (by simp [intsV, Value.oneCell'])
    exact ⟨a, _, c, e, hr, hB⟩
theorem runder_row {w : World} {rp : Value} {L : List El} {m : M} {nx : Int} (h : RTree w rp L m nx) (id : Int) : Calls Tryz.prog 9 #[rp, .int .i64 id] w fun x w' => ∃ a n c, x = .returned (.slice a n c) ∧ Hid (RowAt w' 1 a n c (intsV (preO m id))) ∧ Below w.heap.size w w' := by
  have h9 := runder_any h id
  unfold UndP at h9
  exact calls_row h9
set_option maxHeartbeats 8000000 in
theorem unders_walk {W : World} {v : Value} {xs : List Act6} (hp : ActsIn W v xs) (id most : Int) : Calls Tryz.prog 3 #[v, .int .i64 id, .int .i64 most] W fun e w' => e = .returned (.bool true) ∧ Below W.heap.size W w' := by
  have hlight := rlight_any hp 80 (by decide)
  have HLV : Hid (∀ w', Calls Tryz.prog 7 #[] w' fun e w'' => e = .returned (.bool true) ∧ Below w'.heap.size w' w'') := fun w' => wlives_any w'
  have HTA : Hid (∀ w', Below W.heap.size W w' → xs.length ≤ 130 → _) := fun w' hw' hx => tree_any (W := w') (v := v) (xs := xs) ⟨hp.1.keep hw', hp.2⟩ hx
  obtain ⟨⟨av, cap, rfl, hcap, hmax, hx⟩, hsz⟩ := hp
  clear hx hsz
  go_enter Tryz.func3, Tryz.ntmps3
  go_wp2_with (go_at_call 6; fail)
  refine hlight.mono ?_
  rintro e w1 ⟨lb, rfl, hlen, hB1⟩
  have HB1 := hid_mk hB1
  clear hlight hB1
  cases lb with
  | false =>
    clear HTA
    go_wp2_with (go_at_call 7; refine (HLV.out _).mono ?_; rintro e w2 ⟨rfl, hB2⟩)
    go_ret
    exact ⟨rfl, HB1.out.trans (hB2.mono HB1.out.size)⟩
  | true =>
    have h80 := hlen rfl
    have hta := HTA.out w1 HB1.out (by omega)
    clear HTA hlen
    go_wp2_with (go_at_call 8; fail)
    refine hta.mono ?_
    rintro e w2 ⟨p, q, m, nx, L, rfl, hR, _, hT, hRT, hB2⟩
    have HB2 := hid_mk (HB1.out.trans (hB2.mono HB1.out.size))
    have HT2 := hid_mk hT
    have HRT2 := hid_mk hRT
    obtain ⟨d, I⟩ := hT.2
    have hp1 := pre_len2 I 1
    have hpi := pre_len2 I id
    have HCN := hid_mk (pre_cnt I)
    have h9 := runder_any HRT2.out id
    unfold UndP at h9
    have HP1 := hid_mk hp1
    have HPI := hid_mk hpi
    clear hta hR hT hRT hB2 HB1 I hp1 hpi
    go_wp2_with (go_at_call 9; fail)
    refine h9.mono ?_
    rintro e w3 ⟨v3, rfl, ho3, hB3⟩
    obtain ⟨sa, sc, rfl, hr3, _⟩ := RowAt.of_owns ho3 (by simp [intsV, Value.oneCell'])
    have HB3 := hid_mk (HB2.out.trans (hB3.mono HB2.out.size))
    have HT3 := hid_mk (HT2.out.keep hB3)
    have HRT3 := hid_mk (HRT2.out.keep hB3)
    have HR3 := hid_mk hr3
    have hcap := hr3.2.1
    have hcm := hr3.2.2.1
    unfold maxLen at hcm
    obtain ⟨P, hP⟩ : ∃ P, P = preO m id := ⟨_, rfl⟩
    have HPP := hid_mk hP
    rw [← hP] at HR3 hcap HPI
    rw [← hP]
    clear h9 ho3 hB3 hr3 HT2 HRT2 HB2 hP
    go_upto_region 5 with (fail)
    go_cut [29] (fun s29 wx => s29 = .bool (decide (0 ≤ most ∧ most < (P.length : Int))) ∧ wx = w3)
    case first =>
      by_cases h0 : 0 ≤ most
      · have g0 : decide (0 ≤ most) = true := decide_eq_true h0
        by_cases h1 : most < (P.length : Int)
        · have g1 : decide (most < (P.length : Int)) = true := decide_eq_true h1
          have HE : Hid (decide (0 ≤ most ∧ most < (P.length : Int)) = true) := decide_eq_true ⟨h0, h1⟩
          clear h0 h1
          generalize P.length = pl at *
          go_wp2_with fail
          go_meet
          exact ⟨by rw [HE.out], rfl⟩
        · have g1 : decide (most < (P.length : Int)) = false := decide_eq_false h1
          have HE : Hid (decide (0 ≤ most ∧ most < (P.length : Int)) = false) := decide_eq_false fun h => h1 h.2
          clear h0 h1
          generalize P.length = pl at *
          go_wp2_with fail
          go_meet
          exact ⟨by rw [HE.out], rfl⟩
      · have g0 : decide (0 ≤ most) = false := decide_eq_false h0
        have HE : Hid (decide (0 ≤ most ∧ most < (P.length : Int)) = false) := decide_eq_false fun h => h0 h.1
        clear h0
        generalize P.length = pl at *
        go_wp2_with fail
        go_meet
        exact ⟨by rw [HE.out], rfl⟩
    case rest =>
    obtain ⟨rfl, rfl⟩ := hcut
    go_upto_if 29 with (fail)
    go_cut [9] (fun s9 wx => ∃ k' : Nat, s9 = .slice sa k' sc ∧ Hid (RowAt wc 1 sa k' sc (intsV (mostL P most))) ∧ wx = wc)
    case first =>
      by_cases hm : 0 ≤ most ∧ most < (P.length : Int)
      · obtain ⟨k, rfl⟩ : ∃ k : Nat, most = k := ⟨most.toNat, by omega⟩
        have hk : k < P.length := by omega
        have HW3 : Hid (RowAt wc 1 sa k sc (intsV (mostL P k))) := by
          have h1 := HR3.out.take k (by omega)
          have h2 : mostL P (k : Int) = P.take k := by unfold mostL; rw [if_pos (by omega), Int.toNat_natCast]
          rw [Hid, h2]
          have h3 : intsV (P.take k) = (intsV P).take (k * 1) := by simp [intsV, List.map_take]
          rw [h3]
          exact h1
        have hd : decide (0 ≤ (k : Int) ∧ (k : Int) < (P.length : Int)) = true := decide_eq_true hm
        rw [hd]
        have hk2 : k ≤ sc := by omega
        clear hm HR3 hd HPI HPP hk
        generalize P.length = pl at *
        go_wp2_with fail
        go_meet
        exact ⟨k, rfl, HW3, rfl⟩
      · have HW3 : Hid (RowAt wc 1 sa P.length sc (intsV (mostL P most))) := by
          have h2 : mostL P most = P := by unfold mostL; rw [if_neg hm]
          rw [Hid, h2]
          exact HR3.out
        have hd : decide (0 ≤ most ∧ most < (P.length : Int)) = false := decide_eq_false hm
        rw [hd]
        clear hm HR3 hd HPI HPP
        generalize P.length = pl at *
        go_wp2_with fail
        go_meet
        exact ⟨_, rfl, HW3, rfl⟩
    case rest =>
    obtain ⟨k', rfl, HW3, rfl⟩ := hcut
    clear HR3
    have h11 := list_any HT3.out id most (by rw [← HPP.out]; exact HPI.out)
    rw [← HPP.out] at h11
    generalize mostL P most = ML at h11 HW3
    have h11r := calls_row h11
    clear h11 HPI hcap
    have h11_3 := h11r
    go_wp2_with (go_at_call 11; fail)
    refine h11_3.mono ?_
    rintro e w4 ⟨xa, xn, xc, rfl, xH, hB4⟩
    have HB4 := hid_mk (HB3.out.trans (hB4.mono HB3.out.size))
    have HT4 := hid_mk (HT3.out.keep hB4)
    have HRT4 := hid_mk (HRT3.out.keep hB4)
    have HW4 := hid_mk (HW3.out.keep hB4)
    clear HW3 h11r
    clear h11_3 hB4 HB3 HT3 HRT3
    have h10_4 := ints_yes xH.out HW4.out
    go_wp2_with (go_at_call 10; fail)
    refine h10_4.mono ?_
    rintro e w5 ⟨rfl, hB5⟩
    have HB5 := hid_mk (HB4.out.trans (hB5.mono HB4.out.size))
    have HT5 := hid_mk (HT4.out.keep hB5)
    have HRT5 := hid_mk (HRT4.out.keep hB5)
    clear h10_4 hB5 HB4 HT4 HRT4
    clear xH HW4
    have h12_5 := calls_row (order_any HT5.out HCN.out HP1.out HP1.out)
    go_wp2_with (go_at_call 12; fail)
    refine h12_5.mono ?_
    rintro e w6 ⟨ya, yn, yc, rfl, yH, hB6⟩
    have HB6 := hid_mk (HB5.out.trans (hB6.mono HB5.out.size))
    have HT6 := hid_mk (HT5.out.keep hB6)
    have HRT6 := hid_mk (HRT5.out.keep hB6)
    clear h12_5 hB6 HB5 HT5 HRT5
    have h9_6 := runder_row HRT6.out 1
    go_wp2_with (go_at_call 9; fail)
    refine h9_6.mono ?_
    rintro e w7 ⟨za, zn, zc, rfl, zH, hB7⟩
    have HB7 := hid_mk (HB6.out.trans (hB7.mono HB6.out.size))
    have HT7 := hid_mk (HT6.out.keep hB7)
    have HRT7 := hid_mk (HRT6.out.keep hB7)
    have yH2 := hid_mk (yH.out.keep hB7)
    clear yH
    clear h9_6 hB7 HB6 HT6 HRT6
    have h10_7 := ints_yes yH2.out zH.out
    go_wp2_with (go_at_call 10; fail)
    refine h10_7.mono ?_
    rintro e w8 ⟨rfl, hB8⟩
    have HB8 := hid_mk (HB7.out.trans (hB8.mono HB7.out.size))
    have HT8 := hid_mk (HT7.out.keep hB8)
    have HRT8 := hid_mk (HRT7.out.keep hB8)
    clear yH2 zH
    clear h10_7 hB8 HB7 HT7 HRT7
    have h13_8 := calls_row (wup_any HT8.out id)
    go_wp2_with (go_at_call 13; fail)
    refine h13_8.mono ?_
    rintro e w9 ⟨pa, pn, pc, rfl, pH, hB9⟩
    have HB9 := hid_mk (HB8.out.trans (hB9.mono HB8.out.size))
    have HT9 := hid_mk (HT8.out.keep hB9)
    have HRT9 := hid_mk (HRT8.out.keep hB9)
    clear h13_8 hB9 HB8 HT8 HRT8
    have h14_9 := calls_row (rup_any HRT9.out id)
    go_wp2_with (go_at_call 14; fail)
    refine h14_9.mono ?_
    rintro e w10 ⟨qa, qn, qc, rfl, qH, hB10⟩
    have HB10 := hid_mk (HB9.out.trans (hB10.mono HB9.out.size))
    have HT10 := hid_mk (HT9.out.keep hB10)
    have HRT10 := hid_mk (HRT9.out.keep hB10)
    have pH2 := hid_mk (pH.out.keep hB10)
    clear pH
    clear h14_9 hB10 HB9 HT9 HRT9
    have h10_10 := ints_yes pH2.out qH.out
    go_wp2_with (go_at_call 10; fail)
    refine h10_10.mono ?_
    rintro e w11 ⟨rfl, hB11⟩
    have HB11 := hid_mk (HB10.out.trans (hB11.mono HB10.out.size))
    have HT11 := hid_mk (HT10.out.keep hB11)
    have HRT11 := hid_mk (HRT10.out.keep hB11)
    clear pH2 qH
    clear h10_10 hB11 HB10 HT10 HRT10
    have h15_11 := wdepth_any HT11.out id
    go_wp2_with (go_at_call 15; fail)
    refine h15_11.mono ?_
    rintro e w12 ⟨rfl, hB12⟩
    have HB12 := hid_mk (HB11.out.trans (hB12.mono HB11.out.size))
    have HT12 := hid_mk (HT11.out.keep hB12)
    have HRT12 := hid_mk (HRT11.out.keep hB12)
    clear h15_11 hB12 HB11 HT11 HRT11
    have h16_12 := rdepth_any HRT12.out id
    go_wp2_with (go_at_call 16; fail)
    refine h16_12.mono ?_
    rintro e w13 ⟨rfl, hB13⟩
    have HB13 := hid_mk (HB12.out.trans (hB13.mono HB12.out.size))
    have HT13 := hid_mk (HT12.out.keep hB13)
    have HRT13 := hid_mk (HRT12.out.keep hB13)
    clear h16_12 hB13 HB12 HT12 HRT12
    go_wp2_with (go_at_call 7; fail)
    refine (HLV.out w13).mono ?_
    rintro e w14 ⟨rfl, hB14⟩
    go_wp2
    go_ret
    exact ⟨rfl, HB13.out.trans (hB14.mono HB13.out.size)⟩

end Go.Proofs.YtoncgmnccgegmaaGreat.N
