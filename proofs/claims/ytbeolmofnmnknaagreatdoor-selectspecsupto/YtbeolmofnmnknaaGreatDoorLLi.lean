/- The reader of selectors: a list. -/
import Derived.Test.YtbeolmofnmnknaaGreatDoorLCx
namespace Go.Proofs.YtbeolmofnmnknaaGreatDoor.L
open Go.RowKit
set_option maxRecDepth 100000

theorem LvAt.blks {B : Nat} {w : World} {v : Value} {l : List Cv} {xs : List (Value × Value × List Value)} (h : LvAt B w v l xs) (hne : ∀ c ∈ l, ∀ p ∈ c.1, p ≠ []) : ∀ q ∈ xs.flatMap (fun x => x.2.2), B ≤ blk q ∧ blk q < w.heap.size := fun q hq => by
  obtain ⟨x, hx, hq⟩ := List.mem_flatMap.1 hq
  obtain ⟨i, hi, rfl⟩ := List.mem_iff_getElem.1 hx
  have hil : i < l.length := by rw [← h.len]; exact hi
  exact (h.cx i hil hi).blks (hne _ (List.getElem_mem hil)) q hq
theorem LvAt.add {B : Nat} {w wa w2 : World} {v v' pv cv : Value} {acc : List Cv} {xs : List (Value × Value × List Value)} {c : Cv} {qs : List Value} (h : LvAt B w v acc xs) (ha : Below w.heap.size w wa) (hg : wa.grownBy w2 v.ownBlock) (ho : w2.ownsRow B 26 2 v' (acc.length + 1) ((xs.flatMap fun x => [x.1, x.2.1]) ++ [pv, cv])) (hc : CvAt B w pv cv c qs) (hu : ∀ q ∈ xs.flatMap (fun x => x.2.2), ∀ q' ∈ qs, blk q < blk q') : LvAt B w2 v' (acc ++ [c]) (xs ++ [(pv, cv, qs)]) := by
  have hst : ∀ (T : TypeId) (g : Nat) (cur : Array Value), T ≠ 26 → w.heap[g]? = some (.cells cur T (0, 0)) → w2.heap[g]? = w.heap[g]? := fun T g cur hT hh => by
    have hl := (Array.getElem?_eq_some_iff.1 hh).1
    rw [hg.block g (Nat.lt_of_lt_of_le hl ha.size) (fun e => ?_), ha.block g hl]
    obtain ⟨_, c, hc⟩ := own_at h.row e.symm
    exact hT (ty_ne hh hc)
  have hcs : ∀ {pv cv c qs}, CvAt B w pv cv c qs → CvAt B w2 pv cv c qs := fun q => q.stayT fun T g cur hT hg _ => hst T g cur (by rintro rfl; rcases hT with e | e | e <;> cases e) hg
  refine ⟨by rw [List.length_append, List.flatMap_append]; exact ho, by simp [h.len], fun i hi hi' => ?_, ?_⟩
  · by_cases hil : i < acc.length
    · have hix : i < xs.length := by rw [h.len]; exact hil
      rw [List.getElem_append_left hix, List.getElem_append_left hil]
      exact hcs (h.cx i hil hix)
    · have hie : i = acc.length := by simp at hi; omega
      subst hie
      have e1 : (acc ++ [c])[acc.length]'hi = c := by simp
      have e2 : (xs ++ [(pv, cv, qs)])[acc.length]'hi' = (pv, cv, qs) := by
        rw [List.getElem_append_right (by rw [h.len]; exact Nat.le_refl _)]
        simp
      rw [e1, e2]
      exact hcs hc
  · rw [List.flatMap_append]
    refine List.pairwise_append.2 ⟨h.up, by simpa using hc.up, fun x hx y hy => hu x hx y (by simpa using hy)⟩
/-- What list answers. -/
def LsPost (lo : Nat) (W : World) (b : Nat) (ks : List (List V)) (R : Option (List Cv)) (e : Ending) (w' : World) : Prop := match R with
  | none => e = .returned (.tuple #[.slice none 0 0, .bool false]) ∧ KeepT b W w'
  | some l => ∃ v xs, e = .returned (.tuple #[v, .bool true]) ∧ LvAt W.heap.size w' v l xs ∧ Rk lo W b (ks ++ kidsL l) [] w'
/-- What the loop of list keeps. -/
structure LsGo (lo : Nat) (W : World) (b : Nat) (ks : List (List V)) (vs : List V) (R : Option (List Cv)) (v : Value) (acc : List Cv) (us : List V) (xs : List (Value × Value × List Value)) (w : World) : Prop where
  lv : LvAt W.heap.size w v acc xs
  rk : Rk lo W b (ks ++ kidsL acc) us w
  eq : R = match lsZ us with | none => none | some l => some (acc ++ l)
  mem : ∀ u ∈ us, u ∈ vs
  sub : List.Sublist (kidsL acc ++ us.map V.kids) (vs.map V.kids)
  ne : ∀ c ∈ acc, ∀ p ∈ c.1, p ≠ []
  la : acc.length + us.length ≤ vs.length
theorem two_new {w : World} {x y : Value} {T : TypeId} : ∀ j u, [x, y][j]? = some u → (w.alloc (.cells #[x, y] T)).cell? (Addr.add ⟨w.heap.size, 0, none⟩ j) = some u := fun j u hu => by
  rw [Addr.add_mid, Nat.zero_add, cellAt (heap_alloc_last w _) j]
  simpa using hu

set_option maxHeartbeats 1000000 in
theorem list_any {W : World} {lo b : Nat} {ks : List (List V)} {vs : List V} (h : Rk lo W b ks vs W) (hsg : Signs W) (hb : sgB < b) (hf : Fit vs) (hkn : ks.length + vs.length ≤ 1000000) :
    Calls Tryz.prog 22 #[.pointer (some ⟨b, 0, none⟩)] W (LsPost lo W b ks (lsZ vs)) := by
  obtain ⟨i0, z0, hi, hz0, hz1, hz2, hz3⟩ := info46
  have hbl : b < W.heap.size := h.lt
  have hvl := hf.len
  have HG : Hid (∀ ks' us w, Rk lo W b ks' us w → Signs w) := fun ks' us w hk => hsg.keepT hk.keep hb
  have HC : Hid (∀ ks' us w, Rk lo W b ks' us w → Fit us → ks'.length + us.length ≤ 1000000 → Calls Tryz.prog 39 #[.pointer (some ⟨b, 0, none⟩)] w (CxPost lo w b ks' (cxZ us))) := fun ks' us w hk hfu hl => complex_any hk.self (HG.out _ _ w hk) hb hfu hl
  have HS : Hid (∀ ks' us w, Rk lo W b ks' us w → Calls Tryz.prog 38 #[.pointer (some ⟨b, 0, none⟩)] w fun e w' => e = .returned (.bool (ahd us 0 13)) ∧ Rk lo w b ks' (spc us) w') := fun ks' us w hk => by
    obtain ⟨kids, hrd, hn⟩ := hk.self.open
    exact (spaces_any hrd).mono fun e w' q => ⟨q.1, hn _ _ q.2⟩
  have HA : Hid (∀ ks' us w, Rk lo W b ks' us w → Calls Tryz.prog 40 #[.pointer (some ⟨b, 0, none⟩), .int .i64 0, .int .i64 18] w fun e w' => e = .returned (.bool (ahd us 0 18)) ∧ w' = w) := fun ks' us w hk => by
    obtain ⟨kids, hrd, hn⟩ := hk.self.open
    exact ahead_any hrd 0 18
  have HP : Hid (∀ ks' us w, Rk lo W b ks' us w → 1 ≤ us.length → Calls Tryz.prog 41 #[.pointer (some ⟨b, 0, none⟩), .int .i64 1] w fun e w' => e = .returned (.tuple #[]) ∧ Rk lo w b ks' (us.drop 1) w') := fun ks' us w hk hl => by
    obtain ⟨kids, hrd, hn⟩ := hk.self.open
    exact (skip_any hrd 1 hl).mono fun e w' q => ⟨q.1, hn _ _ q.2⟩
  have HGO : Hid (LsGo lo W b ks vs (lsZ vs) (.slice none 0 0) [] vs [] W) := by
    refine ⟨⟨⟨rfl, .inl ⟨rfl, rfl⟩⟩, rfl, fun i hi => absurd hi (by simp), by simp⟩, by simpa [kidsL] using h, ?_, fun u hu => hu, by simp [kidsL], fun c hc => absurd hc (by simp), by simp⟩
    cases lsZ vs with
    | none => rfl
    | some x => rfl
  have HF := hid_mk hf
  generalize lsZ vs = R at *
  clear h hsg hf HG
  go_enter Tryz.func22, Tryz.ntmps22
  go_wp2_with (fail)
  go_loopg [4] (vs.length + 1) (fun k a4 wq => ∃ va vn vc acc us xs, a4 = .slice va vn vc ∧ us.length < k ∧ Hid (LsGo lo W b ks vs R (.slice va vn vc) acc us xs wq))
  case atStart => exact ⟨_, _, _, _, _, _, rfl, by omega, HGO⟩
  case round =>
    clear HGO
    obtain ⟨va, vn, vc, acc, us, xs, rfl, hlk, HGO⟩ := hrel
    have hsp := HS.out _ us wr HGO.out.rk
    have HZS := hid_mk (lsZ_step us)
    have HSO := hid_mk (spc_ok us)
    have HSS := hid_mk (spc_sub us)
    have hln : us.length ≤ vs.length := by have := HGO.out.la; omega
    have HFU := hid_mk ((HF.out.sub hln HGO.out.mem).spc)
    have HLK := hid_mk hlk
    have hal3 : acc.length ≤ 1000000 := by have := HGO.out.la; omega
    unfold lsStep at HZS
    generalize spc us = u1 at *
    clear HS hlk hln
    go_wp2_with (go_at_call 38; fail)
    refine hsp.mono ?_
    rintro e w1 ⟨rfl, hrk1⟩
    have hkk : (ks ++ kidsL acc).length + u1.length ≤ 1000000 := by
      have h1 := HGO.out.sub.length_le
      have h2 := HSO.out.1
      simp at h1
      rw [List.length_append]
      omega
    have rk1 := HGO.out.rk.from hrk1
    have lv1 := HGO.out.lv.keepT hrk1.keep hbl
    have hcx := HC.out _ u1 w1 rk1 HFU.out hkk
    have HOK := hid_mk (fun c r => cxZ_ok _ u1 (Nat.le_refl _) c r)
    have HCS := hid_mk (fun c r => cxZ_sub _ u1 (Nat.le_refl _) c r)
    generalize cxZ u1 = cr at *
    have HRK1 := hid_mk rk1
    have HLV1 := hid_mk lv1
    clear hsp hrk1 rk1 lv1 HC hkk
    cases cr with
    | none =>
      have HR : Hid (R = none) := by rw [Hid, HGO.out.eq, HZS.out]
      clear HOK HCS HZS HSO HSS HA HP HLV1 HFU HF HGO
      go_wp2_with (go_at_call 39; fail)
      refine hcx.mono ?_
      rintro e w2 ⟨x, y, rfl, rfl, rfl, hkp⟩
      have HKP : Hid (KeepT b W (w2.alloc (.cells #[.slice none 0 0, .slice none 0 0] 26))) := (HRK1.out.keep.trans hkp).trans (KeepT.of ((Below.refl _ _).alloc (Nat.le_refl _) _))
      clear hcx hkp
      go_wp2
      go_ret2
      rw [HR.out]
      exact ⟨rfl, HKP.out⟩
    | some x =>
    obtain ⟨c, r⟩ := x
    obtain ⟨hrl, hrm, hcok⟩ := HOK.out c r rfl
    have hcs := HCS.out c r rfl
    have HOK2 : Hid (r.length < u1.length ∧ (∀ u ∈ r, u ∈ u1) ∧ CvOk u1 c) := ⟨hrl, hrm, hcok⟩
    have HCS2 := hid_mk hcs
    clear HOK HCS hrl hrm hcok hcs
    go_wp2_with (go_at_call 39; fail)
    refine hcx.mono ?_
    rintro e w2 ⟨pv, cv, qs, rfl, hcv, hrk2⟩
    obtain ⟨pa, pn, pc, rfl⟩ := own_sl hcv.ps
    obtain ⟨ca, cn, cc, rfl⟩ := own_sl hcv.cs
    have hsz1 : W.heap.size ≤ w1.heap.size := HRK1.out.keep.size
    have rk2 := HRK1.out.from hrk2
    have lv2 := HLV1.out.keepT hrk2.keep hbl
    have cv2 := hcv.from hsz1
    have hblk := HLV1.out.blks HGO.out.ne
    have hblk2 := hcv.blks (fun p hp => (HOK2.out.2.2.2 p hp).1)
    obtain ⟨w3, hw3⟩ : ∃ w3, w3 = w2.alloc (.cells #[.slice pa pn pc, .slice ca cn cc] 26) := ⟨_, rfl⟩
    have hB3 : Below w2.heap.size w2 w3 := by rw [hw3]; exact (Below.refl _ _).alloc (Nat.le_refl _) _
    have x3 : w3.heap[w2.heap.size]? = some (.cells #[.slice pa pn pc, .slice ca cn cc] 26 (0, 0)) := by rw [hw3]; exact heap_alloc_last w2 _
    obtain ⟨k0, k1, _, _⟩ := cells2 x3
    have hB4 : Below w2.heap.size w2 (w3.alloc (.cells #[.slice pa pn pc, .slice ca cn cc] 26)) := hB3.alloc hB3.size _
    have hown : (w3.alloc (.cells #[.slice pa pn pc, .slice ca cn cc] 26)).ownsRow W.heap.size 26 2 (.slice va vn vc) acc.length (xs.flatMap fun x => [x.1, x.2.1]) := (lv2.keep hB4).row
    have HNX : Hid (∀ w5 v5, (w3.alloc (.cells #[.slice pa pn pc, .slice ca cn cc] 26)).grownBy w5 (Value.slice va vn vc).ownBlock → w5.ownsRow W.heap.size 26 2 v5 (acc.length + 1) ((xs.flatMap fun x => [x.1, x.2.1]) ++ [.slice pa pn pc, .slice ca cn cc]) → LvAt W.heap.size w5 v5 (acc ++ [c]) (xs ++ [(.slice pa pn pc, .slice ca cn cc, qs)]) ∧ Rk lo W b (ks ++ kidsL (acc ++ [c])) r w5) := fun w5 v5 hgr ho => by
      refine ⟨lv2.add hB4 hgr ho cv2 fun q hq q' hq' => Nat.lt_of_lt_of_le (hblk q hq).2 (hblk2 q' hq').1, ?_⟩
      have e : ks ++ kidsL (acc ++ [c]) = ks ++ kidsL acc ++ kidsC c := by simp [kidsL]
      rw [e]
      exact (rk2.then hB4).grow hgr hbl (own_ty hown (by decide))
    have hszA : W.heap.size ≤ (w3.alloc (.cells #[.slice pa pn pc, .slice ca cn cc] 26)).heap.size := by have h1 := rk2.keep.size; have h2 := hB4.size; omega
    have HOS : Hid (∀ u ∈ [Value.slice pa pn pc, .slice ca cn cc], u.oneCell' = true) := by
      intro u hu
      simp only [List.mem_cons, List.not_mem_nil, or_false] at hu
      rcases hu with rfl | rfl <;> rfl
    have HON : Hid (∀ j u, [Value.slice pa pn pc, .slice ca cn cc][j]? = some u → (w3.alloc (.cells #[.slice pa pn pc, .slice ca cn cc] 26)).cell? (Addr.add ⟨w3.heap.size, 0, none⟩ j) = some u) := two_new
    have HW3 := hid_mk hw3
    clear hcx hcv hrk2 rk2 lv2 cv2 hblk hblk2 hw3 hB3 x3 hB4 HRK1 HLV1 HFU HF
    go_upto_region 6 with (fail)
    rw [← HW3.out]
    clear HW3
    go_wp2_with (at_builtin; with_reducible refine wpList_append_own _ rfl _ _ 22 rfl W.heap.size 26 i0 z0 2 48 Tryz.underlying22 hi hz0 hz1 hz2 hz3 (by decide) (.slice va vn vc) acc.length (xs.flatMap fun x => [x.1, x.2.1]) rfl hown ⟨w3.heap.size, 0, none⟩ 1 1 [.slice pa pn pc, .slice ca cn cc] rfl rfl HON.out HOS.out ?c1 ?c2 ?c3 ?_)
    case c1 => unfold maxLen; omega
    case c2 => omega
    case c3 => exact hszA
    intro v5 w5 ho5 hgr5 _
    obtain ⟨hlv5, hrk5⟩ := HNX.out w5 v5 hgr5 ho5
    obtain ⟨ea, en, ec, rfl⟩ := own_sl ho5
    have hah := HA.out _ r w5 hrk5
    obtain ⟨kidq, hrdq, _⟩ := hrk5.open
    obtain ⟨ra, rn, rcap, hrn, _, _, h51, _, _⟩ := hrdq.see
    have c50 : w5.cell? ⟨b, 0, none⟩ = some (.slice ra rn rcap) := cellAt h51 0
    have HLV5 := hid_mk hlv5
    have HRK5 := hid_mk hrk5
    have HRN := hid_mk hrn
    clear HNX hown ho5 hgr5 hlv5 hrk5 hrdq h51 hrn HA k0 k1
    cases r with
    | nil =>
      have HR : Hid (R = some (acc ++ [c])) := by rw [Hid, HGO.out.eq, HZS.out]; rfl
      have hr0 : rn = 0 := HRN.out
      subst hr0
      clear hah HP HZS HGO HOK2 HCS2 HRN
      go_wp2
      go_ret2
      rw [HR.out]
      exact ⟨_, _, rfl, HLV5.out, HRK5.out⟩
    | cons r0 rr =>
    have hr0 : ((rn : Int) == 0) = false := by rw [beq_eq_false_iff_ne, HRN.out]; simp; omega
    cases hcm : ahd (r0 :: rr) 0 18 with
    | false =>
      have HR : Hid (R = none) := by
        rw [Hid, HGO.out.eq, HZS.out]
        simp only [hcm]
        rfl
      have HKP := hid_mk HRK5.out.keep
      rw [hcm] at hah
      clear hcm HP HZS HGO HOK2 HCS2 HRN HLV5 HRK5
      go_wp2_with (go_at_call 40; fail)
      refine hah.mono ?_
      rintro e w6 ⟨rfl, rfl⟩
      clear hah
      go_wp2
      go_ret2
      rw [HR.out]
      exact ⟨rfl, HKP.out⟩
    | true =>
      have hsk := HP.out _ _ w5 HRK5.out (by simp)
      rw [hcm] at hah
      rw [show (r0 :: rr).drop 1 = rr from rfl] at hsk
      have HNX : Hid (∀ w7, Rk lo w5 b (ks ++ kidsL (acc ++ [c])) rr w7 → LsGo lo W b ks vs R (.slice ea en ec) (acc ++ [c]) rr (xs ++ [(.slice pa pn pc, .slice ca cn cc, qs)]) w7) := fun w7 hk => by
        refine ⟨HLV5.out.keepT hk.keep hbl, HRK5.out.from hk, ?_, fun u hu => HGO.out.mem u (HSO.out.2 u (HOK2.out.2.1 u (by simp [hu]))), ?_, fun c' hc' => ?_, ?_⟩
        · rw [HGO.out.eq, HZS.out]
          simp only [hcm, List.isEmpty_cons, Bool.false_eq_true, if_false, if_true]
          rw [show (r0 :: rr).drop 1 = rr from rfl]
          cases lsZ rr with
          | none => rfl
          | some l => simp
        · rw [show kidsL (acc ++ [c]) = kidsL acc ++ kidsC c by simp [kidsL], List.append_assoc]
          refine ((List.Sublist.refl _).append (List.Sublist.trans ?_ (HCS2.out.trans HSS.out))).trans HGO.out.sub
          exact (List.Sublist.refl _).append (List.sublist_cons_self _ _)
        · rcases List.mem_append.1 hc' with h | h
          · exact HGO.out.ne c' h
          · rw [List.mem_singleton.1 h]
            exact fun p hp => (HOK2.out.2.2.2 p hp).1
        · have h1 := HGO.out.la
          have h2 := HOK2.out.1
          have h3 := HSO.out.1
          simp only [List.length_append, List.length_cons, List.length_nil] at h2 ⊢
          omega
      have HLT : Hid (rr.length < us.length) := by
        have h2 := HOK2.out.1
        have h3 := HSO.out.1
        rw [Hid]
        simp only [List.length_cons] at h2
        omega
      clear hcm HP HZS HGO HOK2 HCS2 HRN HLV5 HRK5 HSO HSS
      go_wp2_with (go_at_call 40; fail)
      refine hah.mono ?_
      rintro e w6 ⟨rfl, rfl⟩
      clear hah
      go_wp2_with (go_at_call 41; fail)
      refine hsk.mono ?_
      rintro e w7 ⟨rfl, hk7⟩
      have HGN := hid_mk (HNX.out w7 hk7)
      clear hsk hk7 HNX
      go_wp2
      go_roundg us.length
      case measure => exact HLK.out
      case rel => exact ⟨_, _, _, _, _, _, rfl, HLT.out, HGN⟩
end Go.Proofs.YtbeolmofnmnknaaGreatDoor.L
