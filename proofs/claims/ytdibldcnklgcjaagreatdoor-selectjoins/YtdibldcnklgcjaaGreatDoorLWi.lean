/- The reader of selectors: a list. The simple selectors of a list of which something is asked. -/
import Derived.Test.YtdibldcnklgcjaaGreatDoorLCx
namespace Go.Proofs.YtdibldcnklgcjaaGreatDoor.L
open Go.RowKit
set_option maxRecDepth 100000

theorem LvAt.blks {B : Nat} {w : World} {v : Value} {l : List Cv} {xs : List (Value × Value × List Value)} (h : LvAt B w v l xs) (hne : ∀ c ∈ l, ∀ p ∈ c.1, p ≠ []) : ∀ q ∈ xs.flatMap (fun x => x.2.2), B ≤ blk q ∧ blk q < w.heap.size := fun q hq => by
  obtain ⟨x, hx, hq⟩ := List.mem_flatMap.1 hq
  obtain ⟨i, hi, rfl⟩ := List.mem_iff_getElem.1 hx
  have hil : i < l.length := by rw [← h.len]; exact hi
  exact (h.cx i hil hi).blks (hne _ (List.getElem_mem hil)) q hq
theorem LvAt.add {B : Nat} {w wa w2 : World} {v v' pv cv : Value} {acc : List Cv} {xs : List (Value × Value × List Value)} {c : Cv} {qs : List Value} (h : LvAt B w v acc xs) (ha : Below w.heap.size w wa) (hg : wa.grownBy w2 v.ownBlock) (ho : w2.ownsRow B 38 2 v' (acc.length + 1) ((xs.flatMap fun x => [x.1, x.2.1]) ++ [pv, cv])) (hc : CvAt B w pv cv c qs) (hu : ∀ q ∈ xs.flatMap (fun x => x.2.2), ∀ q' ∈ qs, blk q < blk q') : LvAt B w2 v' (acc ++ [c]) (xs ++ [(pv, cv, qs)]) := by
  have hst : ∀ (T : TypeId) (g : Nat) (cur : Array Value), T ≠ 38 → w.heap[g]? = some (.cells cur T (0, 0)) → w2.heap[g]? = w.heap[g]? := fun T g cur hT hh => by
    have hl := (Array.getElem?_eq_some_iff.1 hh).1
    rw [hg.block g (Nat.lt_of_lt_of_le hl ha.size) (fun e => ?_), ha.block g hl]
    obtain ⟨_, c, hc⟩ := own_at h.row e.symm
    exact hT (ty_ne hh hc)
  have hcs : ∀ {pv cv c qs}, CvAt B w pv cv c qs → CvAt B w2 pv cv c qs := fun q => q.stayT fun T g cur hT hg _ => hst T g cur (by rintro rfl; rcases hT with e | e | e <;> cases e) hg
  refine ⟨by rw [List.length_append, List.flatMap_append]; exact ho, by simp [h.len], fun i hi hi' => ?_, ?_⟩
  · by_cases hil : i < acc.length
    · have hix : i < xs.length := by rw [h.len]; exact hil
      rw [List.getElem_append_left hix, List.getElem_append_left hil]
      exact hcs (h.cx i hil hix)
    · have hie : i = acc.length := by simp at hi; omega
      subst hie
      have e1 : (acc ++ [c])[acc.length]'hi = c := by simp
      have e2 : (xs ++ [(pv, cv, qs)])[acc.length]'hi' = (pv, cv, qs) := by
        rw [List.getElem_append_right (by rw [h.len]; exact Nat.le_refl _)]
        simp
      rw [e1, e2]
      exact hcs hc
  · rw [List.flatMap_append]
    refine List.pairwise_append.2 ⟨h.up, by simpa using hc.up, fun x hx y hy => hu x hx y (by simpa using hy)⟩
/-- What list answers. -/
def LsPost (lo : Nat) (W : World) (b : Nat) (ks : List (List V)) (R : Option (List Cv)) (e : Ending) (w' : World) : Prop := match R with
  | none => e = .returned (.tuple #[.slice none 0 0, .bool false]) ∧ KeepT b W w'
  | some l => ∃ v xs, e = .returned (.tuple #[v, .bool true]) ∧ LvAt W.heap.size w' v l xs ∧ Rk lo W b (ks ++ kidsL l) [] w'
/-- What the loop of list keeps. -/
structure LsGo (lo : Nat) (W : World) (b : Nat) (ks : List (List V)) (vs : List V) (R : Option (List Cv)) (v : Value) (acc : List Cv) (us : List V) (xs : List (Value × Value × List Value)) (w : World) : Prop where
  lv : LvAt W.heap.size w v acc xs
  rk : Rk lo W b (ks ++ kidsL acc) us w
  eq : R = match lsZ us with | none => none | some l => some (acc ++ l)
  mem : ∀ u ∈ us, u ∈ vs
  sub : List.Sublist (kidsL acc ++ us.map V.kids) (vs.map V.kids)
  ne : ∀ c ∈ acc, ∀ p ∈ c.1, p ≠ []
  la : acc.length + us.length ≤ vs.length
theorem two_new {w : World} {x y : Value} {T : TypeId} : ∀ j u, [x, y][j]? = some u → (w.alloc (.cells #[x, y] T)).cell? (Addr.add ⟨w.heap.size, 0, none⟩ j) = some u := fun j u hu => by
  rw [Addr.add_mid, Nat.zero_add, cellAt (heap_alloc_last w _) j]
  simpa using hu

set_option maxHeartbeats 1000000 in
theorem list_any {W : World} {lo b : Nat} {ks : List (List V)} {vs : List V} (h : Rk lo W b ks vs W) (hsg : Signs W) (hb : sgB < b) (hf : Fit vs) (hkn : ks.length + vs.length ≤ 1000000) :
    Calls Tryz.prog 15 #[.pointer (some ⟨b, 0, none⟩)] W (LsPost lo W b ks (lsZ vs)) := by
  obtain ⟨i0, z0, hi, hz0, hz1, hz2, hz3⟩ := info46
  have hbl : b < W.heap.size := h.lt
  have hvl := hf.len
  have HG : Hid (∀ ks' us w, Rk lo W b ks' us w → Signs w) := fun ks' us w hk => hsg.keepT hk.keep hb
  have HC : Hid (∀ ks' us w, Rk lo W b ks' us w → Fit us → ks'.length + us.length ≤ 1000000 → Calls Tryz.prog 36 #[.pointer (some ⟨b, 0, none⟩)] w (CxPost lo w b ks' (cxZ us))) := fun ks' us w hk hfu hl => complex_any hk.self (HG.out _ _ w hk) hb hfu hl
  have HS : Hid (∀ ks' us w, Rk lo W b ks' us w → Calls Tryz.prog 35 #[.pointer (some ⟨b, 0, none⟩)] w fun e w' => e = .returned (.bool (ahd us 0 13)) ∧ Rk lo w b ks' (spc us) w') := fun ks' us w hk => by
    obtain ⟨kids, hrd, hn⟩ := hk.self.open
    exact (spaces_any hrd).mono fun e w' q => ⟨q.1, hn _ _ q.2⟩
  have HA : Hid (∀ ks' us w, Rk lo W b ks' us w → Calls Tryz.prog 37 #[.pointer (some ⟨b, 0, none⟩), .int .i64 0, .int .i64 18] w fun e w' => e = .returned (.bool (ahd us 0 18)) ∧ w' = w) := fun ks' us w hk => by
    obtain ⟨kids, hrd, hn⟩ := hk.self.open
    exact ahead_any hrd 0 18
  have HP : Hid (∀ ks' us w, Rk lo W b ks' us w → 1 ≤ us.length → Calls Tryz.prog 38 #[.pointer (some ⟨b, 0, none⟩), .int .i64 1] w fun e w' => e = .returned (.tuple #[]) ∧ Rk lo w b ks' (us.drop 1) w') := fun ks' us w hk hl => by
    obtain ⟨kids, hrd, hn⟩ := hk.self.open
    exact (skip_any hrd 1 hl).mono fun e w' q => ⟨q.1, hn _ _ q.2⟩
  have HGO : Hid (LsGo lo W b ks vs (lsZ vs) (.slice none 0 0) [] vs [] W) := by
    refine ⟨⟨⟨rfl, .inl ⟨rfl, rfl⟩⟩, rfl, fun i hi => absurd hi (by simp), by simp⟩, by simpa [kidsL] using h, ?_, fun u hu => hu, by simp [kidsL], fun c hc => absurd hc (by simp), by simp⟩
    cases lsZ vs with
    | none => rfl
    | some x => rfl
  have HF := hid_mk hf
  generalize lsZ vs = R at *
  clear h hsg hf HG
  go_enter Tryz.func15, Tryz.ntmps15
  go_wp2_with (fail)
  go_loopg [4] (vs.length + 1) (fun k a4 wq => ∃ va vn vc acc us xs, a4 = .slice va vn vc ∧ us.length < k ∧ Hid (LsGo lo W b ks vs R (.slice va vn vc) acc us xs wq))
  case atStart => exact ⟨_, _, _, _, _, _, rfl, by omega, HGO⟩
  case round =>
    clear HGO
    obtain ⟨va, vn, vc, acc, us, xs, rfl, hlk, HGO⟩ := hrel
    have hsp := HS.out _ us wr HGO.out.rk
    have HZS := hid_mk (lsZ_step us)
    have HSO := hid_mk (spc_ok us)
    have HSS := hid_mk (spc_sub us)
    have hln : us.length ≤ vs.length := by have := HGO.out.la; omega
    have HFU := hid_mk ((HF.out.sub hln HGO.out.mem).spc)
    have HLK := hid_mk hlk
    have hal3 : acc.length ≤ 1000000 := by have := HGO.out.la; omega
    unfold lsStep at HZS
    generalize spc us = u1 at *
    clear HS hlk hln
    go_wp2_with (go_at_call 35; fail)
    refine hsp.mono ?_
    rintro e w1 ⟨rfl, hrk1⟩
    have hkk : (ks ++ kidsL acc).length + u1.length ≤ 1000000 := by
      have h1 := HGO.out.sub.length_le
      have h2 := HSO.out.1
      simp at h1
      rw [List.length_append]
      omega
    have rk1 := HGO.out.rk.from hrk1
    have lv1 := HGO.out.lv.keepT hrk1.keep hbl
    have hcx := HC.out _ u1 w1 rk1 HFU.out hkk
    have HOK := hid_mk (fun c r => cxZ_ok _ u1 (Nat.le_refl _) c r)
    have HCS := hid_mk (fun c r => cxZ_sub _ u1 (Nat.le_refl _) c r)
    generalize cxZ u1 = cr at *
    have HRK1 := hid_mk rk1
    have HLV1 := hid_mk lv1
    clear hsp hrk1 rk1 lv1 HC hkk
    cases cr with
    | none =>
      have HR : Hid (R = none) := by rw [Hid, HGO.out.eq, HZS.out]
      clear HOK HCS HZS HSO HSS HA HP HLV1 HFU HF HGO
      go_wp2_with (go_at_call 36; fail)
      refine hcx.mono ?_
      rintro e w2 ⟨x, y, rfl, rfl, rfl, hkp⟩
      have HKP : Hid (KeepT b W (w2.alloc (.cells #[.slice none 0 0, .slice none 0 0] 38))) := (HRK1.out.keep.trans hkp).trans (KeepT.of ((Below.refl _ _).alloc (Nat.le_refl _) _))
      clear hcx hkp
      go_wp2
      go_ret2
      rw [HR.out]
      exact ⟨rfl, HKP.out⟩
    | some x =>
    obtain ⟨c, r⟩ := x
    obtain ⟨hrl, hrm, hcok⟩ := HOK.out c r rfl
    have hcs := HCS.out c r rfl
    have HOK2 : Hid (r.length < u1.length ∧ (∀ u ∈ r, u ∈ u1) ∧ CvOk u1 c) := ⟨hrl, hrm, hcok⟩
    have HCS2 := hid_mk hcs
    clear HOK HCS hrl hrm hcok hcs
    go_wp2_with (go_at_call 36; fail)
    refine hcx.mono ?_
    rintro e w2 ⟨pv, cv, qs, rfl, hcv, hrk2⟩
    obtain ⟨pa, pn, pc, rfl⟩ := own_sl hcv.ps
    obtain ⟨ca, cn, cc, rfl⟩ := own_sl hcv.cs
    have hsz1 : W.heap.size ≤ w1.heap.size := HRK1.out.keep.size
    have rk2 := HRK1.out.from hrk2
    have lv2 := HLV1.out.keepT hrk2.keep hbl
    have cv2 := hcv.from hsz1
    have hblk := HLV1.out.blks HGO.out.ne
    have hblk2 := hcv.blks (fun p hp => (HOK2.out.2.2.2 p hp).1)
    obtain ⟨w3, hw3⟩ : ∃ w3, w3 = w2.alloc (.cells #[.slice pa pn pc, .slice ca cn cc] 38) := ⟨_, rfl⟩
    have hB3 : Below w2.heap.size w2 w3 := by rw [hw3]; exact (Below.refl _ _).alloc (Nat.le_refl _) _
    have x3 : w3.heap[w2.heap.size]? = some (.cells #[.slice pa pn pc, .slice ca cn cc] 38 (0, 0)) := by rw [hw3]; exact heap_alloc_last w2 _
    obtain ⟨k0, k1, _, _⟩ := cells2 x3
    have hB4 : Below w2.heap.size w2 (w3.alloc (.cells #[.slice pa pn pc, .slice ca cn cc] 38)) := hB3.alloc hB3.size _
    have hown : (w3.alloc (.cells #[.slice pa pn pc, .slice ca cn cc] 38)).ownsRow W.heap.size 38 2 (.slice va vn vc) acc.length (xs.flatMap fun x => [x.1, x.2.1]) := (lv2.keep hB4).row
    have HNX : Hid (∀ w5 v5, (w3.alloc (.cells #[.slice pa pn pc, .slice ca cn cc] 38)).grownBy w5 (Value.slice va vn vc).ownBlock → w5.ownsRow W.heap.size 38 2 v5 (acc.length + 1) ((xs.flatMap fun x => [x.1, x.2.1]) ++ [.slice pa pn pc, .slice ca cn cc]) → LvAt W.heap.size w5 v5 (acc ++ [c]) (xs ++ [(.slice pa pn pc, .slice ca cn cc, qs)]) ∧ Rk lo W b (ks ++ kidsL (acc ++ [c])) r w5) := fun w5 v5 hgr ho => by
      refine ⟨lv2.add hB4 hgr ho cv2 fun q hq q' hq' => Nat.lt_of_lt_of_le (hblk q hq).2 (hblk2 q' hq').1, ?_⟩
      have e : ks ++ kidsL (acc ++ [c]) = ks ++ kidsL acc ++ kidsC c := by simp [kidsL]
      rw [e]
      exact (rk2.then hB4).grow hgr hbl (own_ty hown (by decide))
    have hszA : W.heap.size ≤ (w3.alloc (.cells #[.slice pa pn pc, .slice ca cn cc] 38)).heap.size := by have h1 := rk2.keep.size; have h2 := hB4.size; omega
    have HOS : Hid (∀ u ∈ [Value.slice pa pn pc, .slice ca cn cc], u.oneCell' = true) := by
      intro u hu
      simp only [List.mem_cons, List.not_mem_nil, or_false] at hu
      rcases hu with rfl | rfl <;> rfl
    have HON : Hid (∀ j u, [Value.slice pa pn pc, .slice ca cn cc][j]? = some u → (w3.alloc (.cells #[.slice pa pn pc, .slice ca cn cc] 38)).cell? (Addr.add ⟨w3.heap.size, 0, none⟩ j) = some u) := two_new
    have HW3 := hid_mk hw3
    clear hcx hcv hrk2 rk2 lv2 cv2 hblk hblk2 hw3 hB3 x3 hB4 HRK1 HLV1 HFU HF
    go_upto_region 6 with (fail)
    rw [← HW3.out]
    clear HW3
    go_wp2_with (at_builtin; with_reducible refine wpList_append_own _ rfl _ _ 27 rfl W.heap.size 38 i0 z0 2 48 Tryz.underlying27 hi hz0 hz1 hz2 hz3 (by decide) (.slice va vn vc) acc.length (xs.flatMap fun x => [x.1, x.2.1]) rfl hown ⟨w3.heap.size, 0, none⟩ 1 1 [.slice pa pn pc, .slice ca cn cc] rfl rfl HON.out HOS.out ?c1 ?c2 ?c3 ?_)
    case c1 => unfold maxLen; omega
    case c2 => omega
    case c3 => exact hszA
    intro v5 w5 ho5 hgr5 _
    obtain ⟨hlv5, hrk5⟩ := HNX.out w5 v5 hgr5 ho5
    obtain ⟨ea, en, ec, rfl⟩ := own_sl ho5
    have hah := HA.out _ r w5 hrk5
    obtain ⟨kidq, hrdq, _⟩ := hrk5.open
    obtain ⟨ra, rn, rcap, hrn, _, _, h51, _, _⟩ := hrdq.see
    have c50 : w5.cell? ⟨b, 0, none⟩ = some (.slice ra rn rcap) := cellAt h51 0
    have HLV5 := hid_mk hlv5
    have HRK5 := hid_mk hrk5
    have HRN := hid_mk hrn
    clear HNX hown ho5 hgr5 hlv5 hrk5 hrdq h51 hrn HA k0 k1
    cases r with
    | nil =>
      have HR : Hid (R = some (acc ++ [c])) := by rw [Hid, HGO.out.eq, HZS.out]; rfl
      have hr0 : rn = 0 := HRN.out
      subst hr0
      clear hah HP HZS HGO HOK2 HCS2 HRN
      go_wp2
      go_ret2
      rw [HR.out]
      exact ⟨_, _, rfl, HLV5.out, HRK5.out⟩
    | cons r0 rr =>
    have hr0 : ((rn : Int) == 0) = false := by rw [beq_eq_false_iff_ne, HRN.out]; simp; omega
    cases hcm : ahd (r0 :: rr) 0 18 with
    | false =>
      have HR : Hid (R = none) := by
        rw [Hid, HGO.out.eq, HZS.out]
        simp only [hcm]
        rfl
      have HKP := hid_mk HRK5.out.keep
      rw [hcm] at hah
      clear hcm HP HZS HGO HOK2 HCS2 HRN HLV5 HRK5
      go_wp2_with (go_at_call 37; fail)
      refine hah.mono ?_
      rintro e w6 ⟨rfl, rfl⟩
      clear hah
      go_wp2
      go_ret2
      rw [HR.out]
      exact ⟨rfl, HKP.out⟩
    | true =>
      have hsk := HP.out _ _ w5 HRK5.out (by simp)
      rw [hcm] at hah
      rw [show (r0 :: rr).drop 1 = rr from rfl] at hsk
      have HNX : Hid (∀ w7, Rk lo w5 b (ks ++ kidsL (acc ++ [c])) rr w7 → LsGo lo W b ks vs R (.slice ea en ec) (acc ++ [c]) rr (xs ++ [(.slice pa pn pc, .slice ca cn cc, qs)]) w7) := fun w7 hk => by
        refine ⟨HLV5.out.keepT hk.keep hbl, HRK5.out.from hk, ?_, fun u hu => HGO.out.mem u (HSO.out.2 u (HOK2.out.2.1 u (by simp [hu]))), ?_, fun c' hc' => ?_, ?_⟩
        · rw [HGO.out.eq, HZS.out]
          simp only [hcm, List.isEmpty_cons, Bool.false_eq_true, if_false, if_true]
          rw [show (r0 :: rr).drop 1 = rr from rfl]
          cases lsZ rr with
          | none => rfl
          | some l => simp
        · rw [show kidsL (acc ++ [c]) = kidsL acc ++ kidsC c by simp [kidsL], List.append_assoc]
          refine ((List.Sublist.refl _).append (List.Sublist.trans ?_ (HCS2.out.trans HSS.out))).trans HGO.out.sub
          exact (List.Sublist.refl _).append (List.sublist_cons_self _ _)
        · rcases List.mem_append.1 hc' with h | h
          · exact HGO.out.ne c' h
          · rw [List.mem_singleton.1 h]
            exact fun p hp => (HOK2.out.2.2.2 p hp).1
        · have h1 := HGO.out.la
          have h2 := HOK2.out.1
          have h3 := HSO.out.1
          simp only [List.length_append, List.length_cons, List.length_nil] at h2 ⊢
          omega
      have HLT : Hid (rr.length < us.length) := by
        have h2 := HOK2.out.1
        have h3 := HSO.out.1
        rw [Hid]
        simp only [List.length_cons] at h2
        omega
      clear hcm HP HZS HGO HOK2 HCS2 HRN HLV5 HRK5 HSO HSS
      go_wp2_with (go_at_call 37; fail)
      refine hah.mono ?_
      rintro e w6 ⟨rfl, rfl⟩
      clear hah
      go_wp2_with (go_at_call 38; fail)
      refine hsk.mono ?_
      rintro e w7 ⟨rfl, hk7⟩
      have HGN := hid_mk (HNX.out w7 hk7)
      clear hsk hk7 HNX
      go_wp2
      go_roundg us.length
      case measure => exact HLK.out
      case rel => exact ⟨_, _, _, _, _, _, rfl, HLT.out, HGN⟩
end Go.Proofs.YtdibldcnklgcjaaGreatDoor.L
namespace Go.Proofs.YtdibldcnklgcjaaGreatDoor.L
open Go.RowKit
set_option maxRecDepth 100000

/-- Kinds and addresses of the simple selectors of a list, part by part. -/
def SeeAt (W : World) (v : Value) (l : List (List (List (Int × Addr)))) : Prop := ∃ b off, Sl W v l.length b off ∧ ∀ i (hi : i < l.length), ∃ pv cv bp op, W.cell? ⟨b, off + i * 2, none⟩ = some pv ∧ W.cell? ⟨b, off + i * 2 + 1, none⟩ = some cv ∧ (∃ ca cn cc, cv = .slice ca cn cc) ∧ Sl W pv (l[i]'hi).length bp op ∧
  ∀ j (hj : j < (l[i]'hi).length), ∃ qv bq oq, W.cell? ⟨bp, op + j, none⟩ = some qv ∧ Sl W qv ((l[i]'hi)[j]'hj).length bq oq ∧ ∀ t (ht : t < ((l[i]'hi)[j]'hj).length), (((l[i]'hi)[j]'hj)[t]'ht).2 = ⟨bq, oq + t * 7, none⟩ ∧ W.cell? ⟨bq, oq + t * 7, none⟩ = some (.int .i64 (((l[i]'hi)[j]'hj)[t]'ht).1)
def selP (f : Int → Bool) (p : List (Int × Addr)) : List Addr := (p.filter fun x => f x.1).map Prod.snd
def selC (f : Int → Bool) (c : List (List (Int × Addr))) : List Addr := c.flatMap (selP f)
def selL (f : Int → Bool) (l : List (List (List (Int × Addr)))) : List Addr := l.flatMap (selC f)
theorem selP_step (f : Int → Bool) {p : List (Int × Addr)} {t : Nat} (h : t < p.length) : selP f (p.take (t + 1)) = selP f (p.take t) ++ if f (p[t]'h).1 = true then [(p[t]'h).2] else [] := by
  rw [List.take_add_one, List.getElem?_eq_getElem h, Option.toList_some]
  unfold selP
  rw [List.filter_append, List.map_append]
  congr 1
  by_cases hf : f (p[t]'h).1 = true
  · simp [hf]
  · simp [hf]
theorem selC_step (f : Int → Bool) {c : List (List (Int × Addr))} {t : Nat} (h : t < c.length) : selC f (c.take (t + 1)) = selC f (c.take t) ++ selP f (c[t]'h) := by
  rw [List.take_add_one, List.getElem?_eq_getElem h, Option.toList_some]
  unfold selC
  rw [List.flatMap_append]
  simp
theorem selL_step (f : Int → Bool) {l : List (List (List (Int × Addr)))} {t : Nat} (h : t < l.length) : selL f (l.take (t + 1)) = selL f (l.take t) ++ selC f (l[t]'h) := by
  rw [List.take_add_one, List.getElem?_eq_getElem h, Option.toList_some]
  unfold selL
  rw [List.flatMap_append]
  simp
theorem selP_le (f : Int → Bool) (p : List (Int × Addr)) (t : Nat) : (selP f (p.take t)).length ≤ (selP f p).length := (((List.take_sublist t p).filter _).map _).length_le
theorem selC_le (f : Int → Bool) (c : List (List (Int × Addr))) (t : Nat) : (selC f (c.take t)).length ≤ (selC f c).length := by
  have e : selC f c = selC f (c.take t) ++ selC f (c.drop t) := by
    conv => lhs; rw [← List.take_append_drop t c]
    unfold selC
    rw [List.flatMap_append]
  rw [e, List.length_append]
  omega
theorem selL_le (f : Int → Bool) (l : List (List (List (Int × Addr)))) (t : Nat) : (selL f (l.take t)).length ≤ (selL f l).length := by
  have e : selL f l = selL f (l.take t) ++ selL f (l.drop t) := by
    conv => lhs; rw [← List.take_append_drop t l]
    unfold selL
    rw [List.flatMap_append]
  rw [e, List.length_append]
  omega
/-- A row of pointers of its own. -/
def PsAt (B : Nat) (W : World) (v : Value) (l : List Addr) : Prop := W.ownsRow B 94 1 v l.length (l.map fun a => Value.pointer (some a))
theorem info122 : ∃ i z, Tryz.prog.info? 94 = some i ∧ i.zero = some z ∧ i.size = 1 ∧ i.bytes = 8 ∧ z.cells.size = 1 := ⟨_, _, by rfl, by rfl, by rfl, by rfl, by rfl⟩

set_option maxHeartbeats 2000000 in
theorem within_77 {f : Int → Bool} (hf : ∀ w k, Calls Tryz.prog 40 #[.int .i64 k] w fun e w' => e = .returned (.bool (f k)) ∧ w' = w) {W : World} {v : Value} {l : List (List (List (Int × Addr)))} (hv : SeeAt W v l) (hbig : (selL f l).length ≤ 1000000) :
    Calls Tryz.prog 39 #[v, .func (.func 40) #[] #[]] W fun e w' => ∃ v', e = .returned v' ∧ PsAt W.heap.size w' v' (selL f l) ∧ Below W.heap.size W w' := by
  obtain ⟨i0, z0, hi0, hz0, hz1, hz2, hz3⟩ := info122
  obtain ⟨b, off, ⟨a, cap, rfl, hc1, hc2, hsa⟩, hat⟩ := hv
  have HAT := hid_mk hat
  have HSA := hid_mk hsa
  have HF := hid_mk hf
  have hll : l.length ≤ 9223372036854775807 := by omega
  have HP0 : Hid (PsAt W.heap.size W (.slice none 0 0) []) := ⟨rfl, .inl ⟨rfl, rfl⟩⟩
  have HBG := hid_mk hbig
  obtain ⟨N, hN⟩ : ∃ N, N = l.length := ⟨_, rfl⟩
  rw [← hN] at hll hc1 ⊢
  have HN := hid_mk hN
  clear hat hsa hf hbig hN
  go_enter Tryz.func39, Tryz.ntmps39
  go_wp2
  go_loopw [5, 13] (fun a5 a13 wq => ∃ (i : Nat) (va : Option Addr) (vn vc : Nat), i ≤ N ∧ a13 = .int .i64 (i : Int) ∧ a5 = .slice va vn vc ∧ Hid (PsAt W.heap.size wq (.slice va vn vc) (selL f (l.take i))) ∧ Hid (Below W.heap.size W wq)) (fun _ a13 _ => N + 1 - (intOf a13).toNat)
  case atStart => exact ⟨0, _, _, _, Nat.zero_le _, rfl, rfl, HP0, Below.refl _ _⟩
  case round =>
    obtain ⟨i, va, vn, vc, hi, rfl, rfl, HP, HB⟩ := hrel
    clear HP0
    by_cases hil : i < N
    · have hil' : i < l.length := by have := HN.out; omega
      obtain ⟨rfl, hbw⟩ := HSA.out (by omega)
      obtain ⟨pv, cv, bp, op, q1, q2, ⟨ca, cn, cc, rfl⟩, ⟨pa, pc, rfl, hp1, hp2, hpa⟩, hat⟩ := HAT.out i hil'
      have q1' := (HB.out.cell (p := ⟨b, off + i * 2, none⟩) hbw).trans q1
      have q2' := (HB.out.cell (p := ⟨b, off + i * 2 + 1, none⟩) hbw).trans q2
      have HAI := hid_mk hat
      have HPA := hid_mk hpa
      have HST := hid_mk (selL_step f hil')
      have HLE := hid_mk (selL_le f l (i + 1))
      generalize l[i]'hil' = c at *
      obtain ⟨M, hM⟩ : ∃ M, M = c.length := ⟨_, rfl⟩
      rw [← hM] at hp1 q1 q1'
      have HM := hid_mk hM
      have hpl : M ≤ 9223372036854775807 := by omega
      obtain ⟨w1, hw1⟩ : ∃ w1, w1 = wr.alloc (.cells #[.slice pa M pc, .slice ca cn cc] 38) := ⟨_, rfl⟩
      have hB1 : Below wr.heap.size wr w1 := by rw [hw1]; exact (Below.refl _ _).alloc (Nat.le_refl _) _
      have x1 : w1.heap[wr.heap.size]? = some (.cells #[.slice pa M pc, .slice ca cn cc] 38 (0, 0)) := by rw [hw1]; exact heap_alloc_last wr _
      obtain ⟨k0, k1, _, _⟩ := cells2 x1
      have HB1 := hid_mk (HB.out.trans (hB1.mono HB.out.size))
      have HP1 : Hid (PsAt W.heap.size w1 (.slice va vn vc) (selL f (l.take i) ++ selC f (c.take 0))) := by
        rw [Hid, show selC f (c.take 0) = [] from rfl, List.append_nil]
        exact own_stayT HP.out fun g c hc _ => hB1.block g (Array.getElem?_eq_some_iff.1 hc).1
      have HW1 := hid_mk hw1
      clear hat hpa q1 q2 hM hw1 hB1 x1 HP HB
      go_upto_region 5 with (fail)
      rw [← HW1.out]
      clear HW1 q1' q2'
      go_wp2
      clear k0 k1
      go_loopw [5, 20] (fun a5 a20 wq => ∃ (j : Nat) (va : Option Addr) (vn vc : Nat), j ≤ M ∧ a20 = .int .i64 (j : Int) ∧ a5 = .slice va vn vc ∧ Hid (PsAt W.heap.size wq (.slice va vn vc) (selL f (l.take i) ++ selC f (c.take j))) ∧ Hid (Below W.heap.size W wq)) (fun _ a20 _ => M + 1 - (intOf a20).toNat)
      case atStart => exact ⟨0, _, _, _, Nat.zero_le _, rfl, rfl, HP1, HB1⟩
      case round =>
        obtain ⟨j, va, vn, vc, hj, rfl, rfl, HP, HB⟩ := hrel
        clear HP1 HB1
        by_cases hjl : j < M
        · have hjl' : j < c.length := by have := HM.out; omega
          obtain ⟨rfl, hbw2⟩ := HPA.out (by have := HM.out; omega)
          obtain ⟨qv, bq, oq, q3, ⟨qa, qc, rfl, hq1, hq2, hqa⟩, hat⟩ := HAI.out j hjl'
          have q3' := (HB.out.cell (p := ⟨bp, op + j, none⟩) hbw2).trans q3
          have HAJ := hid_mk hat
          have HQA := hid_mk hqa
          have HSJ := hid_mk (selC_step f hjl')
          have HLJ := hid_mk (selC_le f c (j + 1))
          generalize c[j]'hjl' = p at *
          obtain ⟨L, hL⟩ : ∃ L, L = p.length := ⟨_, rfl⟩
          rw [← hL] at hq1 q3 q3'
          have HL := hid_mk hL
          have hql : L ≤ 9223372036854775807 := by omega
          have HP1 : Hid (PsAt W.heap.size wr (.slice va vn vc) (selL f (l.take i) ++ selC f (c.take j) ++ selP f (p.take 0))) := by
            rw [Hid, show selP f (p.take 0) = [] from rfl, List.append_nil]
            exact HP.out
          have HB1 := HB
          clear hat hqa q3 hL HP HB
          go_wp2
          clear q3'
          go_loopw [5, 26] (fun a5 a26 wq => ∃ (t : Nat) (va : Option Addr) (vn vc : Nat), t ≤ L ∧ a26 = .int .i64 (t : Int) ∧ a5 = .slice va vn vc ∧ Hid (PsAt W.heap.size wq (.slice va vn vc) (selL f (l.take i) ++ selC f (c.take j) ++ selP f (p.take t))) ∧ Hid (Below W.heap.size W wq)) (fun _ a26 _ => L + 1 - (intOf a26).toNat)
          case atStart => exact ⟨0, _, _, _, Nat.zero_le _, rfl, rfl, HP1, HB1⟩
          case round =>
            obtain ⟨t, va, vn, vc, ht, rfl, rfl, HP, HB⟩ := hrel
            clear HP1 HB1
            by_cases htl : t < L
            · have htl' : t < p.length := by have := HL.out; omega
              obtain ⟨rfl, hbw3⟩ := HQA.out (by have := HL.out; omega)
              obtain ⟨hadr, hkind⟩ := HAJ.out t htl'
              have q4 := (HB.out.cell (p := ⟨bq, oq + t * 7, none⟩) hbw3).trans hkind
              have HSP := hid_mk (selP_step f htl')
              have HLP := hid_mk (selP_le f p (t + 1))
              have hcall := HF.out wr (p[t]'htl').1
              rw [hadr] at HSP
              generalize (p[t]'htl').1 = k at *
              have hd1 : ((t : Int) < (L : Int)) := by omega
              clear hadr hkind
              cases hfk : f k with
              | false =>
                have HPN : Hid (PsAt W.heap.size wr (.slice va vn vc) (selL f (l.take i) ++ selC f (c.take j) ++ selP f (p.take (t + 1)))) := by
                  rw [Hid, HSP.out, if_neg (by rw [hfk]; decide), List.append_nil]
                  exact HP.out
                rw [hfk] at hcall
                clear HP HSP hfk
                go_wp2_with (go_at_call 40; fail)
                refine hcall.mono ?_
                rintro e w2 ⟨rfl, rfl⟩
                clear hcall
                go_wp2
                exact ⟨⟨t + 1, _, _, _, by omega, by go_num, rfl, HPN, HB⟩, by simp only [intOf]; omega⟩
              | true =>
                have HE : Hid (selP f (p.take (t + 1)) = selP f (p.take t) ++ [⟨bq, oq + t * 7, none⟩]) := by rw [Hid, HSP.out, if_pos hfk]
                have hbd : (selL f (l.take i) ++ selC f (c.take j) ++ selP f (p.take t)).length + 1 ≤ 1000000 := by
                  have h1 := HBG.out
                  have h2 := HLE.out
                  have h3 := HLJ.out
                  have h4 := HLP.out
                  have e1 := congrArg List.length HST.out
                  have e2 := congrArg List.length HSJ.out
                  have e3 := congrArg List.length HE.out
                  simp only [List.length_append, List.length_singleton] at e1 e2 e3 ⊢
                  omega
                rw [hfk] at hcall
                generalize selL f (l.take i) ++ selC f (c.take j) = pre at *
                generalize hpre : pre ++ selP f (p.take t) = acc at *
                have hown : (wr.alloc (.cells #[.pointer (some ⟨bq, oq + t * 7, none⟩)] 94)).ownsRow W.heap.size 94 1 (.slice va vn vc) acc.length (acc.map fun a => Value.pointer (some a)) := own_stayT HP.out fun g c hc _ => Below.heap_alloc _ _ _ (Array.getElem?_eq_some_iff.1 hc).1
                have HNX : Hid (∀ w3 v3, (wr.alloc (.cells #[.pointer (some ⟨bq, oq + t * 7, none⟩)] 94)).grownBy w3 (Value.slice va vn vc).ownBlock → w3.ownsRow W.heap.size 94 1 v3 (acc.length + 1) ((acc.map fun a => Value.pointer (some a)) ++ [.pointer (some ⟨bq, oq + t * 7, none⟩)]) → PsAt W.heap.size w3 v3 (pre ++ selP f (p.take (t + 1))) ∧ Below W.heap.size W w3) := fun w3 v3 hgr ho => by
                  refine ⟨?_, ?_⟩
                  · rw [HE.out, ← List.append_assoc, hpre]
                    unfold PsAt
                    rw [List.length_append, List.map_append]
                    exact ho
                  · have hB2 : Below W.heap.size W (wr.alloc (.cells #[.pointer (some ⟨bq, oq + t * 7, none⟩)] 94)) := HB.out.alloc HB.out.size _
                    exact hB2.grown hgr hB2.size fun k hk => (hown.lt k hk).1
                have HOS : Hid (∀ u ∈ [Value.pointer (some ⟨bq, oq + t * 7, none⟩)], u.oneCell' = true) := by
                  intro u hu
                  rw [List.mem_singleton.1 hu]
                  rfl
                have HON : Hid (∀ j u, [Value.pointer (some ⟨bq, oq + t * 7, none⟩)][j]? = some u → (wr.alloc (.cells #[.pointer (some ⟨bq, oq + t * 7, none⟩)] 94)).cell? (Addr.add ⟨wr.heap.size, 0, none⟩ j) = some u) := one_news
                have hszA : W.heap.size ≤ (wr.alloc (.cells #[.pointer (some ⟨bq, oq + t * 7, none⟩)] 94)).heap.size := by have := HB.out.size; simp; omega
                clear HP HSP hfk HE hpre
                go_wp2_with (go_at_call 40; fail)
                refine hcall.mono ?_
                rintro e w2 ⟨rfl, rfl⟩
                clear hcall
                go_wp2_with (at_builtin; with_reducible refine wpList_append_own _ rfl _ _ 91 rfl W.heap.size 94 i0 z0 1 8 Tryz.underlying91 hi0 hz0 hz1 hz2 hz3 (by decide) (.slice va vn vc) acc.length (acc.map fun a => Value.pointer (some a)) rfl hown ⟨w2.heap.size, 0, none⟩ 1 1 [.pointer (some ⟨bq, oq + t * 7, none⟩)] rfl rfl HON.out HOS.out ?c1 ?c2 ?c3 ?_)
                case c1 => unfold maxLen; omega
                case c2 => omega
                case c3 => exact hszA
                intro v3 w3 ho3 hgr3 _
                obtain ⟨hP3, hB3⟩ := HNX.out w3 v3 hgr3 ho3
                obtain ⟨ea, en, ec, rfl⟩ := own_sl ho3
                have HP3 := hid_mk hP3
                have HB3 := hid_mk hB3
                clear HNX hown ho3 hgr3 hP3 hB3 q4
                go_wp2
                exact ⟨⟨t + 1, _, _, _, by omega, by go_num, rfl, HP3, HB3⟩, by simp only [intOf]; omega⟩
            · have hte : t = L := by omega
              subst hte
              have HPN : Hid (PsAt W.heap.size wr (.slice va vn vc) (selL f (l.take i) ++ selC f (c.take (j + 1)))) := by
                rw [Hid, HSJ.out, ← List.append_assoc]
                have h1 := HP.out
                rw [HL.out, List.take_length] at h1
                exact h1
              clear HP htl
              go_wp2
              exact ⟨⟨j + 1, _, _, _, by omega, by go_num, rfl, HPN, HB⟩, by simp only [intOf]; omega⟩
        · have hje : j = M := by omega
          subst hje
          have HPN : Hid (PsAt W.heap.size wr (.slice va vn vc) (selL f (l.take (i + 1)))) := by
            rw [Hid, HST.out]
            have h1 := HP.out
            rw [HM.out, List.take_length] at h1
            exact h1
          clear HP hjl
          go_wp2
          exact ⟨⟨i + 1, _, _, _, by omega, by go_num, rfl, HPN, HB⟩, by simp only [intOf]; omega⟩
    · have hie : i = N := by omega
      subst hie
      have HPN : Hid (PsAt W.heap.size wr (.slice va vn vc) (selL f l)) := by
        have h1 := HP.out
        rw [HN.out, List.take_length] at h1
        exact h1
      clear HP hil
      go_wp2
      go_ret
      exact ⟨_, rfl, HPN.out, HB.out⟩

set_option maxHeartbeats 2000000 in
theorem within_83 {f : Int → Bool} (hf : ∀ w k, Calls Tryz.prog 67 #[.int .i64 k] w fun e w' => e = .returned (.bool (f k)) ∧ w' = w) {W : World} {v : Value} {l : List (List (List (Int × Addr)))} (hv : SeeAt W v l) (hbig : (selL f l).length ≤ 1000000) :
    Calls Tryz.prog 39 #[v, .func (.func 67) #[] #[]] W fun e w' => ∃ v', e = .returned v' ∧ PsAt W.heap.size w' v' (selL f l) ∧ Below W.heap.size W w' := by
  obtain ⟨i0, z0, hi0, hz0, hz1, hz2, hz3⟩ := info122
  obtain ⟨b, off, ⟨a, cap, rfl, hc1, hc2, hsa⟩, hat⟩ := hv
  have HAT := hid_mk hat
  have HSA := hid_mk hsa
  have HF := hid_mk hf
  have hll : l.length ≤ 9223372036854775807 := by omega
  have HP0 : Hid (PsAt W.heap.size W (.slice none 0 0) []) := ⟨rfl, .inl ⟨rfl, rfl⟩⟩
  have HBG := hid_mk hbig
  obtain ⟨N, hN⟩ : ∃ N, N = l.length := ⟨_, rfl⟩
  rw [← hN] at hll hc1 ⊢
  have HN := hid_mk hN
  clear hat hsa hf hbig hN
  go_enter Tryz.func39, Tryz.ntmps39
  go_wp2
  go_loopw [5, 13] (fun a5 a13 wq => ∃ (i : Nat) (va : Option Addr) (vn vc : Nat), i ≤ N ∧ a13 = .int .i64 (i : Int) ∧ a5 = .slice va vn vc ∧ Hid (PsAt W.heap.size wq (.slice va vn vc) (selL f (l.take i))) ∧ Hid (Below W.heap.size W wq)) (fun _ a13 _ => N + 1 - (intOf a13).toNat)
  case atStart => exact ⟨0, _, _, _, Nat.zero_le _, rfl, rfl, HP0, Below.refl _ _⟩
  case round =>
    obtain ⟨i, va, vn, vc, hi, rfl, rfl, HP, HB⟩ := hrel
    clear HP0
    by_cases hil : i < N
    · have hil' : i < l.length := by have := HN.out; omega
      obtain ⟨rfl, hbw⟩ := HSA.out (by omega)
      obtain ⟨pv, cv, bp, op, q1, q2, ⟨ca, cn, cc, rfl⟩, ⟨pa, pc, rfl, hp1, hp2, hpa⟩, hat⟩ := HAT.out i hil'
      have q1' := (HB.out.cell (p := ⟨b, off + i * 2, none⟩) hbw).trans q1
      have q2' := (HB.out.cell (p := ⟨b, off + i * 2 + 1, none⟩) hbw).trans q2
      have HAI := hid_mk hat
      have HPA := hid_mk hpa
      have HST := hid_mk (selL_step f hil')
      have HLE := hid_mk (selL_le f l (i + 1))
      generalize l[i]'hil' = c at *
      obtain ⟨M, hM⟩ : ∃ M, M = c.length := ⟨_, rfl⟩
      rw [← hM] at hp1 q1 q1'
      have HM := hid_mk hM
      have hpl : M ≤ 9223372036854775807 := by omega
      obtain ⟨w1, hw1⟩ : ∃ w1, w1 = wr.alloc (.cells #[.slice pa M pc, .slice ca cn cc] 38) := ⟨_, rfl⟩
      have hB1 : Below wr.heap.size wr w1 := by rw [hw1]; exact (Below.refl _ _).alloc (Nat.le_refl _) _
      have x1 : w1.heap[wr.heap.size]? = some (.cells #[.slice pa M pc, .slice ca cn cc] 38 (0, 0)) := by rw [hw1]; exact heap_alloc_last wr _
      obtain ⟨k0, k1, _, _⟩ := cells2 x1
      have HB1 := hid_mk (HB.out.trans (hB1.mono HB.out.size))
      have HP1 : Hid (PsAt W.heap.size w1 (.slice va vn vc) (selL f (l.take i) ++ selC f (c.take 0))) := by
        rw [Hid, show selC f (c.take 0) = [] from rfl, List.append_nil]
        exact own_stayT HP.out fun g c hc _ => hB1.block g (Array.getElem?_eq_some_iff.1 hc).1
      have HW1 := hid_mk hw1
      clear hat hpa q1 q2 hM hw1 hB1 x1 HP HB
      go_upto_region 5 with (fail)
      rw [← HW1.out]
      clear HW1 q1' q2'
      go_wp2
      clear k0 k1
      go_loopw [5, 20] (fun a5 a20 wq => ∃ (j : Nat) (va : Option Addr) (vn vc : Nat), j ≤ M ∧ a20 = .int .i64 (j : Int) ∧ a5 = .slice va vn vc ∧ Hid (PsAt W.heap.size wq (.slice va vn vc) (selL f (l.take i) ++ selC f (c.take j))) ∧ Hid (Below W.heap.size W wq)) (fun _ a20 _ => M + 1 - (intOf a20).toNat)
      case atStart => exact ⟨0, _, _, _, Nat.zero_le _, rfl, rfl, HP1, HB1⟩
      case round =>
        obtain ⟨j, va, vn, vc, hj, rfl, rfl, HP, HB⟩ := hrel
        clear HP1 HB1
        by_cases hjl : j < M
        · have hjl' : j < c.length := by have := HM.out; omega
          obtain ⟨rfl, hbw2⟩ := HPA.out (by have := HM.out; omega)
          obtain ⟨qv, bq, oq, q3, ⟨qa, qc, rfl, hq1, hq2, hqa⟩, hat⟩ := HAI.out j hjl'
          have q3' := (HB.out.cell (p := ⟨bp, op + j, none⟩) hbw2).trans q3
          have HAJ := hid_mk hat
          have HQA := hid_mk hqa
          have HSJ := hid_mk (selC_step f hjl')
          have HLJ := hid_mk (selC_le f c (j + 1))
          generalize c[j]'hjl' = p at *
          obtain ⟨L, hL⟩ : ∃ L, L = p.length := ⟨_, rfl⟩
          rw [← hL] at hq1 q3 q3'
          have HL := hid_mk hL
          have hql : L ≤ 9223372036854775807 := by omega
          have HP1 : Hid (PsAt W.heap.size wr (.slice va vn vc) (selL f (l.take i) ++ selC f (c.take j) ++ selP f (p.take 0))) := by
            rw [Hid, show selP f (p.take 0) = [] from rfl, List.append_nil]
            exact HP.out
          have HB1 := HB
          clear hat hqa q3 hL HP HB
          go_wp2
          clear q3'
          go_loopw [5, 26] (fun a5 a26 wq => ∃ (t : Nat) (va : Option Addr) (vn vc : Nat), t ≤ L ∧ a26 = .int .i64 (t : Int) ∧ a5 = .slice va vn vc ∧ Hid (PsAt W.heap.size wq (.slice va vn vc) (selL f (l.take i) ++ selC f (c.take j) ++ selP f (p.take t))) ∧ Hid (Below W.heap.size W wq)) (fun _ a26 _ => L + 1 - (intOf a26).toNat)
          case atStart => exact ⟨0, _, _, _, Nat.zero_le _, rfl, rfl, HP1, HB1⟩
          case round =>
            obtain ⟨t, va, vn, vc, ht, rfl, rfl, HP, HB⟩ := hrel
            clear HP1 HB1
            by_cases htl : t < L
            · have htl' : t < p.length := by have := HL.out; omega
              obtain ⟨rfl, hbw3⟩ := HQA.out (by have := HL.out; omega)
              obtain ⟨hadr, hkind⟩ := HAJ.out t htl'
              have q4 := (HB.out.cell (p := ⟨bq, oq + t * 7, none⟩) hbw3).trans hkind
              have HSP := hid_mk (selP_step f htl')
              have HLP := hid_mk (selP_le f p (t + 1))
              have hcall := HF.out wr (p[t]'htl').1
              rw [hadr] at HSP
              generalize (p[t]'htl').1 = k at *
              have hd1 : ((t : Int) < (L : Int)) := by omega
              clear hadr hkind
              cases hfk : f k with
              | false =>
                have HPN : Hid (PsAt W.heap.size wr (.slice va vn vc) (selL f (l.take i) ++ selC f (c.take j) ++ selP f (p.take (t + 1)))) := by
                  rw [Hid, HSP.out, if_neg (by rw [hfk]; decide), List.append_nil]
                  exact HP.out
                rw [hfk] at hcall
                clear HP HSP hfk
                go_wp2_with (go_at_call 67; fail)
                refine hcall.mono ?_
                rintro e w2 ⟨rfl, rfl⟩
                clear hcall
                go_wp2
                exact ⟨⟨t + 1, _, _, _, by omega, by go_num, rfl, HPN, HB⟩, by simp only [intOf]; omega⟩
              | true =>
                have HE : Hid (selP f (p.take (t + 1)) = selP f (p.take t) ++ [⟨bq, oq + t * 7, none⟩]) := by rw [Hid, HSP.out, if_pos hfk]
                have hbd : (selL f (l.take i) ++ selC f (c.take j) ++ selP f (p.take t)).length + 1 ≤ 1000000 := by
                  have h1 := HBG.out
                  have h2 := HLE.out
                  have h3 := HLJ.out
                  have h4 := HLP.out
                  have e1 := congrArg List.length HST.out
                  have e2 := congrArg List.length HSJ.out
                  have e3 := congrArg List.length HE.out
                  simp only [List.length_append, List.length_singleton] at e1 e2 e3 ⊢
                  omega
                rw [hfk] at hcall
                generalize selL f (l.take i) ++ selC f (c.take j) = pre at *
                generalize hpre : pre ++ selP f (p.take t) = acc at *
                have hown : (wr.alloc (.cells #[.pointer (some ⟨bq, oq + t * 7, none⟩)] 94)).ownsRow W.heap.size 94 1 (.slice va vn vc) acc.length (acc.map fun a => Value.pointer (some a)) := own_stayT HP.out fun g c hc _ => Below.heap_alloc _ _ _ (Array.getElem?_eq_some_iff.1 hc).1
                have HNX : Hid (∀ w3 v3, (wr.alloc (.cells #[.pointer (some ⟨bq, oq + t * 7, none⟩)] 94)).grownBy w3 (Value.slice va vn vc).ownBlock → w3.ownsRow W.heap.size 94 1 v3 (acc.length + 1) ((acc.map fun a => Value.pointer (some a)) ++ [.pointer (some ⟨bq, oq + t * 7, none⟩)]) → PsAt W.heap.size w3 v3 (pre ++ selP f (p.take (t + 1))) ∧ Below W.heap.size W w3) := fun w3 v3 hgr ho => by
                  refine ⟨?_, ?_⟩
                  · rw [HE.out, ← List.append_assoc, hpre]
                    unfold PsAt
                    rw [List.length_append, List.map_append]
                    exact ho
                  · have hB2 : Below W.heap.size W (wr.alloc (.cells #[.pointer (some ⟨bq, oq + t * 7, none⟩)] 94)) := HB.out.alloc HB.out.size _
                    exact hB2.grown hgr hB2.size fun k hk => (hown.lt k hk).1
                have HOS : Hid (∀ u ∈ [Value.pointer (some ⟨bq, oq + t * 7, none⟩)], u.oneCell' = true) := by
                  intro u hu
                  rw [List.mem_singleton.1 hu]
                  rfl
                have HON : Hid (∀ j u, [Value.pointer (some ⟨bq, oq + t * 7, none⟩)][j]? = some u → (wr.alloc (.cells #[.pointer (some ⟨bq, oq + t * 7, none⟩)] 94)).cell? (Addr.add ⟨wr.heap.size, 0, none⟩ j) = some u) := one_news
                have hszA : W.heap.size ≤ (wr.alloc (.cells #[.pointer (some ⟨bq, oq + t * 7, none⟩)] 94)).heap.size := by have := HB.out.size; simp; omega
                clear HP HSP hfk HE hpre
                go_wp2_with (go_at_call 67; fail)
                refine hcall.mono ?_
                rintro e w2 ⟨rfl, rfl⟩
                clear hcall
                go_wp2_with (at_builtin; with_reducible refine wpList_append_own _ rfl _ _ 91 rfl W.heap.size 94 i0 z0 1 8 Tryz.underlying91 hi0 hz0 hz1 hz2 hz3 (by decide) (.slice va vn vc) acc.length (acc.map fun a => Value.pointer (some a)) rfl hown ⟨w2.heap.size, 0, none⟩ 1 1 [.pointer (some ⟨bq, oq + t * 7, none⟩)] rfl rfl HON.out HOS.out ?c1 ?c2 ?c3 ?_)
                case c1 => unfold maxLen; omega
                case c2 => omega
                case c3 => exact hszA
                intro v3 w3 ho3 hgr3 _
                obtain ⟨hP3, hB3⟩ := HNX.out w3 v3 hgr3 ho3
                obtain ⟨ea, en, ec, rfl⟩ := own_sl ho3
                have HP3 := hid_mk hP3
                have HB3 := hid_mk hB3
                clear HNX hown ho3 hgr3 hP3 hB3 q4
                go_wp2
                exact ⟨⟨t + 1, _, _, _, by omega, by go_num, rfl, HP3, HB3⟩, by simp only [intOf]; omega⟩
            · have hte : t = L := by omega
              subst hte
              have HPN : Hid (PsAt W.heap.size wr (.slice va vn vc) (selL f (l.take i) ++ selC f (c.take (j + 1)))) := by
                rw [Hid, HSJ.out, ← List.append_assoc]
                have h1 := HP.out
                rw [HL.out, List.take_length] at h1
                exact h1
              clear HP htl
              go_wp2
              exact ⟨⟨j + 1, _, _, _, by omega, by go_num, rfl, HPN, HB⟩, by simp only [intOf]; omega⟩
        · have hje : j = M := by omega
          subst hje
          have HPN : Hid (PsAt W.heap.size wr (.slice va vn vc) (selL f (l.take (i + 1)))) := by
            rw [Hid, HST.out]
            have h1 := HP.out
            rw [HM.out, List.take_length] at h1
            exact h1
          clear HP hjl
          go_wp2
          exact ⟨⟨i + 1, _, _, _, by omega, by go_num, rfl, HPN, HB⟩, by simp only [intOf]; omega⟩
    · have hie : i = N := by omega
      subst hie
      have HPN : Hid (PsAt W.heap.size wr (.slice va vn vc) (selL f l)) := by
        have h1 := HP.out
        rw [HN.out, List.take_length] at h1
        exact h1
      clear HP hil
      go_wp2
      go_ret
      exact ⟨_, rfl, HPN.out, HB.out⟩
end Go.Proofs.YtdibldcnklgcjaaGreatDoor.L
