/- The reader of selectors: a compound selector. The reader of selectors: a complex selector. -/
import Derived.Test.YtdibldcnklgcjaaGreatDoorLMs
import Derived.Deep.LoopGhost
namespace Go.Proofs.YtdibldcnklgcjaaGreatDoor.L
open Go.RowKit
set_option maxRecDepth 100000

/-- What compound answers. -/
def Cmp (lo : Nat) (W : World) (b : Nat) (ks : List (List V)) (R : List Sv × List V) (e : Ending) (w' : World) : Prop := ∃ v, e = .returned v ∧ PtAt W.heap.size w' v R.1 ∧ Rk lo W b (ks ++ kidsOf R.1) R.2 w'
/-- The loop of compound. -/
def CoGo (lo : Nat) (W : World) (b : Nat) (ks : List (List V)) (vs : List V) (R : List Sv × List V) (k : Nat) (v : Value) (w : World) : Prop :=
  ∃ acc us, us.length < k ∧ PtAt W.heap.size w v acc ∧ Rk lo W b (ks ++ kidsOf acc) us w ∧ (acc ++ (othZ us).1, (othZ us).2) = R ∧ (∀ u ∈ us, u ∈ vs) ∧ acc.length + 10 * us.length ≤ 10 * vs.length ∧ List.Sublist (kidsOf acc ++ us.map V.kids) (vs.map V.kids)
theorem own_sl {W : World} {B : Nat} {T : TypeId} {s n : Nat} {v : Value} {xs : List Value} (h : W.ownsRow B T s v n xs) : ∃ a m c, v = .slice a m c := by
  rcases h.2 with ⟨rfl, _⟩ | ⟨g, cap, cur, rfl, _⟩
  · exact ⟨_, _, _, rfl⟩
  · exact ⟨_, _, _, rfl⟩
theorem CoGo.sl {W : World} {lo b : Nat} {ks : List (List V)} {vs : List V} {R : List Sv × List V} {k : Nat} {v : Value} {w : World} (h : CoGo lo W b ks vs R k v w) : ∃ a m c, v = .slice a m c := by
  obtain ⟨acc, us, _, h1, _⟩ := h
  exact own_sl h1
theorem pt_nil (B : Nat) (W : World) : PtAt B W (.slice none 0 0) [] := ⟨rfl, .inl ⟨rfl, rfl⟩⟩

set_option maxHeartbeats 1000000 in
theorem compound_any {W : World} {lo b : Nat} {ks : List (List V)} {vs : List V} (h : Rk lo W b ks vs W) (hsg : Signs W) (hb : sgB < b) (hf : Fit vs) (hkn : ks.length + vs.length ≤ 1000000) :
    Calls Tryz.prog 70 #[.pointer (some ⟨b, 0, none⟩)] W (Cmp lo W b ks (compR vs)) := by
  obtain ⟨i0, z0, hi, hz0, hz1, hz2, hz3⟩ := info51
  have hbl : b < W.heap.size := h.lt
  have hvl := hf.len
  have HG : Hid (∀ ks' us w, Rk lo W b ks' us w → Signs w) := fun ks' us w hk => hsg.keepT hk.keep hb
  have HT : Hid (Calls Tryz.prog 91 #[.pointer (some ⟨b, 0, none⟩)] W fun e w' => ∃ v, e = .returned v ∧ CoGo lo W b ks vs (compR vs) (vs.length + 1) v w') := by
    obtain ⟨kids, hrd, hn⟩ := h.open
    refine (tag_any hrd hf.tx').mono fun e w' q => ?_
    have q2 := Way.oth h hn (tagR_ok vs) q
    have ok := bare_ok (tagR_ok vs)
    have sub := bare_sub (tagR_ok vs)
    have hc : compR vs = match bare (tagR vs) with | none => othZ vs | some (l, n) => (l ++ (othZ (vs.drop n)).1, (othZ (vs.drop n)).2) := rfl
    generalize bare (tagR vs) = r at *
    cases r with
    | none =>
      obtain ⟨rfl, hk⟩ := q2
      exact ⟨_, rfl, [], vs, by omega, pt_nil _ _, by simpa [kidsOf] using hk, by rw [hc]; rfl, fun u hu => hu, by simp, by simp [kidsOf]⟩
    | some x =>
      obtain ⟨l, n⟩ := x
      obtain ⟨v, rfl, ho, hk⟩ := q2
      obtain ⟨_, h2, h3, h4, _⟩ := ok l n rfl
      have hl : (vs.drop n).length = vs.length - n := List.length_drop
      exact ⟨v, rfl, l, vs.drop n, by omega, ho, hk, hc.symm, fun u hu => List.mem_of_mem_drop hu, by omega, sub l n rfl⟩
  have HO : Hid (∀ ks' us w, Rk lo W b ks' us w → Fit us → ks'.length ≤ 1000000 → Calls Tryz.prog 92 #[.pointer (some ⟨b, 0, none⟩)] w (Oth lo w b ks' us (otherR us))) := fun ks' us w hk hfu hl => other_any hk.self (HG.out _ _ w hk) hb hfu hl
  have HF := hid_mk hf
  generalize compR vs = R at *
  clear h hsg hf HG
  go_enter Tryz.func70, Tryz.ntmps70
  go_wp2_with (go_at_call 91; fail)
  refine HT.out.mono ?_
  rintro e w1 ⟨v, rfl, hgo⟩
  obtain ⟨va, vn, vc, rfl⟩ := hgo.sl
  have HGO := hid_mk hgo
  clear HT hgo
  go_wp2
  go_loopg [3] (vs.length + 1) (fun k a3 wq => ∃ ba bn bc, a3 = .slice ba bn bc ∧ Hid (CoGo lo W b ks vs R k (.slice ba bn bc) wq))
  case atStart => exact ⟨_, _, _, rfl, HGO⟩
  case round =>
    clear HGO
    obtain ⟨ba, bn, bc, rfl, hrel⟩ := hrel
    obtain ⟨acc, us, hk, hpt, hrk, hR, hm, hl, hsub⟩ := hrel.out
    have hln : us.length ≤ vs.length := by
      have := hsub.length_le
      simp at this
      omega
    have hkk : (ks ++ kidsOf acc).length ≤ 1000000 := by
      have := hsub.length_le
      simp at this
      rw [List.length_append]
      omega
    have hot := HO.out _ us wr hrk (HF.out.sub hln hm) hkk
    have ok := otherR_ok us
    have sub := otherR_sub us
    have zn := othZ_none (vs := us)
    have zs := fun l n => othZ_some (vs := us) (l := l) (n := n)
    generalize otherR us = r at *
    have HK := hid_mk hk
    have HPT := hid_mk hpt
    have HRK := hid_mk hrk
    have HR := hid_mk hR
    have HM := hid_mk hm
    have HL := hid_mk hl
    have HSUB := hid_mk hsub
    have HLN := hid_mk hln
    clear hrel hk hrk hR hm hl hsub hln hkk HO
    cases r with
    | none =>
      have HZ : Hid (∀ w' v', PtAt W.heap.size w' v' acc → Rk lo wr b (ks ++ kidsOf acc) us w' → Cmp lo W b ks R (.returned v') w') := fun w' v' h1 h2 => by
        have e : R = (acc, us) := by rw [← HR.out, zn rfl]; simp
        rw [e]
        exact ⟨v', rfl, h1, HRK.out.from h2⟩
      clear zn zs ok sub
      go_wp2_with (go_at_call 92; fail)
      refine hot.mono ?_
      rintro e w2 ⟨rfl, hk2⟩
      have HF2 := hid_mk (HZ.out w2 _ (hk2.keep.own hbl (by decide) HPT.out) hk2)
      clear hot hk2 HZ hpt
      go_wp2
      go_ret
      exact HF2.out
    | some x =>
      obtain ⟨l, n⟩ := x
      obtain ⟨hne, h10, h1n, hnl, _⟩ := ok l n rfl
      have hpos : 0 < l.length := List.length_pos_iff.2 hne
      have hz := zs l n rfl
      have hs2 := sub l n rfl
      have hdl : (us.drop n).length = us.length - n := List.length_drop
      have HNX : Hid (∀ w' v' k, PtAt W.heap.size w' v' (acc ++ l) → Rk lo W b (ks ++ kidsOf acc ++ kidsOf l) (us.drop n) w' → us.length ≤ k → CoGo lo W b ks vs R k v' w') := fun w' v' k h1 h2 hk => by
        refine ⟨acc ++ l, us.drop n, by omega, h1, ?_, ?_, fun u hu => HM.out u (List.mem_of_mem_drop hu), ?_, ?_⟩
        · rw [kidsOf_append, ← List.append_assoc]
          exact h2
        · rw [← HR.out, hz, List.append_assoc]
        · rw [List.length_append]
          have := HL.out
          omega
        · rw [kidsOf_append, List.append_assoc]
          exact ((List.Sublist.refl _).append hs2).trans HSUB.out
      have hacc : acc.length ≤ 1000000 := by have := HL.out; omega
      clear zn zs ok sub hz hs2 hne h1n hnl hdl
      go_wp2_with (go_at_call 92; fail)
      refine hot.mono ?_
      rintro e w2 ⟨v2, rfl, ho2, hk2⟩
      obtain ⟨ad, c, rfl⟩ := own_len ho2 hpos
      have hnews := own_news ho2
      have hpt2 : w2.ownsRow W.heap.size 40 7 (.slice ba bn bc) acc.length (ssC (acc.map Prod.fst)) := hk2.keep.own hbl (by decide) HPT.out
      have HRK2 := hid_mk (HRK.out.from hk2)
      have hsz : W.heap.size ≤ w2.heap.size := HRK2.out.keep.size
      have hll : (ssC (l.map Prod.fst)).length = l.length * 7 := by rw [ssC_len]; simp
      have hn0 : ((l.length : Int) == 0) = false := by rw [beq_eq_false_iff_ne]; omega
      have hone := ssC_one (l.map Prod.fst)
      have HLL := hid_mk hll
      have HO1 := hid_mk hone
      clear hot ho2 hk2 hll hone hpt
      go_wp2_with (at_builtin; with_reducible refine wpList_append_own _ rfl _ _ 41 rfl W.heap.size 40 i0 z0 7 88 Tryz.underlying41 hi hz0 hz1 hz2 hz3 (by decide) (.slice ba bn bc) acc.length (ssC (acc.map Prod.fst)) rfl hpt2 ad l.length c (ssC (l.map Prod.fst)) rfl HLL.out hnews HO1.out ?c1 ?c2 ?c3 ?_)
      case c1 => unfold maxLen; omega
      case c2 => omega
      case c3 => exact hsz
      intro v3 w3 ho3 hgr _
      obtain ⟨ca, cn, cc, rfl⟩ := own_sl ho3
      have hP3 : PtAt W.heap.size w3 (.slice ca cn cc) (acc ++ l) := by
        unfold PtAt
        rw [fsts_append, List.length_append]
        exact ho3
      have HZ := hid_mk (HNX.out w3 _ us.length hP3 (HRK2.out.grow hgr hbl (own_ty hpt2 (by decide))) (Nat.le_refl _))
      clear hpt2 hnews ho3 hgr hP3 HNX
      go_wp2
      go_roundg us.length
      case measure => exact HK.out
      case rel => exact ⟨_, _, _, rfl, HZ⟩
end Go.Proofs.YtdibldcnklgcjaaGreatDoor.L
namespace Go.Proofs.YtdibldcnklgcjaaGreatDoor.L
open Go.RowKit
set_option maxRecDepth 100000

theorem info52 : ∃ i z, Tryz.prog.info? 41 = some i ∧ i.zero = some z ∧ i.size = 1 ∧ i.bytes = 24 ∧ z.cells.size = 1 := ⟨_, _, by rfl, by rfl, by rfl, by rfl, by rfl⟩
theorem info3 : ∃ i z, Tryz.prog.info? 3 = some i ∧ i.zero = some z ∧ i.size = 1 ∧ i.bytes = 8 ∧ z.cells.size = 1 := ⟨_, _, by rfl, by rfl, by rfl, by rfl, by rfl⟩
theorem info46 : ∃ i z, Tryz.prog.info? 38 = some i ∧ i.zero = some z ∧ i.size = 2 ∧ i.bytes = 48 ∧ z.cells.size = 2 := ⟨_, _, by rfl, by rfl, by rfl, by rfl, by rfl⟩
/-- A row's block is of its type. -/
theorem own_at {w : World} {B n s g : Nat} {T : TypeId} {v : Value} {xs : List Value} (h : w.ownsRow B T s v n xs) (e : v.ownBlock = some g) : B ≤ g ∧ ∃ c, w.heap[g]? = some (.cells c T (0, 0)) := by
  rcases h.2 with ⟨rfl, _⟩ | ⟨g', cap, cur, rfl, h1, h2, _⟩
  · cases e
  · cases e
    exact ⟨h1, cur, h2⟩
theorem ty_ne {w : World} {g : Nat} {T U : TypeId} {c d : Array Value} {fr fq : Nat × Nat} (h : w.heap[g]? = some (.cells c T fr)) (k : w.heap[g]? = some (.cells d U fq)) : T = U := by
  rw [h] at k
  cases k
  rfl
theorem Rk.else {W0 w : World} {lo b : Nat} {ks : List (List V)} {vs : List V} (h : Rk lo W0 b ks vs w) (hb : b < W0.heap.size) {o i : Nat} {c : Array Value} {T : TypeId} {fr : Nat × Nat} (x : Value) (ho : W0.heap.size ≤ o) (ht : w.heap[o]? = some (.cells c T fr)) (hT : T ≠ 44) : Rk lo W0 b ks vs (w.setCell ⟨o, i, none⟩ x) := by
  obtain ⟨kids, cs, ⟨⟨rest, h1, h2⟩, _⟩, h3, h4⟩ := h.rd
  have hst : ∀ {v l}, VsAt (· < min lo b) w v l → VsAt (· < min lo b) (w.setCell ⟨o, i, none⟩ x) v l := fun q => q.stay (by simp) fun j hj _ => heap_ne (by omega)
  refine ⟨⟨kids, cs, ⟨⟨rest, (heap_ne (by omega)).trans h1, hst h2⟩, KeepX.of (Below.refl _ _)⟩, own_stayT h3 fun g c hg _ => heap_ne ?_, fun i hi => (h4 i hi).imp fun v q => ⟨q.1, hst q.2⟩⟩, ⟨h.keep.os, h.keep.tape, h.keep.output, by simpa using h.keep.size, fun j hj hn hc => (heap_ne (by omega)).trans (h.keep.typ j hj hn hc)⟩⟩
  rintro rfl
  exact hT (ty_ne ht hg)
theorem CvAt.set {B : Nat} {w : World} {pv cv : Value} {c : Cv} {qs : List Value} (h : CvAt B w pv cv c qs) {o i : Nat} {d : Array Value} {T : TypeId} {fr : Nat × Nat} (x : Value) (ht : w.heap[o]? = some (.cells d T fr)) (hT : T ≠ 40 ∧ T ≠ 41 ∧ T ≠ 3) : CvAt B (w.setCell ⟨o, i, none⟩ x) pv cv c qs :=
  h.stayT fun T' g cur hT' hg _ => heap_ne fun e => by
    subst e
    have := ty_ne ht hg
    subst this
    rcases hT' with e | e | e
    · exact hT.1 e
    · exact hT.2.1 e
    · exact hT.2.2 e
theorem CvAt.addPart {B : Nat} {w wa w2 : World} {pv cv pv' v1 : Value} {acc : List (List Sv)} {kk : List Int} {qs : List Value} {p : List Sv} (h : CvAt B w pv cv (acc, kk) qs) (ha : Below w.heap.size w wa) (hg : wa.grownBy w2 pv.ownBlock) (ho : w2.ownsRow B 41 1 pv' (acc.length + 1) (qs ++ [v1])) (hp : PtAt B w v1 p) (hu : ∀ q ∈ qs, blk q < blk v1) : CvAt B w2 pv' cv (acc ++ [p], kk) (qs ++ [v1]) := by
  have hst : ∀ (T : TypeId) (g : Nat) (cur : Array Value), T ≠ 41 → w.heap[g]? = some (.cells cur T (0, 0)) → w2.heap[g]? = w.heap[g]? := fun T g cur hT hh => by
    have hl := (Array.getElem?_eq_some_iff.1 hh).1
    rw [hg.block g (Nat.lt_of_lt_of_le hl ha.size) (fun e => ?_), ha.block g hl]
    obtain ⟨_, c, hc⟩ := own_at h.ps e.symm
    exact hT (ty_ne hh hc)
  have hql : qs.length = acc.length := by have := h.ps.1; simp at this; exact this
  refine ⟨by rw [List.length_append]; exact ho, fun j hj => ?_, own_stayT h.cs fun g c hc _ => hst 3 g c (by decide) hc, List.pairwise_append.2 ⟨h.up, by simp, fun x hx y hy => by rw [List.mem_singleton.1 hy]; exact hu x hx⟩⟩
  by_cases hja : j < acc.length
  · obtain ⟨q, e, hq⟩ := h.pt j hja
    refine ⟨q, by rw [List.getElem?_append_left (by omega)]; exact e, ?_⟩
    rw [List.getElem_append_left hja]
    exact own_stayT hq fun g c hc _ => hst 40 g c (by decide) hc
  · have hje : j = acc.length := by simp at hj; omega
    subst hje
    refine ⟨v1, by rw [List.getElem?_append_right (by omega), hql]; simp, ?_⟩
    rw [List.getElem_append_right (Nat.le_refl _)]
    have : PtAt B w2 v1 p := own_stayT hp fun g c hc _ => hst 40 g c (by decide) hc
    simpa using this
theorem CvAt.addComb {B : Nat} {w wa w2 : World} {pv cv cv' : Value} {acc : List (List Sv)} {kk : List Int} {qs : List Value} {k : Int} (h : CvAt B w pv cv (acc, kk) qs) (ha : Below w.heap.size w wa) (hg : wa.grownBy w2 cv.ownBlock) (ho : w2.ownsRow B 3 1 cv' (kk.length + 1) (kk.map (Value.int .i64) ++ [.int .i64 k])) : CvAt B w2 pv cv' (acc, kk ++ [k]) qs := by
  have hst : ∀ (T : TypeId) (g : Nat) (cur : Array Value), T ≠ 3 → w.heap[g]? = some (.cells cur T (0, 0)) → w2.heap[g]? = w.heap[g]? := fun T g cur hT hh => by
    have hl := (Array.getElem?_eq_some_iff.1 hh).1
    rw [hg.block g (Nat.lt_of_lt_of_le hl ha.size) (fun e => ?_), ha.block g hl]
    obtain ⟨_, c, hc⟩ := own_at h.cs e.symm
    exact hT (ty_ne hh hc)
  refine ⟨own_stayT h.ps fun g c hc _ => hst 41 g c (by decide) hc, fun j hj => (h.pt j hj).imp fun q hq => ⟨hq.1, own_stayT hq.2 fun g c hc _ => hst 40 g c (by decide) hc⟩, ?_, h.up⟩
  rw [List.length_append, List.map_append]
  exact ho
/-- All part rows lie in the heap as it is. -/
theorem CvAt.blks {B : Nat} {w : World} {pv cv : Value} {c : Cv} {qs : List Value} (h : CvAt B w pv cv c qs) (hne : ∀ p ∈ c.1, p ≠ []) : ∀ q ∈ qs, B ≤ blk q ∧ blk q < w.heap.size := fun q hq => by
  obtain ⟨j, hj, rfl⟩ := List.mem_iff_getElem.1 hq
  have hql : qs.length = c.1.length := by have := h.ps.1; simp at this; exact this
  obtain ⟨q', e, hp⟩ := h.pt j (by omega)
  rw [List.getElem?_eq_getElem hj] at e
  cases e
  exact ⟨(PtAt.blk hp (hne _ (List.getElem_mem _))).1, (PtAt.blk hp (hne _ (List.getElem_mem _))).2.1⟩
/-- What complex answers. -/
def CxPost (lo : Nat) (W : World) (b : Nat) (ks : List (List V)) (R : Option (Cv × List V)) (e : Ending) (w' : World) : Prop := match R with
  | none => ∃ x y, e = .returned (.tuple #[.agg #[x, y], .bool false]) ∧ x = .slice none 0 0 ∧ y = .slice none 0 0 ∧ KeepT b W w'
  | some (c, r) => ∃ pv cv qs, e = .returned (.tuple #[.agg #[pv, cv], .bool true]) ∧ CvAt W.heap.size w' pv cv c qs ∧ Rk lo W b (ks ++ kidsC c) r w'
/-- What the loop of complex keeps. -/
structure CxGo (lo : Nat) (W : World) (b : Nat) (ks : List (List V)) (vs : List V) (R : Option (Cv × List V)) (pv cv : Value) (acc : List (List Sv)) (kk : List Int) (us : List V) (qs : List Value) (w : World) : Prop where
  out : w.heap[W.heap.size + 1]? = some (.cells #[pv, cv] 38 (0, 0))
  res : w.heap[W.heap.size]? = some (.cells #[.slice none 0 0, .slice none 0 0] 38 (0, 0))
  cx : CvAt W.heap.size w pv cv (acc, kk) qs
  rk : Rk lo W b (ks ++ kidsC (acc, kk)) us w
  eq : R = match cxZ us with | none => none | some ((ps, js), r) => some ((acc ++ ps, kk ++ js), r)
  mem : ∀ u ∈ us, u ∈ vs
  sub : List.Sublist (kidsC (acc, kk) ++ us.map V.kids) (vs.map V.kids)
  ne : ∀ p ∈ acc, p ≠ []
  la : acc.length + us.length ≤ vs.length
  lk : kk.length ≤ acc.length
theorem set7_2 {B : Nat} {W w : World} (h : KeepT B W w) {o : Nat} (ho : W.heap.size ≤ o) (x0 x1 : Value) : KeepT B W ((w.setCell ⟨o, 0, none⟩ x0).setCell ⟨o, 1, none⟩ x1) :=
  ⟨h.os, h.tape, h.output, by simpa using h.size, fun j hj hn hc => (heap_ne (by omega)).trans ((heap_ne (by omega)).trans (h.typ j hj hn hc))⟩
theorem one_news {w : World} {x : Value} {T : TypeId} : ∀ j u, [x][j]? = some u → (w.alloc (.cells #[x] T)).cell? (Addr.add ⟨w.heap.size, 0, none⟩ j) = some u := fun j u hu => by
  rw [Addr.add_mid, Nat.zero_add, cellAt (heap_alloc_last w _) j]
  simpa using hu

set_option maxHeartbeats 1000000 in
theorem complex_any {W : World} {lo b : Nat} {ks : List (List V)} {vs : List V} (h : Rk lo W b ks vs W) (hsg : Signs W) (hb : sgB < b) (hf : Fit vs) (hkn : ks.length + vs.length ≤ 1000000) :
    Calls Tryz.prog 36 #[.pointer (some ⟨b, 0, none⟩)] W (CxPost lo W b ks (cxZ vs)) := by
  obtain ⟨i0, z0, hi, hz0, hz1, hz2, hz3⟩ := info52
  obtain ⟨j0, y0, hj, hy0, hy1, hy2, hy3⟩ := info3
  have hbl : b < W.heap.size := h.lt
  have hvl := hf.len
  have HG : Hid (∀ ks' us w, Rk lo W b ks' us w → Signs w) := fun ks' us w hk => hsg.keepT hk.keep hb
  have HC : Hid (∀ ks' us w, Rk lo W b ks' us w → Fit us → ks'.length + us.length ≤ 1000000 → Calls Tryz.prog 70 #[.pointer (some ⟨b, 0, none⟩)] w (Cmp lo w b ks' (compR us))) := fun ks' us w hk hfu hl => compound_any hk.self (HG.out _ _ w hk) hb hfu hl
  have HD : Hid (∀ ks' us w, Rk lo W b ks' us w → Calls Tryz.prog 71 #[.pointer (some ⟨b, 0, none⟩)] w fun e w' => e = .returned (.int .i64 (combR us).1) ∧ Rk lo w b ks' (combR us).2 w') := fun ks' us w hk => by
    obtain ⟨kids, hrd, hn⟩ := hk.self.open
    exact (comb_any hrd (HG.out _ _ w hk) (by omega)).mono fun e w' q => ⟨q.1, hn _ _ q.2⟩
  obtain ⟨W1, hW1⟩ : ∃ W1, W1 = (W.alloc (.cells #[.slice none 0 0, .slice none 0 0] 38)).alloc (.cells #[.slice none 0 0, .slice none 0 0] 38) := ⟨_, rfl⟩
  have hB1 : Below W.heap.size W W1 := by rw [hW1]; exact ((Below.refl _ _).alloc (Nat.le_refl _) _).alloc (by simp) _
  have HGO : Hid (CxGo lo W b ks vs (cxZ vs) (.slice none 0 0) (.slice none 0 0) [] [] vs [] W1) := by
    refine ⟨?_, ?_, ⟨⟨rfl, .inl ⟨rfl, rfl⟩⟩, fun j hj => absurd hj (by simp), ⟨rfl, .inl ⟨rfl, rfl⟩⟩, List.Pairwise.nil⟩, ?_, ?_, fun u hu => hu, ?_, fun p hp => absurd hp (by simp), by simp, Nat.le_refl _⟩
    · have e : W.heap.size + 1 = (W.alloc (.cells #[.slice none 0 0, .slice none 0 0] 38)).heap.size := by simp
      rw [hW1, e]
      exact heap_alloc_last _ _
    · rw [hW1, Below.heap_alloc _ _ _ (by simp)]
      exact heap_alloc_last W _
    · simpa [kidsC] using h.then hB1
    · cases cxZ vs with
      | none => rfl
      | some x => rfl
    · simp [kidsC]
  have HF := hid_mk hf
  have HW1 := hid_mk hW1
  generalize cxZ vs = R at *
  clear h hsg hf HG hW1 hB1
  go_enter Tryz.func36, Tryz.ntmps36
  go_wp2_with (fail)
  rw [← HW1.out]
  clear HW1
  go_loopg [] (vs.length + 1) (fun k wq => ∃ pv cv acc kk us qs, us.length < k ∧ Hid (CxGo lo W b ks vs R pv cv acc kk us qs wq))
  case atStart => exact ⟨_, _, _, _, _, _, by omega, HGO⟩
  case round =>
    clear HGO
    obtain ⟨pv, cv, acc, kk, us, qs, hlk, HGO⟩ := hrel
    obtain ⟨ca, cn, cc, rfl⟩ := own_sl HGO.out.cx.cs
    have hln : us.length ≤ vs.length := by have := HGO.out.la; omega
    have hkk : (ks ++ kidsC (acc, kk)).length + us.length ≤ 1000000 := by
      have := HGO.out.sub.length_le
      simp at this
      rw [List.length_append]
      omega
    have hcp := HC.out _ us wr HGO.out.rk (HF.out.sub hln HGO.out.mem) hkk
    have HZS := hid_mk (cxZ_step us)
    have HLT := hid_mk (compR_ok us)
    have HSB := hid_mk (compR_sub us)
    have HLK := hid_mk hlk
    have HLN := hid_mk hln
    unfold cxStep at HZS
    clear HC hlk hln hkk
    generalize compR us = pr at *
    obtain ⟨p, r1⟩ := pr
    go_wp2_with (go_at_call 70; fail)
    refine hcp.mono ?_
    rintro e w1 ⟨v1, rfl, hpt, hrk⟩
    simp only [] at hpt hrk
    have hK1 := hrk.keep
    have hsz : W.heap.size ≤ wr.heap.size := HGO.out.rk.keep.size
    have o1 : w1.heap[W.heap.size + 1]? = some (.cells #[pv, .slice ca cn cc] 38 (0, 0)) := (hK1.typ _ (Array.getElem?_eq_some_iff.1 HGO.out.out).1 (by omega) (.inr fun c fr e => by have := ty_ne HGO.out.out e; cases this)).trans HGO.out.out
    have x1 : w1.heap[W.heap.size]? = some (.cells #[.slice none 0 0, .slice none 0 0] 38 (0, 0)) := (hK1.typ _ (Array.getElem?_eq_some_iff.1 HGO.out.res).1 (by omega) (.inr fun c fr e => by have := ty_ne HGO.out.res e; cases this)).trans HGO.out.res
    have cx1 := HGO.out.cx.keepT hK1 hbl
    have rk1 := HGO.out.rk.from hrk
    have hblk := HGO.out.cx.blks HGO.out.ne
    cases p with
    | nil =>
      have HR : Hid (R = none) := by rw [Hid, HGO.out.eq, HZS.out]
      have hsl : ∃ a c, v1 = .slice a 0 c := by
        rcases hpt.2 with ⟨rfl, _⟩ | ⟨g, cap, cur, rfl, _⟩
        · exact ⟨_, _, rfl⟩
        · exact ⟨_, _, rfl⟩
      obtain ⟨a1, c1, rfl⟩ := hsl
      obtain ⟨k0, k1, f0, f1⟩ := cells2 x1
      have HKT := hid_mk rk1.keep
      clear hcp hpt hrk hK1 o1 x1 cx1 rk1 hblk HGO HZS HLT HSB HD
      go_wp2
      rw [HR.out]
      exact bodyPost_ret (v := .tuple #[.agg #[.slice none 0 0, .slice none 0 0], .bool false]) (by simp [results, Tryz.results36, go_sem, k0, k1]) rfl ⟨_, _, rfl, rfl, rfl, set7_2 HKT.out (Nat.le_refl _) _ _⟩
    | cons s0 p0 =>
    obtain ⟨hg1, hg2, cap1, cur1, hv1, _⟩ := PtAt.blk hpt (by simp)
    have hptW : PtAt W.heap.size w1 v1 (s0 :: p0) := own_from hpt hsz
    have hlen : r1.length < us.length := HLT.out.2.1 (by simp)
    have hup : ∀ q ∈ qs, blk q < blk v1 := fun q hq => Nat.lt_of_lt_of_le (hblk q hq).2 hg1
    have hown : (w1.alloc (.cells #[v1] 41)).ownsRow W.heap.size 41 1 pv acc.length qs := own_stayT cx1.ps fun g c hc _ => Below.heap_alloc _ _ _ (Array.getElem?_eq_some_iff.1 hc).1
    obtain ⟨pa, pn, pc, rfl⟩ := own_sl hown
    obtain ⟨k0, k1, f0, f1⟩ := cells2 o1
    have hn0 : (((s0 :: p0).length : Int) == 0) = false := by rw [beq_eq_false_iff_ne]; simp; omega
    have HNE : Hid (∀ a, (∃ w2 v2, a = (w2, v2) ∧ (w1.alloc (.cells #[v1] 41)).grownBy w2 (Value.slice pa pn pc).ownBlock ∧ w2.ownsRow W.heap.size 41 1 v2 (acc.length + 1) (qs ++ [v1])) → CvAt W.heap.size (a.1.setCell ⟨W.heap.size + 1, 0, none⟩ a.2) a.2 (.slice ca cn cc) (acc ++ [s0 :: p0], kk) (qs ++ [v1]) ∧ Rk lo W b (ks ++ kidsC (acc ++ [s0 :: p0], kk)) r1 (a.1.setCell ⟨W.heap.size + 1, 0, none⟩ a.2) ∧ a.1.heap[W.heap.size + 1]? = some (.cells #[.slice pa pn pc, .slice ca cn cc] 38 (0, 0)) ∧ (a.1.setCell ⟨W.heap.size + 1, 0, none⟩ a.2).heap[W.heap.size + 1]? = some (.cells #[a.2, .slice ca cn cc] 38 (0, 0)) ∧ (a.1.setCell ⟨W.heap.size + 1, 0, none⟩ a.2).heap[W.heap.size]? = some (.cells #[.slice none 0 0, .slice none 0 0] 38 (0, 0))) := fun a ⟨w2, v2, e, hgr, ho⟩ => by
      subst e
      simp only []
      have hal : Below w1.heap.size w1 (w1.alloc (.cells #[v1] 41)) := (Below.refl _ _).alloc (Nat.le_refl _) _
      have hne46 : ∀ (j : Nat) (c : Array Value), w1.heap[j]? = some (.cells c 38 (0, 0)) → w2.heap[j]? = w1.heap[j]? := fun j c hj => by
        have hl := (Array.getElem?_eq_some_iff.1 hj).1
        rw [hgr.block j (Nat.lt_of_lt_of_le hl hal.size) (fun e => ?_), hal.block j hl]
        obtain ⟨_, c, hc⟩ := own_at cx1.ps e.symm
        have := ty_ne hj hc
        cases this
      have o2 := (hne46 _ _ o1).trans o1
      have x2 := (hne46 _ _ x1).trans x1
      have hC := cx1.addPart hal hgr ho hptW hup
      have hR := (rk1.then hal).grow hgr hbl (own_ty hown (by decide))
      refine ⟨hC.set _ o2 (by decide), ?_, o2, by rw [set_at 0 _ _ o2]; rfl, (heap_ne (by omega)).trans x2⟩
      have e : ks ++ kidsC (acc ++ [s0 :: p0], kk) = ks ++ kidsC (acc, kk) ++ kidsOf (s0 :: p0) := by simp [kidsC]
      rw [e]
      exact hR.else hbl _ (by omega) o2 (by decide)
    have hal3 : acc.length ≤ 1000000 := by have := HGO.out.la; omega
    have hkl3 : kk.length ≤ 1000000 := by have := HGO.out.lk; omega
    have hszA : W.heap.size ≤ (w1.alloc (.cells #[v1] 41)).heap.size := by have := rk1.keep.size; simp; omega
    have HV1 := hid_mk hv1
    have hvs1 : ∃ va n1 vc, v1 = .slice va n1 vc ∧ ((n1 : Int) == 0) = false := ⟨_, _, _, hv1, hn0⟩
    have HHL := hid_mk hlen
    have HOS : Hid (∀ u ∈ [v1], u.oneCell' = true) := by
      intro u hu
      rw [List.mem_singleton.1 hu, HV1.out]
      rfl
    have HON : Hid (∀ j u, [v1][j]? = some u → (w1.alloc (.cells #[v1] 41)).cell? (Addr.add ⟨w1.heap.size, 0, none⟩ j) = some u) := one_news
    clear hcp hpt hrk hK1 o1 x1 cx1 rk1 hblk hv1 hptW hup hg1 hg2 hlen
    obtain ⟨va, n1, vc, rfl, hn1⟩ := hvs1
    clear HV1 hn0
    go_wp2_with (at_builtin; with_reducible refine wpList_append_own _ rfl _ _ 35 rfl W.heap.size 41 i0 z0 1 24 Tryz.underlying35 hi hz0 hz1 hz2 hz3 (by decide) (.slice pa pn pc) acc.length qs rfl hown ⟨w1.heap.size, 0, none⟩ 1 1 [.slice va n1 vc] rfl rfl HON.out HOS.out ?c1 ?c2 ?c3 ?_)
    case c1 => unfold maxLen; omega
    case c2 => omega
    case c3 => exact hszA
    intro v2 w2 ho2 hgr2 _
    obtain ⟨hC3, hR3, o2, o3, x3⟩ := HNE.out (w2, v2) ⟨w2, v2, rfl, hgr2, ho2⟩
    simp only [] at hC3 hR3 o2 o3 x3
    obtain ⟨qa, qn, qc, rfl⟩ := own_sl ho2
    obtain ⟨d0, d1, g0, g1⟩ := cells2 o2
    obtain ⟨w3, hw3⟩ : ∃ w3, w3 = w2.setCell ⟨W.heap.size + 1, 0, none⟩ (.slice qa qn qc) := ⟨_, rfl⟩
    rw [← hw3] at hC3 hR3 o3 x3
    have hcb := HD.out _ r1 w3 hR3
    have HW3 := hid_mk hw3
    have HC3 := hid_mk hC3
    have HR3 := hid_mk hR3
    have HO3 := hid_mk o3
    have HX3 := hid_mk x3
    have HCB := hid_mk (combR_ok r1)
    have HCS := hid_mk (combR_sub r1)
    generalize combR r1 = cr at *
    obtain ⟨k, r2⟩ := cr
    clear HNE ho2 hgr2 hown hC3 hR3 o2 o3 x3 hw3 HD k0 k1 f0 f1
    go_wp2_with (go_at_call 71; fail)
    rw [← HW3.out]
    refine hcb.mono ?_
    rintro e w4 ⟨rfl, hrk4⟩
    have hK4 := hrk4.keep
    have o4 : w4.heap[W.heap.size + 1]? = some (.cells #[.slice qa qn qc, .slice ca cn cc] 38 (0, 0)) := (hK4.typ _ (Array.getElem?_eq_some_iff.1 HO3.out).1 (by omega) (.inr fun c fr e => by have := ty_ne HO3.out e; cases this)).trans HO3.out
    have x4 : w4.heap[W.heap.size]? = some (.cells #[.slice none 0 0, .slice none 0 0] 38 (0, 0)) := (hK4.typ _ (Array.getElem?_eq_some_iff.1 HX3.out).1 (by omega) (.inr fun c fr e => by have := ty_ne HX3.out e; cases this)).trans HX3.out
    have cx4 := HC3.out.keepT hK4 hbl
    have rk4 := HR3.out.from hrk4
    clear hcb hrk4 hK4 HC3 HR3 HO3 HX3 HW3 d0 d1 g0 g1
    have hsz4 : W.heap.size ≤ w4.heap.size := rk4.keep.size
    obtain ⟨d0, d1, g0, g1⟩ := cells2 o4
    by_cases hk0 : k = 0
    · have HR : Hid (R = some ((acc ++ [s0 :: p0], kk), r2)) := by
        rw [Hid, HGO.out.eq, HZS.out]
        simp only [hk0, if_true, List.append_nil]
      obtain ⟨t0, t1, h0, h1⟩ := cells2 x4
      have HX4 := hid_mk x4
      have HC4 := hid_mk cx4
      have HR4 := hid_mk rk4
      subst hk0
      clear x4 o4 cx4 rk4 HGO HZS HLT HSB HCB HCS
      go_wp2
      rw [HR.out]
      refine bodyPost_ret (v := .tuple #[.agg #[.slice qa qn qc, .slice ca cn cc], .bool true]) (by simp [results, Tryz.results36, go_sem, t0, t1]) rfl ⟨_, _, _, rfl, (HC4.out.set _ HX4.out (by decide)).set _ (set_at 0 _ _ HX4.out) (by decide), (HR4.out.else hbl _ (Nat.le_refl _) HX4.out (by decide)).else hbl _ (Nat.le_refl _) (set_at 0 _ _ HX4.out) (by decide)⟩
    · have hk1 : (k == 0) = false := by rw [beq_eq_false_iff_ne]; exact hk0
      have hown4 : (w4.alloc (.cells #[.int .i64 k] 3)).ownsRow W.heap.size 3 1 (.slice ca cn cc) kk.length (kk.map (Value.int .i64)) := own_stayT cx4.cs fun g c hc _ => Below.heap_alloc _ _ _ (Array.getElem?_eq_some_iff.1 hc).1
      have HNX : Hid (∀ w5 v5, (w4.alloc (.cells #[.int .i64 k] 3)).grownBy w5 (Value.slice ca cn cc).ownBlock → w5.ownsRow W.heap.size 3 1 v5 (kk.length + 1) (kk.map (Value.int .i64) ++ [.int .i64 k]) → CxGo lo W b ks vs R (.slice qa qn qc) v5 (acc ++ [s0 :: p0]) (kk ++ [k]) r2 (qs ++ [.slice va n1 vc]) (w5.setCell ⟨W.heap.size + 1, 1, none⟩ v5) ∧ w5.heap[W.heap.size + 1]? = some (.cells #[.slice qa qn qc, .slice ca cn cc] 38 (0, 0))) := fun w5 v5 hgr ho => by
        have hal : Below w4.heap.size w4 (w4.alloc (.cells #[.int .i64 k] 3)) := (Below.refl _ _).alloc (Nat.le_refl _) _
        have hne46 : ∀ (j : Nat) (c : Array Value), w4.heap[j]? = some (.cells c 38 (0, 0)) → w5.heap[j]? = w4.heap[j]? := fun j c hj => by
          have hl := (Array.getElem?_eq_some_iff.1 hj).1
          rw [hgr.block j (Nat.lt_of_lt_of_le hl hal.size) (fun e => ?_), hal.block j hl]
          obtain ⟨_, c, hc⟩ := own_at cx4.cs e.symm
          have := ty_ne hj hc
          cases this
        have o5 := (hne46 _ _ o4).trans o4
        have x5 := (hne46 _ _ x4).trans x4
        have hC := cx4.addComb hal hgr ho
        have hR := (rk4.then hal).grow hgr hbl (own_ty hown4 (by decide))
        have ek : kidsC (acc ++ [s0 :: p0], kk ++ [k]) = kidsC (acc ++ [s0 :: p0], kk) := rfl
        have ek2 : kidsC (acc ++ [s0 :: p0], kk) = kidsC (acc, kk) ++ kidsOf (s0 :: p0) := by simp [kidsC]
        refine ⟨⟨by rw [set_at 1 _ _ o5]; rfl, (heap_ne (by omega)).trans x5, hC.set _ o5 (by decide), ?_, ?_, fun u hu => HGO.out.mem u (HLT.out.2.2.2 u (HCB.out.2 u hu)), ?_, fun p hp => ?_, ?_, ?_⟩, o5⟩
        · rw [ek]
          exact hR.else hbl _ (by omega) o5 (by decide)
        · rw [HGO.out.eq, HZS.out]
          simp only [hk0, if_false]
          cases cxZ r2 with
          | none => rfl
          | some x =>
            obtain ⟨⟨ps, js⟩, r'⟩ := x
            simp
        · rw [ek, ek2, List.append_assoc]
          exact ((List.Sublist.refl _).append (((List.Sublist.refl _).append HCS.out).trans HSB.out)).trans HGO.out.sub
        · rcases List.mem_append.1 hp with hp | hp
          · exact HGO.out.ne p hp
          · rw [List.mem_singleton.1 hp]
            simp
        · have h1 := HGO.out.la
          have h2 := HCB.out.1
          have h3 := HHL.out
          simp only [List.length_append, List.length_singleton] at h2 ⊢
          omega
        · have := HGO.out.lk
          simp only [List.length_append, List.length_singleton]
          omega
      have HLT2 : Hid (r2.length < us.length) := Nat.lt_of_le_of_lt HCB.out.1 HHL.out
      have HOS4 : Hid (∀ u ∈ [Value.int .i64 k], u.oneCell' = true) := by
        intro u hu
        rw [List.mem_singleton.1 hu]
        rfl
      have HON4 : Hid (∀ j u, [Value.int .i64 k][j]? = some u → (w4.alloc (.cells #[.int .i64 k] 3)).cell? (Addr.add ⟨w4.heap.size, 0, none⟩ j) = some u) := one_news
      have hszB : W.heap.size ≤ (w4.alloc (.cells #[.int .i64 k] 3)).heap.size := by simp; omega
      clear x4 o4 cx4 rk4 HGO HZS HLT HSB HCB HCS hk0 HHL
      go_wp2_with (at_builtin; with_reducible refine wpList_append_own _ rfl _ _ 36 rfl W.heap.size 3 j0 y0 1 8 Tryz.underlying36 hj hy0 hy1 hy2 hy3 (by decide) (.slice ca cn cc) kk.length (kk.map (Value.int .i64)) rfl hown4 ⟨w4.heap.size, 0, none⟩ 1 1 [.int .i64 k] rfl rfl HON4.out HOS4.out ?c1 ?c2 ?c3 ?_)
      case c1 => unfold maxLen; omega
      case c2 => omega
      case c3 => exact hszB
      intro v5 w5 ho5 hgr5 _
      obtain ⟨hgo, o5⟩ := HNX.out w5 v5 hgr5 ho5
      obtain ⟨ea, en, ec, rfl⟩ := own_sl ho5
      obtain ⟨m0, m1, n0, n1⟩ := cells2 o5
      have HGN := hid_mk hgo
      clear HNX hown4 ho5 hgr5 hgo o5 d0 d1 g0 g1
      go_wp2
      go_roundg us.length
      case measure => exact HLK.out
      case rel => exact ⟨_, _, _, _, _, _, HLT2.out, HGN⟩
end Go.Proofs.YtdibldcnklgcjaaGreatDoor.L
