/- The law CascadeWins: the walk. -/
import Derived.Test.YtmpppijgjbfolaaCTw
import Derived.Test.YtmpppijgjbfolaaCRw
import Derived.Test.YtmpppijgjbfolaaCWs
namespace Go.Proofs.Ytmpppijgjbfolaa.C
open Go.RowKit Go.Maps
set_option maxRecDepth 100000

theorem plain_m {w : World} {a : Option Addr} {n c : Nat} {l : List E8} (h : EsN w a n c l) (hL : n ≤ 900000) : Calls Try.prog 15 #[.slice a n c] w fun e w' => ∃ a1 c1, e = .returned (.slice a1 n c1) ∧ Hid (EsN w' a1 n c1 l) ∧ Below w.heap.size w w' := by
  obtain ⟨rfl, h⟩ := h
  refine (plain_any h (by omega)).mono ?_
  rintro e w' ⟨⟨v, rfl, hE⟩, hB⟩
  obtain ⟨a1, c1, rfl, hA⟩ := hE.es
  exact ⟨a1, c1, rfl, ⟨rfl, hA⟩, hB⟩
theorem winners_n {w : World} {a : Option Addr} {n c k : Nat} {l R : List E8} (h : EsN w a n c l) (hL : n ≤ 900000) (hs : ∀ e ∈ l, e.n.size ≤ maxLen) (hR : R = (namesO l).map (winK l)) (hk : k = R.length) : Calls Try.prog 20 #[.slice a n c] w fun e w' => ∃ a1 c1, e = .returned (.slice a1 k c1) ∧ Hid (EsN w' a1 k c1 R) ∧ Below w.heap.size w w' := by
  obtain ⟨rfl, h⟩ := h
  refine (winners_any h (by omega) hs).mono ?_
  rintro e w' ⟨v, rfl, hE, hB⟩
  obtain ⟨a1, c1, rfl, hA⟩ := hE.es
  subst hk hR
  exact ⟨a1, c1, rfl, ⟨rfl, hA⟩, hB⟩
theorem rwinners_n {w : World} {a : Option Addr} {n c k : Nat} {l R : List E8} (h : EsN w a n c l) (hL : n ≤ 900000) (hR : R = (namesO l).map (winK l)) (hk : k = R.length) : Calls Try.prog 21 #[.slice a n c] w fun e w' => ∃ a1 c1, e = .returned (.slice a1 k c1) ∧ Hid (EsN w' a1 k c1 R) ∧ Below w.heap.size w w' := by
  obtain ⟨rfl, h⟩ := h
  refine (rwinners_any h (by omega)).mono ?_
  rintro e w' ⟨⟨v, rfl, hE⟩, hB⟩
  obtain ⟨a1, c1, rfl, hA⟩ := hE.es
  subst hk hR
  exact ⟨a1, c1, rfl, ⟨rfl, hA⟩, hB⟩
theorem fall_n {f es : List E8} (h : Fall (tagF f 0) es) : es.length = f.length := by rw [h.len, tagF_len]
theorem chain_n {w : World} {a : Option Addr} {n c q : Nat} {l f : List E8} (h : EsN w a n c l) (hL : n ≤ 900000) (name : ByteArray) (hf : f = l.filter (nmd name)) (hq : q = f.length) : Calls Try.prog 22 #[.slice a n c, .string name] w fun e w' => ∃ a1 c1 es, e = .returned (.slice a1 q c1) ∧ Hid (Fall (tagF f 0) es ∧ EsN w' a1 q c1 es) ∧ Below w.heap.size w w' := by
  obtain ⟨rfl, h⟩ := h
  refine (chain_any h (by omega) name).mono ?_
  rintro e w' ⟨v, es, rfl, hE, hF, hB⟩
  obtain ⟨a1, c1, rfl, hA⟩ := hE.es
  have h1 := fall_n hF
  subst hq hf
  rw [h1]
  exact ⟨a1, c1, es, rfl, ⟨hF, h1, hA⟩, hB⟩
theorem rchain_n {w : World} {a : Option Addr} {n c q : Nat} {l f : List E8} (h : EsN w a n c l) (hL : n ≤ 900000) (name : ByteArray) (hf : f = l.filter (nmd name)) (hq : q = f.length) : Calls Try.prog 23 #[.slice a n c, .string name] w fun e w' => ∃ a1 c1 es, e = .returned (.slice a1 q c1) ∧ Hid (Fall (tagF f 0) es ∧ EsN w' a1 q c1 es) ∧ Below w.heap.size w w' := by
  obtain ⟨rfl, h⟩ := h
  refine (rchain_any h (by omega) name).mono ?_
  rintro e w' ⟨⟨v, es, rfl, hE, hF⟩, hB⟩
  obtain ⟨a1, c1, rfl, hA⟩ := hE.es
  have h1 := fall_n hF
  subst hq hf
  rw [h1]
  exact ⟨a1, c1, es, rfl, ⟨hF, h1, hA⟩, hB⟩
theorem rwinner_at {W : World} {a : Option Addr} {c n : Nat} {l : List E8} (h : EsN W a n c l) (hL : n ≤ 900000) (name : ByteArray) {z : E8} {b : Bool} (hz : (winF (l.filter (nmd name)) none).getD zE = z) (hb : (winF (l.filter (nmd name)) none).isSome = b) : Calls Try.prog 19 #[.slice a n c, .string name] W fun e w' => e = .returned (.tuple #[z.val, .bool b]) ∧ Below W.heap.size W w' := by
  obtain ⟨rfl, h⟩ := h
  subst hz hb
  exact rwinner_any h hL name
theorem winner_at {W : World} {a : Option Addr} {c n : Nat} {l : List E8} (h : EsN W a n c l) (hL : n ≤ 900000) (name : ByteArray) {z : E8} {b : Bool} (hz : (winF (l.filter (nmd name)) none).getD zE = z) (hb : (winF (l.filter (nmd name)) none).isSome = b) : Calls Try.prog 18 #[.slice a n c, .string name] W fun e w' => e = .returned (.tuple #[z.val, .bool b]) ∧ Below W.heap.size W w' := by
  obtain ⟨rfl, h⟩ := h
  subst hz hb
  exact winner_any h hL name
theorem keep2_of {v2 v3 v4 : World} {a : Option Addr} {n c : Nat} {m : List E8} (h : Hid (EsN v2 a n c m)) (j3 : Hid (Below v2.heap.size v2 v3)) (j4 : Hid (Below v3.heap.size v3 v4)) : Hid (EsN v4 a n c m) := (h.out.keep j3.out).keep j4.out
theorem keep7_of {p q : Prop} {v7 v8 v9 : World} {a : Option Addr} {n c : Nat} {m : List E8} (h : Hid (p ∧ q)) (h6 : Hid (EsN v7 a n c m)) (j7 : Hid (Below v7.heap.size v7 v8)) (j8 : Hid (Below v8.heap.size v8 v9)) : Hid (p ∧ EsN v9 a n c m) := ⟨h.out.1, (h6.out.keep j7.out).keep j8.out⟩

set_option maxHeartbeats 8000000 in
theorem wins_walk {w : World} {a : Option Addr} {c : Nat} {l : List E8} (h : EsAt w a c l) (hz : ∀ z ∈ l, Szd z) (name : ByteArray) : Calls Try.prog 4 #[.slice a l.length c, .string name] w fun e w' => e = .returned (.bool true) ∧ Below w.heap.size w w' := by
  have hlt := light_any h hz
  have HLV : Hid (∀ W, Below w.heap.size w W → Calls Try.prog 9 #[] W fun e w' => e = .returned (.bool true) ∧ Below w.heap.size w w') := fun W hW => (lives_any W).mono fun _ _ k => ⟨k.1, hW.trans (k.2.mono hW.size)⟩
  have HS : Hid (∀ e ∈ l, e.n.size ≤ maxLen) := fun e he => by
    have := (hz e he).1
    unfold maxLen
    omega
  obtain ⟨n, hn⟩ : ∃ n, n = l.length := ⟨_, rfl⟩
  have HH : Hid (EsN w a n c l) := ⟨hn.symm, h⟩
  rw [← hn] at hlt ⊢
  clear h hz hn
  go_enter Try.func4, Try.ntmps4
  go_wp2_with (go_at_call 8; fail)
  refine hlt.mono ?_
  rintro e w2 ⟨⟨b, rfl, hb⟩, hB2⟩
  have HB2 := hid_mk hB2
  clear hlt hB2
  cases b
  · clear hb
    have hlv := HLV.out w2 HB2.out
    go_wp2_with (go_at_call 9; fail)
    refine hlv.mono ?_
    rintro e w3 ⟨rfl, hB3⟩
    have HB3 := hid_mk hB3
    clear hlv hB3
    go_wp2
    go_ret
    exact ⟨rfl, HB3.out⟩
  have hn100 : n ≤ 100 := hb rfl
  clear hb
  by_cases hnm : (1000 : Int) < (name.size : Int)
  · have hd : decide ((1000 : Int) < (name.size : Int)) = true := decide_eq_true hnm
    have hlv := HLV.out w2 HB2.out
    clear hnm
    go_wp2_with (go_at_call 9; fail)
    refine hlv.mono ?_
    rintro e w3 ⟨rfl, hB3⟩
    have HB3 := hid_mk hB3
    clear hlv hB3
    go_wp2
    go_ret
    exact ⟨rfl, HB3.out⟩
  have hd : decide ((1000 : Int) < (name.size : Int)) = false := decide_eq_false hnm
  clear hnm
  obtain ⟨zp, hzp⟩ : ∃ z, (winF (l.filter (nmd name)) none).getD zE = z := ⟨_, rfl⟩
  obtain ⟨bp, hbp⟩ : ∃ b, (winF (l.filter (nmd name)) none).isSome = b := ⟨_, rfl⟩
  have hn9 : n ≤ 900000 := by omega
  have hc1 := winner_at (HH.out.keep HB2.out) hn9 name hzp hbp
  have HC2 : Hid (∀ W a c, Hid (EsN W a n c l) → Calls Try.prog 19 #[.slice a n c, .string name] W fun e w' => e = .returned (.tuple #[zp.val, .bool bp]) ∧ Below W.heap.size W w') := fun W a c hm => rwinner_at hm.out hn9 name hzp hbp
  have HN9 := hid_mk hn9
  clear hzp hbp hn9
  obtain ⟨pn, pv, po, pi, qa, qb, pc, pk⟩ := zp
  unfold E8.val at hc1 HC2
  dsimp only at hc1 HC2
  go_wp2_with (go_at_call 18; fail)
  refine hc1.mono ?_
  rintro e w4 ⟨rfl, hB4⟩
  obtain ⟨w5, hw5⟩ : ∃ w5, w5 = w4.alloc (.cells #[.string pn, .string pv, .int .i64 po, .bool pi, .int .i64 qa, .int .i64 qb, .int .i64 pc, .int .i64 pk] 26) := ⟨_, rfl⟩
  have HX4 : Hid (Below w.heap.size w w5) := by
    rw [hw5]
    have := HB2.out.trans (hB4.mono HB2.out.size)
    exact this.alloc this.size _
  have HP4 : Hid (BoxE w5 w4.heap.size 26 ⟨pn, pv, po, pi, qa, qb, pc, pk⟩) := by rw [hw5]; exact alloc_box w4 26 ⟨pn, pv, po, pi, qa, qb, pc, pk⟩
  have HW5 := hid_mk hw5
  clear hc1 hw5 hB4
  go_upto_region 4 with (fail)
  rw [← HW5.out]
  obtain ⟨pa, hpa⟩ : ∃ pa, pa = w4.heap.size := ⟨_, rfl⟩
  rw [← hpa] at HP4 ⊢
  clear hpa HW5
  have hp1 := plain_m (HH.out.keep HX4.out) HN9.out
  go_wp2_with (go_at_call 15; fail)
  refine hp1.mono ?_
  rintro e w6 ⟨a6, c6, rfl, h6, hB6⟩
  have hc2 := HC2.out w6 a6 c6 h6
  have HB6 := hid_mk hB6
  clear hp1 hB6
  go_wp2_with (go_at_call 19; fail)
  refine hc2.mono ?_
  rintro e w7 ⟨rfl, hB7⟩
  obtain ⟨w8, hw8⟩ : ∃ w8, w8 = w7.alloc (.cells #[.string pn, .string pv, .int .i64 po, .bool pi, .int .i64 qa, .int .i64 qb, .int .i64 pc, .int .i64 pk] 29) := ⟨_, rfl⟩
  have hB57 : Below w5.heap.size w5 w7 := HB6.out.trans (hB7.mono HB6.out.size)
  have hB58 : Below w5.heap.size w5 w8 := by rw [hw8]; exact hB57.alloc hB57.size _
  have HX8 : Hid (Below w.heap.size w w8) := HX4.out.trans (hB58.mono HX4.out.size)
  have HP8 : Hid (BoxE w8 pa 26 ⟨pn, pv, po, pi, qa, qb, pc, pk⟩) := HP4.out.keep hB58
  have HQ8 : Hid (BoxE w8 w7.heap.size 29 ⟨pn, pv, po, pi, qa, qb, pc, pk⟩) := by rw [hw8]; exact alloc_box w7 29 ⟨pn, pv, po, pi, qa, qb, pc, pk⟩
  have HW8 := hid_mk hw8
  clear hc2 HC2 hw8 hB57 hB58 hB7 HB6 HP4 HX4
  go_upto_region 5 with (fail)
  rw [← HW8.out]
  obtain ⟨pb, hpb⟩ : ∃ pb, pb = w7.heap.size := ⟨_, rfl⟩
  rw [← hpb] at HQ8 ⊢
  clear hpb HW8
  obtain ⟨R, hR⟩ : ∃ R, R = (namesO l).map (winK l) := ⟨_, rfl⟩
  obtain ⟨k, hk⟩ : ∃ k, k = R.length := ⟨_, rfl⟩
  obtain ⟨f, hf⟩ : ∃ f, f = l.filter (nmd name) := ⟨_, rfl⟩
  obtain ⟨q, hq⟩ : ∃ q, q = f.length := ⟨_, rfl⟩
  have hk9 : k ≤ 900000 := by
    have h1 := names_len l
    have h2 : l.length = n := HH.out.1
    rw [hk, hR, List.length_map]
    omega
  have hq9 : q ≤ 900000 := by
    have h1 := List.length_filter_le (nmd name) l
    have h2 : l.length = n := HH.out.1
    rw [hq, hf]
    omega
  have HL : Hid (∀ W, Below w8.heap.size w8 W → Hid (EsN W a n c l)) := fun W hW => HH.out.keep (HX8.out.trans (hW.mono HX8.out.size))
  have H20 : Hid (∀ W, Below w8.heap.size w8 W → Calls Try.prog 20 #[.slice a n c] W fun e w' => ∃ a1 c1, e = .returned (.slice a1 k c1) ∧ Hid (EsN w' a1 k c1 R) ∧ Below w8.heap.size w8 w') := fun W hW => (winners_n (HL.out W hW).out HN9.out HS.out hR hk).mono fun _ _ j => by
    obtain ⟨a1, c1, k1, k2, k3⟩ := j
    exact ⟨a1, c1, k1, k2, hW.trans (k3.mono hW.size)⟩
  have H15k : Hid (∀ W a c m n, n ≤ 900000 → Hid (EsN W a n c m) → Below w8.heap.size w8 W → Calls Try.prog 15 #[.slice a n c] W fun e w' => ∃ a1 c1, e = .returned (.slice a1 n c1) ∧ Hid (EsN w' a1 n c1 m) ∧ Hid (Below W.heap.size W w') ∧ Below w8.heap.size w8 w') := fun W a c m n hn hm hW => (plain_m hm.out hn).mono fun _ _ j => by
    obtain ⟨a1, c1, k1, k2, k3⟩ := j
    exact ⟨a1, c1, k1, k2, k3, hW.trans (k3.mono hW.size)⟩
  have H21 : Hid (∀ W a c, Hid (EsN W a n c l) → Below w8.heap.size w8 W → Calls Try.prog 21 #[.slice a n c] W fun e w' => ∃ a1 c1, e = .returned (.slice a1 k c1) ∧ Hid (EsN w' a1 k c1 R) ∧ Hid (Below W.heap.size W w') ∧ Below w8.heap.size w8 w') := fun W a c hm hW => (rwinners_n hm.out HN9.out hR hk).mono fun _ _ j => by
    obtain ⟨a1, c1, k1, k2, k3⟩ := j
    exact ⟨a1, c1, k1, k2, k3, hW.trans (k3.mono hW.size)⟩
  have H14 : Hid (∀ W a c a' c', Hid (EsN W a k c R) → Hid (EsN W a' k c' R) → Below w8.heap.size w8 W → Calls Try.prog 14 #[.slice a k c, .slice a' k c'] W fun e w' => e = .returned (.bool true) ∧ Below w8.heap.size w8 w') := fun W a c a' c' h1 h2 hW => (rsame_n h1.out h2.out).mono fun _ _ j => ⟨j.1, hW.trans (j.2.mono hW.size)⟩
  have H22 : Hid (∀ W, Below w8.heap.size w8 W → Calls Try.prog 22 #[.slice a n c, .string name] W fun e w' => ∃ a1 c1 es, e = .returned (.slice a1 q c1) ∧ Hid (Fall (tagF f 0) es ∧ EsN w' a1 q c1 es) ∧ Below w8.heap.size w8 w') := fun W hW => (chain_n (HL.out W hW).out HN9.out name hf hq).mono fun _ _ j => by
    obtain ⟨a1, c1, es, k1, k2, k3⟩ := j
    exact ⟨a1, c1, es, k1, k2, hW.trans (k3.mono hW.size)⟩
  have H23 : Hid (∀ W a c, Hid (EsN W a n c l) → Below w8.heap.size w8 W → Calls Try.prog 23 #[.slice a n c, .string name] W fun e w' => ∃ a1 c1 es, e = .returned (.slice a1 q c1) ∧ Hid (Fall (tagF f 0) es ∧ EsN w' a1 q c1 es) ∧ Hid (Below W.heap.size W w') ∧ Below w8.heap.size w8 w') := fun W a c hm hW => (rchain_n hm.out HN9.out name hf hq).mono fun _ _ j => by
    obtain ⟨a1, c1, es, k1, k2, k3⟩ := j
    exact ⟨a1, c1, es, k1, k2, k3, hW.trans (k3.mono hW.size)⟩
  have H14c : Hid (∀ W a c a' c' es s, Hid (Fall (tagF f 0) es ∧ EsN W a q c es) → Hid (Fall (tagF f 0) s ∧ EsN W a' q c' s) → Below w8.heap.size w8 W → Calls Try.prog 14 #[.slice a q c, .slice a' q c'] W fun e w' => e = .returned (.bool true) ∧ Below w8.heap.size w8 w') := fun W a c a' c' es s h1 h2 hW => by
    have he : es = s := Fall.same h1.out.1 h2.out.1
    have h3 := h1.out.2
    rw [he] at h3
    exact (rsame_n h3 h2.out.2).mono fun _ _ k => ⟨k.1, hW.trans (k.2.mono hW.size)⟩
  have H9 : Hid (∀ W, Below w8.heap.size w8 W → Calls Try.prog 9 #[] W fun e w' => e = .returned (.bool true) ∧ Below w8.heap.size w8 w') := fun W hW => (lives_any W).mono fun _ _ k => ⟨k.1, hW.trans (k.2.mono hW.size)⟩
  have HSS : Hid (∀ W, Below w8.heap.size w8 W → (W.cell? ⟨pa, 0, none⟩ = some (.string pn) ∧ W.cell? ⟨pa, 1, none⟩ = some (.string pv) ∧ W.cell? ⟨pa, 2, none⟩ = some (.int .i64 po) ∧ W.cell? ⟨pa, 3, none⟩ = some (.bool pi) ∧ W.cell? ⟨pa, 4, none⟩ = some (.int .i64 qa) ∧ W.cell? ⟨pa, 5, none⟩ = some (.int .i64 qb) ∧ W.cell? ⟨pa, 6, none⟩ = some (.int .i64 pc) ∧ W.cell? ⟨pa, 7, none⟩ = some (.int .i64 pk)) ∧ (W.cell? ⟨pb, 0, none⟩ = some (.string pn) ∧ W.cell? ⟨pb, 1, none⟩ = some (.string pv) ∧ W.cell? ⟨pb, 2, none⟩ = some (.int .i64 po) ∧ W.cell? ⟨pb, 3, none⟩ = some (.bool pi) ∧ W.cell? ⟨pb, 4, none⟩ = some (.int .i64 qa) ∧ W.cell? ⟨pb, 5, none⟩ = some (.int .i64 qb) ∧ W.cell? ⟨pb, 6, none⟩ = some (.int .i64 pc) ∧ W.cell? ⟨pb, 7, none⟩ = some (.int .i64 pk))) := fun W hW => ⟨(HP8.out.keep hW).cells, (HQ8.out.keep hW).cells⟩
  have HBW : Hid (∀ W, Below w8.heap.size w8 W → Below w.heap.size w W) := fun W hW => HX8.out.trans (hW.mono HX8.out.size)
  have HK9 : Hid (k ≤ 900000) := hk9
  have HQ9 : Hid (q ≤ 900000) := hq9
  have gd : Below w8.heap.size w8 w8 := Below.refl _ _
  have ge : Below w8.heap.size w8 w8.drew := gd.drew
  clear hR hk hf hq hk9 hq9 hn100 hd HLV HS HH HB2 HX8 HP8 HQ8
  obtain ⟨⟨c0, c1, c2, c3, c4, c5, c6, c7⟩, ⟨d0, d1, d2, d3, d4, d5, d6, d7⟩⟩ := HSS.out w8 gd
  clear HSS
  go_wp2_with
    (first
      | (go_at_call 20; with_reducible refine (H20.out _ gd).mono ?_; rintro e v1 ⟨a1, c1, rfl, k1, g1⟩)
      | (go_at_call 15; with_reducible refine (H15k.out _ _ _ _ _ HK9.out k1 g1).mono ?_; rintro e v2 ⟨a2, c2, rfl, k2, j2, g2⟩; have k2b := HL.out _ g2)
      | (go_at_call 15; with_reducible refine (H15k.out _ _ _ _ _ HN9.out k2b g2).mono ?_; rintro e v3 ⟨a3, c3, rfl, k3, j3, g3⟩)
      | (go_at_call 21; with_reducible refine (H21.out _ _ _ k3 g3).mono ?_; rintro e v4 ⟨a4, c4, rfl, k4, j4, g4⟩; have k5 := keep2_of k2 j3 j4)
      | (go_at_call 14; with_reducible refine (H14.out _ _ _ _ _ k5 k4 g4).mono ?_; rintro e v5 ⟨rfl, g5⟩)
      | (go_at_call 22; with_reducible refine (H22.out _ g5).mono ?_; rintro e v6 ⟨a6, c6, es, rfl, k6, g6⟩; have k6b := k5b_of k6)
      | (go_at_call 15; with_reducible refine (H15k.out _ _ _ _ _ HQ9.out k6b g6).mono ?_; rintro e v7 ⟨a7, c7, rfl, k7, j7, g7⟩; have k7b := HL.out _ g7)
      | (go_at_call 15; with_reducible refine (H15k.out _ _ _ _ _ HN9.out k7b g7).mono ?_; rintro e v8 ⟨a8, c8, rfl, k8, j8, g8⟩)
      | (go_at_call 23; with_reducible refine (H23.out _ _ _ k8 g8).mono ?_; rintro e v9 ⟨a9, c9, s9, rfl, k9, j9, g9⟩; have k9b := keep7_of k6 k7 j8 j9)
      | (go_at_call 14; with_reducible refine (H14c.out _ _ _ _ _ _ _ k9b k9 g9).mono ?_; rintro e vx ⟨rfl, gx⟩)
      | (go_at_call 9; with_reducible refine (H9.out _ gx).mono ?_; rintro e vy ⟨rfl, gy⟩))
  have HE := hid_mk (HBW.out _ gy)
  clear gd ge g1 g2 g3 g4 g5 g6 g7 g8 g9 gx gy
  go_wp2
  go_ret
  exact ⟨rfl, HE.out⟩
end Go.Proofs.Ytmpppijgjbfolaa.C
