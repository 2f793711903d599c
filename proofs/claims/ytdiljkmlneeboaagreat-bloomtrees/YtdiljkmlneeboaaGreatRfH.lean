/- The document's Move: the walk where nothing is wrong. The document's Move, by the elements' numbers. -/
import Derived.Test.YtdiljkmlneeboaaGreatRfF
import Derived.Deep.RegionLaw
import Derived.Test.YtdiljkmlneeboaaGreatMovN
namespace Go.Proofs.YtdiljkmlneeboaaGreat.N
open Go.RowKit
set_option maxRecDepth 100000

/-- A tree of one's own, laid open at an element. -/
theorem ROwn.at {B b : Nat} {w : World} {L : List El} {nx : Int} (h : ROwn B w b L nx) {t : Nat} (ht : t < L.length) : ∃ (ab vc : Nat) (s : N5), B ≤ b ∧ b < w.heap.size ∧ B ≤ ab ∧ ab < w.heap.size ∧ b ≠ ab ∧ L.length ≤ vc ∧ vc ≤ 9223372036854775807 ∧ w.heap[b]? = some (.cells #[.slice (some ⟨ab, 0, none⟩) L.length vc, .int .i64 nx] 126 (0, 0)) ∧ LOwn B w b (.slice (some ⟨ab, 0, none⟩) L.length vc) L ∧ ElAt w s L[t] ∧
    (∀ W, Below w.heap.size w W → W.cell? ⟨b, 0, none⟩ = some (.slice (some ⟨ab, 0, none⟩) L.length vc)) ∧
    (∀ W, Below w.heap.size w W → W.cell? ⟨ab, t * 5 + 3, none⟩ = some (.slice s.ka s.kn s.kc) ∧ W.frozen? ⟨ab, t * 5 + 3, none⟩ = false) ∧
    ∀ W, Below w.heap.size w W → W.cell? ⟨ab, t * 5 + 2, none⟩ = some (.int .i64 s.par) ∧ W.frozen? ⟨ab, t * 5 + 2, none⟩ = false := by
  obtain ⟨hB, v, hd, hLO⟩ := h
  obtain ⟨va, vc, rfl, hls⟩ := hLO.ls
  obtain ⟨s, ab, ao, e1, hgl, hE, _, _, r2, r3, _⟩ := hls.at ht
  subst e1
  obtain ⟨ss, h1, _, _, _, hob⟩ := id hLO
  obtain ⟨rfl, hb4, cur, hcur⟩ : ao = 0 ∧ B ≤ ab ∧ ∃ cur, w.heap[ab]? = some (.cells cur 76 (0, 0)) := by
    rcases h1.2 with ⟨e, _⟩ | ⟨g, cap, cur, e, hge, hg, _⟩
    · cases e
    · cases e
      exact ⟨rfl, hge, cur, hg⟩
  rw [Nat.zero_add] at r2 r3
  have hdl : b < w.heap.size := (Array.getElem?_eq_some_iff.1 hd).1
  refine ⟨ab, vc, s, hB, hdl, hb4, hgl, fun e => hob (by rw [e]; rfl), hls.cap.1, hls.cap.2, hd, hLO, hE, fun W hW => ?_, fun W hW => ⟨(hW.cell (p := ⟨ab, t * 5 + 3, none⟩) hgl).trans r3, by simp [World.frozen?, (hW.block _ hgl).trans hcur]⟩, fun W hW => ⟨(hW.cell (p := ⟨ab, t * 5 + 2, none⟩) hgl).trans r2, by simp [World.frozen?, (hW.block _ hgl).trans hcur]⟩⟩
  have h7 := (hW.block _ hdl).trans hd
  simp [World.cell?, h7]
/-- Another list of Kids is stored. -/
theorem ROwn.kids {B b ab vc : Nat} {w W : World} {L : List El} {nx : Int} (hd : w.heap[b]? = some (.cells #[.slice (some ⟨ab, 0, none⟩) L.length vc, .int .i64 nx] 126 (0, 0))) (hB : B ≤ b) (hne : b ≠ ab) (hab : ab < w.heap.size) (hLO : LOwn B w b (.slice (some ⟨ab, 0, none⟩) L.length vc) L) {t : Nat} (ht : t < L.length) (hW : Below w.heap.size w W) {a : Option Addr} {n c : Nat} {ks : List Int} (hr : RowAt W 1 a n c (intsV ks)) (hn : NewAt w.heap.size a) : ROwn B (W.setCell ⟨ab, t * 5 + 3, none⟩ (.slice a n c)) b (L.set t { L[t] with ks := ks }) nx := by
  have hdl : b < w.heap.size := (Array.getElem?_eq_some_iff.1 hd).1
  have hk := (hLO.keep hW).kids ht (g := ab) rfl hr (fun x hx e => by have := hn x hx; omega) (fun x hx e => by have := hn x hx; omega)
  exact ⟨hB, _, (Below.heap_setCell W ⟨ab, t * 5 + 3, none⟩ _ b hne).trans ((hW.block _ hdl).trans hd), hk⟩
/-- Another Parent is stored. -/
theorem ROwn.par {B b ab vc : Nat} {w W : World} {L : List El} {nx : Int} (hd : w.heap[b]? = some (.cells #[.slice (some ⟨ab, 0, none⟩) L.length vc, .int .i64 nx] 126 (0, 0))) (hB : B ≤ b) (hne : b ≠ ab) (hLO : LOwn B w b (.slice (some ⟨ab, 0, none⟩) L.length vc) L) {t : Nat} (ht : t < L.length) (hW : Below w.heap.size w W) (q : Int) : ROwn B (W.setCell ⟨ab, t * 5 + 2, none⟩ (.int .i64 q)) b (L.set t { L[t] with par := q }) nx := by
  have hdl : b < w.heap.size := (Array.getElem?_eq_some_iff.1 hd).1
  have hk := (hLO.keep hW).parent ht (g := ab) rfl q
  exact ⟨hB, _, (Below.heap_setCell W ⟨ab, t * 5 + 2, none⟩ _ b hne).trans ((hW.block _ hdl).trans hd), hk⟩

set_option maxHeartbeats 8000000 in
theorem rmove_walk {w : World} {b : Nat} {L : List El} {m : M} {nx : Int} (h : RTree w (.pointer (some ⟨b, 0, none⟩)) L m nx) (id tg : Int) (j : Nat) {e1 e2 : El} (h1 : m id = some e1) (h2 : m tg = some e2) (hin : id ∉ ups m tg) (hpz : e1.par ≠ 0) (hj : j ≤ (rmv e2.ks id).length) (hno : ∀ t (ht : t < L.length), ¬ Over m id tg L[t].id)
    {tp tq ti : Nat} {L1 L2 L3 : List El} (t1 : tp < L.length) (a1 : atZ L e1.par = tp) (q1 : L1 = L.set tp { L[tp] with ks := rmv L[tp].ks id }) (t2 : tq < L1.length) (a2 : atZ L1 tg = tq) (q2 : L2 = L1.set tq { L1[tq] with ks := ins (rmv e2.ks id) j id }) (t3 : ti < L2.length) (a3 : atZ L2 id = ti) (q3 : L3 = L2.set ti { L2[ti] with par := tg }) :
    Calls Tryz.prog 66 #[.pointer (some ⟨b, 0, none⟩), .int .i64 id, .int .i64 tg, .int .i64 (j : Int)] w fun x w' => ∃ b', x = .returned (.tuple #[.pointer (some ⟨b', 0, none⟩), .int .i64 0]) ∧ RDoc w' (.pointer (some ⟨b', 0, none⟩)) L3 nx ∧ Below w.heap.size w w' := by
  have hlen := h.len
  have hnxb : nx ≤ 100000 := by obtain ⟨d, I⟩ := h.2.2.2; exact I.nxb.2
  have HCP : Hid (∀ w', Below w.heap.size w w' → _) := fun w' hw' => rcopy_any (h.keep hw') (by omega)
  have HKS : Hid (L[tp].ks.length ≤ 200000) := (h.small _ (List.getElem_mem t1)).1
  have HN2 : Hid (∀ w', Below w.heap.size w w' → _) := fun w' hw' => rt_node (h.keep hw') tg
  have hn1 := rt_node h id
  have hks : ((m tg).getD zeroEl).ks.length ≤ 200000 := by
    cases hm : m tg with
    | none => simp [zeroEl]
    | some q =>
      obtain ⟨_, _, _, d, I⟩ := h
      have h1 := I.ksLen hm
      have h2 := I.nxb
      show q.ks.length ≤ 200000
      omega
  rw [h1] at hn1
  rw [h2] at HN2 hks
  have hn1 : Calls Tryz.prog 33 #[.pointer (some ⟨b, 0, none⟩), .int .i64 id] w fun x w' => ∃ s : N5, x = .returned (.tuple #[.agg #[.int .i64 s.id, .string s.tag, .int .i64 s.par, .slice s.ka s.kn s.kc, .slice s.aa s.an s.ac], .bool true]) ∧ ElAt w' s e1 ∧ (NewAt w.heap.size s.ka ∧ NewAt w.heap.size s.aa) ∧ Below w.heap.size w w' := hn1
  have HN2 : Hid (∀ w', Below w.heap.size w w' → Calls Tryz.prog 33 #[.pointer (some ⟨b, 0, none⟩), .int .i64 tg] w' fun x w'' => ∃ s : N5, x = .returned (.tuple #[.agg #[.int .i64 s.id, .string s.tag, .int .i64 s.par, .slice s.ka s.kn s.kc, .slice s.aa s.an s.ac], .bool true]) ∧ ElAt w'' s e2 ∧ (NewAt w'.heap.size s.ka ∧ NewAt w'.heap.size s.aa) ∧ Below w'.heap.size w' w'') := HN2
  have hks : e2.ks.length ≤ 200000 := hks
  have HBL : Hid (∀ w' n, Below w.heap.size w w' → _) := fun w' n hw' => rbelow_any (h.keep hw') n id (by rw [h1]; simp)
  have HDP : Hid (∀ w' n, Below w.heap.size w w' → _) := fun w' n hw' => rdepth_any (h.keep hw') n
  obtain ⟨bb, a, n, c, e0, hbl, hL, rfl, hnc, hcm, hcell⟩ := h.1.cells
  cases e0
  have HCL : Hid (∀ W, Below w.heap.size w W → W.cell? ⟨b, 0, none⟩ = some (.slice a L.length c)) := fun W hW => (hcell W hW).1
  have HC : Hid (∀ w', Below w.heap.size w w' → ∀ i (hi : i < L.length), ∃ (s : N5) (ab ao : Nat), a = some ⟨ab, ao, none⟩ ∧ s.id = L[i].id ∧ w'.cell? ⟨ab, ao + i * 5, none⟩ = some (.int .i64 s.id) ∧ w'.cell? ⟨ab, ao + i * 5 + 1, none⟩ = some (.string s.tag) ∧ w'.cell? ⟨ab, ao + i * 5 + 2, none⟩ = some (.int .i64 s.par) ∧ w'.cell? ⟨ab, ao + i * 5 + 3, none⟩ = some (.slice s.ka s.kn s.kc) ∧ w'.cell? ⟨ab, ao + i * 5 + 4, none⟩ = some (.slice s.aa s.an s.ac)) := fun w' hw' i hi => by
    obtain ⟨s, ab, ao, e, _, hE, g0, g1, g2, g3, g4⟩ := (hL.keep hw').at hi
    exact ⟨s, ab, ao, e, hE.1, g0, g1, g2, g3, g4⟩
  obtain ⟨d, I⟩ := h.2.2.2
  have HUP : Hid (∀ n, (ups m n).length ≤ 512) := fun n => by
    cases e : m n with
    | none => rw [ups_none e]; simp
    | some q => rw [ups_len I e]; exact I.top e
  have HIN : Hid (decide (id ∈ ups m tg) = false) := by simpa [Hid] using hin
  have hp : (e1.par == 0) = false := by simpa using hpz
  have hrl : (rmv e2.ks id).length ≤ 200000 := Nat.le_trans (List.length_filter_le _ _) hks
  have HNO := hid_mk hno
  have HA1 := hid_mk a1
  have HA2 := hid_mk a2
  have HA3 := hid_mk a3
  have HQ1 := hid_mk q1
  have HQ2 := hid_mk q2
  have HQ3 := hid_mk q3
  have HT2 := hid_mk t2
  have HT3 := hid_mk t3
  have HL1 : Hid (L1.length = L.length) := by rw [Hid, q1, List.length_set]
  have HL2 : Hid (L2.length = L.length) := by rw [Hid, q2, List.length_set, q1, List.length_set]
  clear h h1 h2 hin hpz hno I hL hcell a1 a2 a3 q1 q2 q3
  go_enter Tryz.func66, Tryz.ntmps66
  go_wp2_with (go_at_call 33; fail)
  refine hn1.mono ?_
  rintro x w2 ⟨s, rfl, hE1, _, hB2⟩
  have hpar : s.par = e1.par := hE1.2.2.1
  obtain ⟨w3, hw3⟩ : ∃ w3, w3 = w2.alloc (.cells #[.int .i64 s.id, .string s.tag, .int .i64 s.par, .slice s.ka s.kn s.kc, .slice s.aa s.an s.ac] 76) := ⟨_, rfl⟩
  have HB3 : Hid (Below w.heap.size w w3) := by rw [hw3]; exact hB2.alloc hB2.size _
  have hN3 : NodeAt w3 w2.heap.size s := by rw [hw3]; exact heap_alloc_last w2 _
  obtain ⟨⟨_, _, n2, _, _⟩, _, _, _, _, _, hgl⟩ := hN3.cells
  rw [hpar] at n2
  have HP3 : Hid (∀ W, Below w3.heap.size w3 W → W.cell? ⟨w2.heap.size, 2, none⟩ = some (.int .i64 e1.par)) := fun W hW => (hW.cell (p := ⟨w2.heap.size, 2, none⟩) hgl).trans n2
  have HG3 : Hid (w2.heap.size < w3.heap.size) := hgl
  have HW3 := hid_mk hw3
  clear hn1 hE1 hB2 hw3 hN3 hpar hgl n2
  go_upto_region 2 with (fail)
  rw [← HW3.out]
  go_wp2_with (go_at_call 33; fail)
  refine (HN2.out _ HB3.out).mono ?_
  rintro x w4 ⟨s2, rfl, hE2, _, hB4⟩
  have hkn : s2.kn = e2.ks.length := hE2.kn
  obtain ⟨id2, tag2, par2, ka2, kn2, kc2, aa2, an2, ac2⟩ := s2
  dsimp only at *
  subst hkn
  obtain ⟨w5, hw5⟩ : ∃ w5, w5 = w4.alloc (.cells #[.int .i64 id2, .string tag2, .int .i64 par2, .slice ka2 e2.ks.length kc2, .slice aa2 an2 ac2] 76) := ⟨_, rfl⟩
  have hB45 : Below w4.heap.size w4 w5 := by rw [hw5]; exact (Below.refl _ _).alloc (Nat.le_refl _) _
  have hN5 : NodeAt w5 w4.heap.size ⟨id2, tag2, par2, ka2, e2.ks.length, kc2, aa2, an2, ac2⟩ := by rw [hw5]; exact heap_alloc_last w4 _
  obtain ⟨⟨_, _, _, k3, _⟩, _⟩ := hN5.cells
  dsimp only at k3
  have hwo := rwithout_any ((hE2.keep hB45).2.2.2.1) hks id
  have HB35 : Hid (Below w3.heap.size w3 w5) := hB4.trans (hB45.mono hB4.size)
  have HW5 := hid_mk hw5
  clear hE2 hB4 hw5 hN5 hB45 HN2
  go_upto_region 3 with (fail)
  rw [← HW5.out]
  go_upto_region 4 with (go_at_call 107; refine hwo.mono ?_; clear hwo; rintro e w6 ⟨a6, c6, rfl, hr6, _, hB6⟩; have HR6 := hid_mk hr6; have HB56 := hid_mk hB6; clear hr6 hB6)
  have HB36 : Hid (Below w3.heap.size w3 w6) := HB35.out.trans (HB56.out.mono HB35.out.size)
  have HB6 : Hid (Below w.heap.size w w6) := HB3.out.trans (HB36.out.mono HB3.out.size)
  have p6 := HP3.out w6 HB36.out
  clear k3 HB56 HB35
  have hbe := HBL.out w6 tg HB6.out
  rw [HIN.out] at hbe
  generalize hRL : (rmv e2.ks id).length = RL at *
  have HRL := hid_mk hRL
  clear hRL
  go_upto_region 8 with (go_at_call 106; refine hbe.mono ?_; clear hbe; rintro e w7 ⟨rfl, hB7⟩; have HB67 := hid_mk hB7; have HB7 := hid_mk (HB6.out.trans (hB7.mono HB6.out.size)); clear hB7)
  have y0 := HCL.out w7 HB7.out
  have h0 : (0 : Int) ≤ (j : Int) := by omega
  have h9 : (j : Int) ≤ (RL : Int) := by omega
  have hj0 : decide ((j : Int) < 0) = false := decide_eq_false (by omega)
  have hj1 : decide ((RL : Int) < (j : Int)) = false := decide_eq_false (by omega)
  have hj2 : decide (RL < j) = false := decide_eq_false (by omega)
  clear HIN
  have HRX : Hid (RowAt w7 1 a6 RL c6 (intsV (rmv e2.ks id))) := HR6.out.keep HB67.out
  have HP7 : Hid (∀ W, Below w7.heap.size w7 W → W.cell? ⟨w2.heap.size, 2, none⟩ = some (.int .i64 e1.par)) := fun W hW => HP3.out W (HB36.out.trans ((HB67.out.trans (hW.mono HB67.out.size)).mono HB36.out.size))
  have HG7 : Hid (w2.heap.size < w7.heap.size) := Nat.lt_of_lt_of_le HG3.out (Nat.le_trans HB36.out.size HB67.out.size)
  clear HP3 HG3 HR6 HB36 HB67 p6
  go_wp2
  go_loopw [68] (fun a68 wq => ∃ t : Nat, t ≤ L.length ∧ a68 = .int .i64 (t : Int) ∧ Hid (Below w7.heap.size w7 wq)) (fun a68 _ => L.length + 1 - (intOf a68).toNat)
  case atStart => exact ⟨0, Nat.zero_le _, rfl, hid_mk (Below.refl _ _)⟩
  case round =>
    obtain ⟨t, ht, rfl, HBq⟩ := hrel
    have HB : Hid (Below w.heap.size w wr) := HB7.out.trans (HBq.out.mono HB7.out.size)
    by_cases htl : t < L.length
    · have HOV : Hid (∀ t (h : t < L.length), ¬ (decide (id ∈ ups m L[t].id) = true ∧ (512 : Int) < (ups m tg).length + 1 + (ups m L[t].id).length - (ups m id).length)) := fun t h => by have := HNO.out t h; simpa [Over] using this
      clear HCP HKS HNO HA1 HA2 HA3 HQ1 HQ2 HQ3 HT2 HT3 HL1 HL2 HRX HP7 HG7 HCL
      obtain ⟨s1, ab, ao, rfl, hid, g0, g1, g2, g3, g4⟩ := HC.out wr HB.out t htl
      obtain ⟨w8, hw8⟩ : ∃ w8, w8 = wr.alloc (.cells #[.int .i64 s1.id, .string s1.tag, .int .i64 s1.par, .slice s1.ka s1.kn s1.kc, .slice s1.aa s1.an s1.ac] 76) := ⟨_, rfl⟩
      have hB8 : Below wr.heap.size wr w8 := by rw [hw8]; exact (Below.refl _ _).alloc (Nat.le_refl _) _
      have hN8 : NodeAt w8 wr.heap.size s1 := by rw [hw8]; exact heap_alloc_last wr _
      obtain ⟨⟨n0, _, _, _, _⟩, _, _, _, _, _, hgl⟩ := hN8.cells
      rw [hid] at n0
      have HB8 : Hid (Below w.heap.size w w8) := HB.out.trans (hB8.mono HB.out.size)
      have HF : Hid (∀ W, Below w8.heap.size w8 W → W.cell? ⟨wr.heap.size, 0, none⟩ = some (.int .i64 L[t].id)) := fun W hW => (hW.cell (p := ⟨wr.heap.size, 0, none⟩) hgl).trans n0
      have hov := HOV.out t htl
      have HB1 : Hid (∀ W, Below w8.heap.size w8 W → Calls Tryz.prog 106 #[.pointer (some ⟨b, 0, none⟩), .int .i64 L[t].id, .int .i64 id] W fun x w' => x = .returned (.bool (decide (id ∈ ups m L[t].id))) ∧ Below w8.heap.size w8 w') := fun W hW => by
        refine (HBL.out W L[t].id (HB8.out.trans (hW.mono HB8.out.size))).mono ?_
        rintro x w' ⟨rfl, hB⟩
        exact ⟨rfl, hW.trans (hB.mono hW.size)⟩
      have HDX : Hid (∀ n W, Below w8.heap.size w8 W → Calls Tryz.prog 103 #[.pointer (some ⟨b, 0, none⟩), .int .i64 n] W fun x w' => x = .returned (.int .i64 (ups m n).length) ∧ Below w8.heap.size w8 w') := fun n W hW => by
        refine (HDP.out W n (HB8.out.trans (hW.mono HB8.out.size))).mono ?_
        rintro x w' ⟨rfl, hB⟩
        exact ⟨rfl, hW.trans (hB.mono hW.size)⟩
      have HD1 := hid_mk (HDX.out tg)
      have HD2 := hid_mk (HDX.out L[t].id)
      have HD3 := hid_mk (HDX.out id)
      have u1 := HUP.out tg
      have u2 := HUP.out L[t].id
      have u3 := HUP.out id
      have HW8 := hid_mk hw8
      generalize L[t] = el at *
      clear hB8 hN8 hw8 hid HDX HC hgl HBL HDP HUP HB HOV n0
      go_upto_region 13 with (fail)
      rw [← HW8.out]
      clear g0 g1 g2 g3 g4
      generalize (ups m tg).length = U at *
      generalize (ups m el.id).length = V at *
      generalize (ups m id).length = X at *
      have n0 := HF.out w8 (Below.refl _ _)
      have hw1 : IntKind.i64.wrap ((U : Int) + 1) = (U : Int) + 1 := by rw [IntKind.wrap_i64]; omega
      have hw2 : IntKind.i64.wrap ((U : Int) + 1 + (V : Int)) = (U : Int) + 1 + (V : Int) := by rw [IntKind.wrap_i64]; omega
      have hw3 : IntKind.i64.wrap ((U : Int) + 1 + (V : Int) - (X : Int)) = (U : Int) + 1 + (V : Int) - (X : Int) := by rw [IntKind.wrap_i64]; omega
      generalize hbb : decide (id ∈ ups m el.id) = bo at *
      clear hbb
      have HBx : Hid (Below w7.heap.size w7 w8) := by rw [Hid, HW8.out]; exact HBq.out.alloc HBq.out.size _
      cases bo with
      | false =>
        clear hov HD1 HD2 HD3
        have gd : Below w8.heap.size w8 w8.drew := (Below.refl _ _).drew
        refine wp_region_held_drew (S := fun w' => w'.cell? ⟨wr.heap.size, 0, none⟩ = some (.int .i64 el.id)) (by kernel_rfl) (HF.out _ gd) (fun hHeld => ?_)
        refine wpAnyH_take (i := 0) (oi := { dst := some 72, op := Op.move (Operand.tmp 0), type := 26, pos := "ref.go:196", after := #[], guard := none }) (v := ?_) rfl (by kernel_rfl) (by kernel_rfl) (by kernel_rfl) (fun _ _ _ h => h) (Or.inl ⟨by rfl, ?_⟩) (by assumption) ?_
        rotate_left
        · intro w hSw
          try dsimp only at hSw
          go_simp
          try with_reducible rfl
        try simp only [Act.put, List.setIfInBounds_toArray, List.set_cons_zero, List.set_cons_succ]
        refine wpAnyH_take (i := 1) (oi := { dst := some 73, op := Op.fieldAddr 76 (Operand.tmp 16) 0, type := 0, pos := "ref.go:196", after := #[], guard := none }) (v := ?_) rfl (by kernel_rfl) (by kernel_rfl) (by kernel_rfl) (fun _ _ _ h => h) (Or.inl ⟨by rfl, ?_⟩) (by assumption) ?_
        rotate_left
        · intro w hSw
          try dsimp only at hSw
          go_simp
          try with_reducible rfl
        try simp only [Act.put, List.setIfInBounds_toArray, List.set_cons_zero, List.set_cons_succ]
        refine wpAnyH_take (i := 2) (oi := { dst := some 74, op := Op.load 3 (Operand.tmp 73), type := 3, pos := "ref.go:196", after := #[{ on := 1, ground := Ground.data }], guard := none }) (v := ?_) rfl (by kernel_rfl) (by kernel_rfl) (by kernel_rfl) (fun _ _ _ h => h) (Or.inl ⟨by rfl, ?_⟩) (by assumption) ?_
        rotate_left
        · intro w hSw
          try dsimp only at hSw
          go_simp
          try with_reducible rfl
        try simp only [Act.put, List.setIfInBounds_toArray, List.set_cons_zero, List.set_cons_succ]
        refine wpAnyH_take (i := 3) (oi := { dst := some 75, op := Op.move (Operand.tmp 1), type := 3, pos := "ref.go:196", after := #[], guard := none }) (v := ?_) rfl (by kernel_rfl) (by kernel_rfl) (by kernel_rfl) (fun _ _ _ h => h) (Or.inl ⟨by rfl, ?_⟩) (by assumption) ?_
        rotate_left
        · intro w hSw
          try dsimp only at hSw
          go_simp
          try with_reducible rfl
        try simp only [Act.put, List.setIfInBounds_toArray, List.set_cons_zero, List.set_cons_succ]
        refine wpAnyH_ready (rs := [4]) (by kernel_rfl) (by simp) ?_
        refine AllReadyH.cons (o := { dst := some 76, op := Op.call { callee := Callee.value (Operand.func 106), args := #[Operand.tmp 72, Operand.tmp 74, Operand.tmp 75], argTypes := #[26, 3, 3] }, type := 4, pos := "ref.go:196", after := #[{ on := 0, ground := Ground.data }, { on := 2, ground := Ground.data }, { on := 3, ground := Ground.data }], guard := none }) rfl (fun K hK => ?_) AllReadyH.nil
        go_simp
        go_at_call 106
        refine (HB1.out _ gd).mono ?_
        rintro e wa ⟨rfl, ga⟩
        refine hK.out _ _ (HF.out _ ga) (fun hHeld => ?_)
        clear hK
        try simp only [Act.put, List.setIfInBounds_toArray, List.set_cons_zero, List.set_cons_succ]
        refine wpAnyH_take (i := 5) (oi := { dst := some 77, op := Op.move (Operand.tmp 76), type := 4, pos := "ref.go:196", after := #[{ on := 4, ground := Ground.data }, { on := 4, ground := Ground.chain }], guard := none }) (v := ?_) rfl (by kernel_rfl) (by kernel_rfl) (by kernel_rfl) (fun _ _ _ h => h) (Or.inl ⟨by rfl, ?_⟩) (by assumption) ?_
        rotate_left
        · intro w hSw
          try dsimp only at hSw
          go_simp
          try with_reducible rfl
        try simp only [Act.put, List.setIfInBounds_toArray, List.set_cons_zero, List.set_cons_succ]
        refine wpAnyH_take (i := 6) (oi := { dst := some 78, op := Op.move (Operand.tmp 0), type := 26, pos := "ref.go:196", after := #[{ on := 5, ground := Ground.guard }], guard := some (5, true) }) (v := undef) rfl (by kernel_rfl) (by kernel_rfl) (by kernel_rfl) (fun _ _ _ h => h) (Or.inr ⟨by rfl, rfl⟩) (by assumption) ?_
        try simp only [Act.put, List.setIfInBounds_toArray, List.set_cons_zero, List.set_cons_succ]
        refine wpAnyH_take (i := 7) (oi := { dst := some 79, op := Op.move (Operand.tmp 2), type := 3, pos := "ref.go:196", after := #[{ on := 5, ground := Ground.guard }], guard := some (5, true) }) (v := undef) rfl (by kernel_rfl) (by kernel_rfl) (by kernel_rfl) (fun _ _ _ h => h) (Or.inr ⟨by rfl, rfl⟩) (by assumption) ?_
        try simp only [Act.put, List.setIfInBounds_toArray, List.set_cons_zero, List.set_cons_succ]
        refine wpAnyH_take (i := 8) (oi := { dst := some 80, op := Op.call { callee := Callee.value (Operand.func 103), args := #[Operand.tmp 78, Operand.tmp 79], argTypes := #[26, 3] }, type := 3, pos := "ref.go:196", after := #[{ on := 6, ground := Ground.data }, { on := 7, ground := Ground.data }, { on := 5, ground := Ground.chain }, { on := 5, ground := Ground.guard }], guard := some (5, true) }) (v := undef) rfl (by kernel_rfl) (by kernel_rfl) (by kernel_rfl) (fun _ _ _ h => h) (Or.inr ⟨by rfl, rfl⟩) (by assumption) ?_
        try simp only [Act.put, List.setIfInBounds_toArray, List.set_cons_zero, List.set_cons_succ]
        refine wpAnyH_take (i := 9) (oi := { dst := some 81, op := Op.binOp BinOp.add 3 (Operand.tmp 80) (Operand.const (Value.int IntKind.i64 1)) 3, type := 3, pos := "ref.go:196", after := #[{ on := 8, ground := Ground.data }, { on := 5, ground := Ground.guard }], guard := some (5, true) }) (v := undef) rfl (by kernel_rfl) (by kernel_rfl) (by kernel_rfl) (fun _ _ _ h => h) (Or.inr ⟨by rfl, rfl⟩) (by assumption) ?_
        try simp only [Act.put, List.setIfInBounds_toArray, List.set_cons_zero, List.set_cons_succ]
        refine wpAnyH_take (i := 10) (oi := { dst := some 82, op := Op.move (Operand.tmp 0), type := 26, pos := "ref.go:196", after := #[{ on := 5, ground := Ground.guard }], guard := some (5, true) }) (v := undef) rfl (by kernel_rfl) (by kernel_rfl) (by kernel_rfl) (fun _ _ _ h => h) (Or.inr ⟨by rfl, rfl⟩) (by assumption) ?_
        try simp only [Act.put, List.setIfInBounds_toArray, List.set_cons_zero, List.set_cons_succ]
        refine wpAnyH_take (i := 11) (oi := { dst := some 83, op := Op.fieldAddr 76 (Operand.tmp 16) 0, type := 0, pos := "ref.go:196", after := #[{ on := 5, ground := Ground.guard }], guard := some (5, true) }) (v := undef) rfl (by kernel_rfl) (by kernel_rfl) (by kernel_rfl) (fun _ _ _ h => h) (Or.inr ⟨by rfl, rfl⟩) (by assumption) ?_
        try simp only [Act.put, List.setIfInBounds_toArray, List.set_cons_zero, List.set_cons_succ]
        refine wpAnyH_take (i := 12) (oi := { dst := some 84, op := Op.load 3 (Operand.tmp 83), type := 3, pos := "ref.go:196", after := #[{ on := 11, ground := Ground.data }, { on := 5, ground := Ground.guard }], guard := some (5, true) }) (v := undef) rfl (by kernel_rfl) (by kernel_rfl) (by kernel_rfl) (fun _ _ _ h => h) (Or.inr ⟨by rfl, rfl⟩) (by assumption) ?_
        try simp only [Act.put, List.setIfInBounds_toArray, List.set_cons_zero, List.set_cons_succ]
        refine wpAnyH_take (i := 13) (oi := { dst := some 85, op := Op.call { callee := Callee.value (Operand.func 103), args := #[Operand.tmp 82, Operand.tmp 84], argTypes := #[26, 3] }, type := 3, pos := "ref.go:196", after := #[{ on := 10, ground := Ground.data }, { on := 12, ground := Ground.data }, { on := 8, ground := Ground.chain }, { on := 5, ground := Ground.guard }], guard := some (5, true) }) (v := undef) rfl (by kernel_rfl) (by kernel_rfl) (by kernel_rfl) (fun _ _ _ h => h) (Or.inr ⟨by rfl, rfl⟩) (by assumption) ?_
        try simp only [Act.put, List.setIfInBounds_toArray, List.set_cons_zero, List.set_cons_succ]
        refine wpAnyH_take (i := 14) (oi := { dst := some 86, op := Op.binOp BinOp.add 3 (Operand.tmp 81) (Operand.tmp 85) 3, type := 3, pos := "ref.go:196", after := #[{ on := 9, ground := Ground.data }, { on := 13, ground := Ground.data }, { on := 5, ground := Ground.guard }], guard := some (5, true) }) (v := undef) rfl (by kernel_rfl) (by kernel_rfl) (by kernel_rfl) (fun _ _ _ h => h) (Or.inr ⟨by rfl, rfl⟩) (by assumption) ?_
        try simp only [Act.put, List.setIfInBounds_toArray, List.set_cons_zero, List.set_cons_succ]
        refine wpAnyH_take (i := 15) (oi := { dst := some 87, op := Op.move (Operand.tmp 0), type := 26, pos := "ref.go:196", after := #[{ on := 5, ground := Ground.guard }], guard := some (5, true) }) (v := undef) rfl (by kernel_rfl) (by kernel_rfl) (by kernel_rfl) (fun _ _ _ h => h) (Or.inr ⟨by rfl, rfl⟩) (by assumption) ?_
        try simp only [Act.put, List.setIfInBounds_toArray, List.set_cons_zero, List.set_cons_succ]
        refine wpAnyH_take (i := 16) (oi := { dst := some 88, op := Op.move (Operand.tmp 1), type := 3, pos := "ref.go:196", after := #[{ on := 5, ground := Ground.guard }], guard := some (5, true) }) (v := undef) rfl (by kernel_rfl) (by kernel_rfl) (by kernel_rfl) (fun _ _ _ h => h) (Or.inr ⟨by rfl, rfl⟩) (by assumption) ?_
        try simp only [Act.put, List.setIfInBounds_toArray, List.set_cons_zero, List.set_cons_succ]
        refine wpAnyH_take (i := 17) (oi := { dst := some 89, op := Op.call { callee := Callee.value (Operand.func 103), args := #[Operand.tmp 87, Operand.tmp 88], argTypes := #[26, 3] }, type := 3, pos := "ref.go:196", after := #[{ on := 15, ground := Ground.data }, { on := 16, ground := Ground.data }, { on := 13, ground := Ground.chain }, { on := 5, ground := Ground.guard }], guard := some (5, true) }) (v := undef) rfl (by kernel_rfl) (by kernel_rfl) (by kernel_rfl) (fun _ _ _ h => h) (Or.inr ⟨by rfl, rfl⟩) (by assumption) ?_
        try simp only [Act.put, List.setIfInBounds_toArray, List.set_cons_zero, List.set_cons_succ]
        refine wpAnyH_take (i := 18) (oi := { dst := some 90, op := Op.binOp BinOp.sub 3 (Operand.tmp 86) (Operand.tmp 89) 3, type := 3, pos := "ref.go:196", after := #[{ on := 14, ground := Ground.data }, { on := 17, ground := Ground.data }, { on := 5, ground := Ground.guard }], guard := some (5, true) }) (v := undef) rfl (by kernel_rfl) (by kernel_rfl) (by kernel_rfl) (fun _ _ _ h => h) (Or.inr ⟨by rfl, rfl⟩) (by assumption) ?_
        try simp only [Act.put, List.setIfInBounds_toArray, List.set_cons_zero, List.set_cons_succ]
        refine wpAnyH_take (i := 19) (oi := { dst := some 91, op := Op.binOp BinOp.gtr 3 (Operand.tmp 90) (Operand.const (Value.int IntKind.i64 512)) 3, type := 4, pos := "ref.go:196", after := #[{ on := 18, ground := Ground.data }, { on := 5, ground := Ground.guard }], guard := some (5, true) }) (v := undef) rfl (by kernel_rfl) (by kernel_rfl) (by kernel_rfl) (fun _ _ _ h => h) (Or.inr ⟨by rfl, rfl⟩) (by assumption) ?_
        try simp only [Act.put, List.setIfInBounds_toArray, List.set_cons_zero, List.set_cons_succ]
        refine wpAnyH_take (i := 20) (oi := { dst := some 92, op := Op.pick (Operand.tmp 77) (Operand.tmp 91) (Operand.const (Value.bool false)), type := 4, pos := "ref.go:196", after := #[{ on := 5, ground := Ground.data }, { on := 19, ground := Ground.data }], guard := none }) (v := ?_) rfl (by kernel_rfl) (by kernel_rfl) (by kernel_rfl) (fun _ _ _ h => h) (Or.inl ⟨by rfl, ?_⟩) (by assumption) ?_
        rotate_left
        · intro w hSw
          try dsimp only at hSw
          go_simp
          try with_reducible rfl
        try simp only [Act.put, List.setIfInBounds_toArray, List.set_cons_zero, List.set_cons_succ]
        refine wpAnyH_done (by kernel_rfl) ?_ _
        all_goals
          have HBa := hid_mk (HBx.out.trans (ga.mono HBx.out.size))
          clear gd ga 
          go_wp2
          exact ⟨⟨t + 1, htl, by go_num, HBa⟩, by simp only [intOf]; omega⟩
      | true =>
        have h5 : ¬ (512 : Int) < (U : Int) + 1 + (V : Int) - (X : Int) := fun h => hov ⟨rfl, h⟩
        have hd5 : decide ((512 : Int) < (U : Int) + 1 + (V : Int) - (X : Int)) = false := decide_eq_false h5
        clear hov
        have gd : Below w8.heap.size w8 w8.drew := (Below.refl _ _).drew
        go_region_held3 (fun w' => w'.cell? ⟨wr.heap.size, 0, none⟩ = some (.int .i64 el.id))
          (first | with_reducible exact HF.out _ gd | with_reducible exact HF.out _ ga | with_reducible exact HF.out _ gb | with_reducible exact HF.out _ gc | with_reducible exact HF.out _ ge)
          (first
            | (go_at_call 106; with_reducible refine (HB1.out _ gd).mono ?_; rintro e wa ⟨rfl, ga⟩)
            | (go_at_call 103; with_reducible refine (HD1.out _ ga).mono ?_; rintro e wb ⟨rfl, gb⟩)
            | (go_at_call 103; with_reducible refine (HD2.out _ gb).mono ?_; rintro e wc ⟨rfl, gc⟩)
            | (go_at_call 103; with_reducible refine (HD3.out _ gc).mono ?_; rintro e we ⟨rfl, ge⟩))
        all_goals
          have HBa := hid_mk (HBx.out.trans (ge.mono HBx.out.size))
          clear gd ga gb gc ge 
          go_wp2
          exact ⟨⟨t + 1, htl, by go_num, HBa⟩, by simp only [intOf]; omega⟩
    · have hcp := HCP.out wr HB.out
      clear HC HBL HDP HUP HCP HCL HNO y0
      go_wp2_with (go_at_call 104; fail)
      refine hcp.mono ?_
      rintro x w9 ⟨bx, rfl, hO9, hB9⟩
      have HO9 := hid_mk hO9
      have HB9 := hid_mk hB9
      have HP9 : Hid (∀ W, Below wr.heap.size wr W → W.cell? ⟨w2.heap.size, 2, none⟩ = some (.int .i64 e1.par)) := fun W hW => HP7.out W (HBq.out.trans (hW.mono HBq.out.size))
      have HRr := hid_mk (HRX.out.keep HBq.out)
      have hgr : w2.heap.size < wr.heap.size := Nat.lt_of_lt_of_le HG7.out HBq.out.size
      have HD9 := hid_mk hO9.doc
      obtain ⟨ab, vc, s1, hbx, hdl, hab, hgl, hne, hc1, hc2, hd, hLO, hE, hF, hR, _⟩ := hO9.at t1
      have hks := HKS.out
      have hkn : s1.kn = L[tp].ks.length := hE.kn
      have HF : Hid (∀ W, Below w9.heap.size w9 W → W.cell? ⟨bx, 0, none⟩ = some (.slice (some ⟨ab, 0, none⟩) L.length vc) ∧ W.cell? ⟨w2.heap.size, 2, none⟩ = some (.int .i64 e1.par)) := fun W hW => ⟨hF W hW, HP9.out W (HB9.out.trans (hW.mono HB9.out.size))⟩
      have HFS : Hid (∀ W u, Below w9.heap.size w9 W → (W.setCell ⟨ab, tp * 5 + 3, none⟩ u).cell? ⟨bx, 0, none⟩ = some (.slice (some ⟨ab, 0, none⟩) L.length vc) ∧ (W.setCell ⟨ab, tp * 5 + 3, none⟩ u).cell? ⟨w2.heap.size, 2, none⟩ = some (.int .i64 e1.par)) := fun W u hW => by
        obtain ⟨q1, q2⟩ := HF.out W hW
        exact ⟨(World.cell?_of_block (a := ⟨bx, 0, none⟩) (Below.heap_setCell W ⟨ab, tp * 5 + 3, none⟩ u bx hne)).trans q1, (World.cell?_of_block (a := ⟨w2.heap.size, 2, none⟩) (Below.heap_setCell W ⟨ab, tp * 5 + 3, none⟩ u _ (by show w2.heap.size ≠ ab; omega))).trans q2⟩
      have HAT : Hid (∀ W, Below w9.heap.size w9 W → Calls Tryz.prog 74 #[.pointer (some ⟨bx, 0, none⟩), .int .i64 e1.par] W fun x w' => x = .returned (.int .i64 (tp : Int)) ∧ (w'.cell? ⟨ab, tp * 5 + 3, none⟩ = some (.slice s1.ka s1.kn s1.kc) ∧ w'.frozen? ⟨ab, tp * 5 + 3, none⟩ = false) ∧ Below w9.heap.size w9 w') := fun W hW => by
        have := rat_any (HD9.out.keep hW) e1.par
        rw [HA1.out] at this
        refine this.mono ?_
        rintro x w' ⟨rfl, hB⟩
        have hb := hW.trans (hB.mono hW.size)
        exact ⟨rfl, hR _ hb, hb⟩
      have HWO : Hid (∀ W, Below w9.heap.size w9 W → Calls Tryz.prog 107 #[.slice s1.ka s1.kn s1.kc, .int .i64 id] W fun x w' => ∃ a' n' c', x = .returned (.slice a' n' c') ∧ (w'.cell? ⟨ab, tp * 5 + 3, none⟩ = some (.slice s1.ka s1.kn s1.kc) ∧ w'.frozen? ⟨ab, tp * 5 + 3, none⟩ = false) ∧ Hid (RowAt w' 1 a' n' c' (intsV (rmv L[tp].ks id))) ∧ Hid (NewAt w9.heap.size a') ∧ Below w9.heap.size w9 w') := fun W hW => by
        refine (rwithout_any ((hE.keep hW).2.2.2.1) (by omega) id).mono ?_
        rintro x w' ⟨a', c', rfl, q1, q2, q3⟩
        have hb := hW.trans (q3.mono hW.size)
        exact ⟨a', _, c', rfl, hR _ hb, q1, q2.mono hW.size, hb⟩
      have HFIN : Hid (∀ W a7 n7 c7, Below w9.heap.size w9 W → RowAt W 1 a7 n7 c7 (intsV (rmv L[tp].ks id)) → NewAt w9.heap.size a7 → Hid (ROwn wr.heap.size (W.setCell ⟨ab, tp * 5 + 3, none⟩ (.slice a7 n7 c7)) bx L1 nx) ∧ Hid (Below wr.heap.size wr (W.setCell ⟨ab, tp * 5 + 3, none⟩ (.slice a7 n7 c7)))) := fun W a7 n7 c7 hW hr hn => by
        refine ⟨?_, (HB9.out.trans (hW.mono HB9.out.size)).setCell (p := ⟨ab, tp * 5 + 3, none⟩) hab _⟩
        rw [HQ1.out]
        exact ROwn.kids hd hbx hne hgl hLO t1 hW hr hn
      clear hcp hO9 hB9 hF hR hE hd hLO HO9 HD9 HP7 HRX HG7 HKS hks hkn HA1 HQ1
      obtain ⟨id0, tag0, par0, ka, kn, kc, aa, an, ac⟩ := s1
      dsimp only at *
      go_upto_region 17 with (fail)
      go_cut [] (fun wx => Hid (ROwn wr.heap.size wx bx L1 nx) ∧ Hid (Below wr.heap.size wr wx))
      case first =>
        have gd : Below w9.heap.size w9 w9.drew := (Below.refl _ _).drew
        refine wp_region_held_drew (S := fun w' => w'.cell? ⟨bx, 0, none⟩ = some (.slice (some ⟨ab, 0, none⟩) L.length vc) ∧ w'.cell? ⟨w2.heap.size, 2, none⟩ = some (.int .i64 e1.par)) (by kernel_rfl) (HF.out _ gd) (fun hHeld => ?_)
        refine wpAnyH_take (i := 0) (oi := { dst := some 97, op := Op.move (Operand.tmp 17), type := 26, pos := "ref.go:201", after := #[], guard := none }) (v := ?_) rfl (by kernel_rfl) (by kernel_rfl) (by kernel_rfl) (fun _ _ _ h => h) (Or.inl ⟨by rfl, ?_⟩) (by assumption) ?_
        rotate_left
        · intro w hSw
          try dsimp only at hSw
          go_simp
          try with_reducible rfl
        try simp only [Act.put, List.setIfInBounds_toArray, List.set_cons_zero, List.set_cons_succ]
        refine wpAnyH_take (i := 1) (oi := { dst := some 98, op := Op.nilCheck (Operand.tmp 97), type := 0, pos := "ref.go:201", after := #[{ on := 0, ground := Ground.data }], guard := none }) (v := ?_) rfl (by kernel_rfl) (by kernel_rfl) (by kernel_rfl) (fun _ _ _ h => h) (Or.inl ⟨by rfl, ?_⟩) (by assumption) ?_
        rotate_left
        · intro w hSw
          try dsimp only at hSw
          go_simp
          try with_reducible rfl
        try simp only [Act.put, List.setIfInBounds_toArray, List.set_cons_zero, List.set_cons_succ]
        refine wpAnyH_take (i := 2) (oi := { dst := some 99, op := Op.fieldAddr 126 (Operand.tmp 98) 0, type := 0, pos := "ref.go:201", after := #[{ on := 1, ground := Ground.data }], guard := none }) (v := ?_) rfl (by kernel_rfl) (by kernel_rfl) (by kernel_rfl) (fun _ _ _ h => h) (Or.inl ⟨by rfl, ?_⟩) (by assumption) ?_
        rotate_left
        · intro w hSw
          try dsimp only at hSw
          go_simp
          try with_reducible rfl
        try simp only [Act.put, List.setIfInBounds_toArray, List.set_cons_zero, List.set_cons_succ]
        refine wpAnyH_take (i := 3) (oi := { dst := some 100, op := Op.load 124 (Operand.tmp 99), type := 124, pos := "ref.go:201", after := #[{ on := 2, ground := Ground.data }], guard := none }) (v := ?_) rfl (by kernel_rfl) (by kernel_rfl) (by kernel_rfl) (fun _ _ _ h => h) (Or.inl ⟨by rfl, ?_⟩) (by assumption) ?_
        rotate_left
        · intro w hSw
          try dsimp only at hSw
          go_simp
          try with_reducible rfl
        try simp only [Act.put, List.setIfInBounds_toArray, List.set_cons_zero, List.set_cons_succ]
        refine wpAnyH_take (i := 4) (oi := { dst := some 101, op := Op.move (Operand.tmp 17), type := 26, pos := "ref.go:201", after := #[], guard := none }) (v := ?_) rfl (by kernel_rfl) (by kernel_rfl) (by kernel_rfl) (fun _ _ _ h => h) (Or.inl ⟨by rfl, ?_⟩) (by assumption) ?_
        rotate_left
        · intro w hSw
          try dsimp only at hSw
          go_simp
          try with_reducible rfl
        try simp only [Act.put, List.setIfInBounds_toArray, List.set_cons_zero, List.set_cons_succ]
        refine wpAnyH_take (i := 5) (oi := { dst := some 102, op := Op.fieldAddr 76 (Operand.tmp 10) 2, type := 0, pos := "ref.go:201", after := #[], guard := none }) (v := ?_) rfl (by kernel_rfl) (by kernel_rfl) (by kernel_rfl) (fun _ _ _ h => h) (Or.inl ⟨by rfl, ?_⟩) (by assumption) ?_
        rotate_left
        · intro w hSw
          try dsimp only at hSw
          go_simp
          try with_reducible rfl
        try simp only [Act.put, List.setIfInBounds_toArray, List.set_cons_zero, List.set_cons_succ]
        refine wpAnyH_take (i := 6) (oi := { dst := some 103, op := Op.load 3 (Operand.tmp 102), type := 3, pos := "ref.go:201", after := #[{ on := 5, ground := Ground.data }], guard := none }) (v := ?_) rfl (by kernel_rfl) (by kernel_rfl) (by kernel_rfl) (fun _ _ _ h => h) (Or.inl ⟨by rfl, ?_⟩) (by assumption) ?_
        rotate_left
        · intro w hSw
          try dsimp only at hSw
          go_simp
          try with_reducible rfl
        try simp only [Act.put, List.setIfInBounds_toArray, List.set_cons_zero, List.set_cons_succ]
        refine wpAnyH_take (i := 8) (oi := { dst := some 105, op := Op.move (Operand.tmp 17), type := 26, pos := "ref.go:201", after := #[], guard := none }) (v := ?_) rfl (by kernel_rfl) (by kernel_rfl) (by kernel_rfl) (fun _ _ _ h => h) (Or.inl ⟨by rfl, ?_⟩) (by assumption) ?_
        rotate_left
        · intro w hSw
          try dsimp only at hSw
          go_simp
          try with_reducible rfl
        try simp only [Act.put, List.setIfInBounds_toArray, List.set_cons_zero, List.set_cons_succ]
        refine wpAnyH_take (i := 9) (oi := { dst := some 106, op := Op.nilCheck (Operand.tmp 105), type := 0, pos := "ref.go:201", after := #[{ on := 8, ground := Ground.data }], guard := none }) (v := ?_) rfl (by kernel_rfl) (by kernel_rfl) (by kernel_rfl) (fun _ _ _ h => h) (Or.inl ⟨by rfl, ?_⟩) (by assumption) ?_
        rotate_left
        · intro w hSw
          try dsimp only at hSw
          go_simp
          try with_reducible rfl
        try simp only [Act.put, List.setIfInBounds_toArray, List.set_cons_zero, List.set_cons_succ]
        refine wpAnyH_take (i := 10) (oi := { dst := some 107, op := Op.fieldAddr 126 (Operand.tmp 106) 0, type := 0, pos := "ref.go:201", after := #[{ on := 9, ground := Ground.data }], guard := none }) (v := ?_) rfl (by kernel_rfl) (by kernel_rfl) (by kernel_rfl) (fun _ _ _ h => h) (Or.inl ⟨by rfl, ?_⟩) (by assumption) ?_
        rotate_left
        · intro w hSw
          try dsimp only at hSw
          go_simp
          try with_reducible rfl
        try simp only [Act.put, List.setIfInBounds_toArray, List.set_cons_zero, List.set_cons_succ]
        refine wpAnyH_take (i := 11) (oi := { dst := some 108, op := Op.load 124 (Operand.tmp 107), type := 124, pos := "ref.go:201", after := #[{ on := 10, ground := Ground.data }], guard := none }) (v := ?_) rfl (by kernel_rfl) (by kernel_rfl) (by kernel_rfl) (fun _ _ _ h => h) (Or.inl ⟨by rfl, ?_⟩) (by assumption) ?_
        rotate_left
        · intro w hSw
          try dsimp only at hSw
          go_simp
          try with_reducible rfl
        try simp only [Act.put, List.setIfInBounds_toArray, List.set_cons_zero, List.set_cons_succ]
        refine wpAnyH_take (i := 12) (oi := { dst := some 109, op := Op.move (Operand.tmp 17), type := 26, pos := "ref.go:201", after := #[], guard := none }) (v := ?_) rfl (by kernel_rfl) (by kernel_rfl) (by kernel_rfl) (fun _ _ _ h => h) (Or.inl ⟨by rfl, ?_⟩) (by assumption) ?_
        rotate_left
        · intro w hSw
          try dsimp only at hSw
          go_simp
          try with_reducible rfl
        try simp only [Act.put, List.setIfInBounds_toArray, List.set_cons_zero, List.set_cons_succ]
        refine wpAnyH_take (i := 13) (oi := { dst := some 110, op := Op.fieldAddr 76 (Operand.tmp 10) 2, type := 0, pos := "ref.go:201", after := #[], guard := none }) (v := ?_) rfl (by kernel_rfl) (by kernel_rfl) (by kernel_rfl) (fun _ _ _ h => h) (Or.inl ⟨by rfl, ?_⟩) (by assumption) ?_
        rotate_left
        · intro w hSw
          try dsimp only at hSw
          go_simp
          try with_reducible rfl
        try simp only [Act.put, List.setIfInBounds_toArray, List.set_cons_zero, List.set_cons_succ]
        refine wpAnyH_take (i := 14) (oi := { dst := some 111, op := Op.load 3 (Operand.tmp 110), type := 3, pos := "ref.go:201", after := #[{ on := 13, ground := Ground.data }], guard := none }) (v := ?_) rfl (by kernel_rfl) (by kernel_rfl) (by kernel_rfl) (fun _ _ _ h => h) (Or.inl ⟨by rfl, ?_⟩) (by assumption) ?_
        rotate_left
        · intro w hSw
          try dsimp only at hSw
          go_simp
          try with_reducible rfl
        try simp only [Act.put, List.setIfInBounds_toArray, List.set_cons_zero, List.set_cons_succ]
        refine wpAnyH_take (i := 19) (oi := { dst := some 116, op := Op.move (Operand.tmp 1), type := 3, pos := "ref.go:201", after := #[], guard := none }) (v := ?_) rfl (by kernel_rfl) (by kernel_rfl) (by kernel_rfl) (fun _ _ _ h => h) (Or.inl ⟨by rfl, ?_⟩) (by assumption) ?_
        rotate_left
        · intro w hSw
          try dsimp only at hSw
          go_simp
          try with_reducible rfl
        try simp only [Act.put, List.setIfInBounds_toArray, List.set_cons_zero, List.set_cons_succ]
        refine wpAnyH_ready (rs := [7]) (by kernel_rfl) (by simp) ?_
        refine AllReadyH.cons (o := { dst := some 104, op := Op.call { callee := Callee.value (Operand.func 74), args := #[Operand.tmp 101, Operand.tmp 103], argTypes := #[26, 3] }, type := 3, pos := "ref.go:201", after := #[{ on := 4, ground := Ground.data }, { on := 6, ground := Ground.data }], guard := none }) rfl (fun K hK => ?_) AllReadyH.nil
        go_simp
        go_at_call 74
        refine (HAT.out _ gd).mono ?_
        rintro e wa ⟨rfl, ⟨i1, i2⟩, ga⟩
        refine hK.out _ _ (HF.out _ ga) (fun hHeld => ?_)
        clear hK K
        try simp only [Act.put, List.setIfInBounds_toArray, List.set_cons_zero, List.set_cons_succ]
        refine wpAnyH_ready (rs := [15]) (by kernel_rfl) (by simp) ?_
        refine AllReadyH.cons (o := { dst := some 112, op := Op.call { callee := Callee.value (Operand.func 74), args := #[Operand.tmp 109, Operand.tmp 111], argTypes := #[26, 3] }, type := 3, pos := "ref.go:201", after := #[{ on := 12, ground := Ground.data }, { on := 14, ground := Ground.data }, { on := 7, ground := Ground.chain }], guard := none }) rfl (fun K hK => ?_) AllReadyH.nil
        go_simp
        go_at_call 74
        refine (HAT.out _ ga).mono ?_
        rintro e wb ⟨rfl, ⟨i3, i4⟩, gb⟩
        refine hK.out _ _ (HF.out _ gb) (fun hHeld => ?_)
        clear hK K
        try simp only [Act.put, List.setIfInBounds_toArray, List.set_cons_zero, List.set_cons_succ]
        refine wpAnyH_take (i := 16) (oi := { dst := some 113, op := Op.indexAddr 124 (Operand.tmp 108) (Operand.tmp 112), type := 0, pos := "ref.go:201", after := #[{ on := 11, ground := Ground.data }, { on := 15, ground := Ground.data }], guard := none }) (v := ?_) rfl (by kernel_rfl) (by kernel_rfl) (by kernel_rfl) (fun _ _ _ h => h) (Or.inl ⟨by rfl, ?_⟩) (by assumption) ?_
        rotate_left
        · intro w hSw
          try dsimp only at hSw
          go_simp
          try with_reducible rfl
        try simp only [Act.put, List.setIfInBounds_toArray, List.set_cons_zero, List.set_cons_succ]
        refine wpAnyH_take (i := 17) (oi := { dst := some 114, op := Op.fieldAddr 76 (Operand.tmp 113) 3, type := 0, pos := "ref.go:201", after := #[{ on := 16, ground := Ground.data }], guard := none }) (v := ?_) rfl (by kernel_rfl) (by kernel_rfl) (by kernel_rfl) (fun _ _ _ h => h) (Or.inl ⟨by rfl, ?_⟩) (by assumption) ?_
        rotate_left
        · intro w hSw
          try dsimp only at hSw
          go_simp
          try with_reducible rfl
        try simp only [Act.put, List.setIfInBounds_toArray, List.set_cons_zero, List.set_cons_succ]
        refine wpAnyH_ready (rs := [18]) (by kernel_rfl) (by simp) ?_
        refine AllReadyH.cons (o := { dst := some 115, op := Op.load 43 (Operand.tmp 114), type := 43, pos := "ref.go:201", after := #[{ on := 17, ground := Ground.data }], guard := none }) rfl (fun K hK => ?_) AllReadyH.nil
        go_simp
        refine hK.out _ _ (HF.out _ gb) (fun hHeld => ?_)
        clear hK K
        try simp only [Act.put, List.setIfInBounds_toArray, List.set_cons_zero, List.set_cons_succ]
        refine wpAnyH_ready (rs := [20]) (by kernel_rfl) (by simp) ?_
        refine AllReadyH.cons (o := { dst := some 117, op := Op.call { callee := Callee.value (Operand.func 107), args := #[Operand.tmp 115, Operand.tmp 116], argTypes := #[43, 3] }, type := 43, pos := "ref.go:201", after := #[{ on := 18, ground := Ground.data }, { on := 19, ground := Ground.data }, { on := 15, ground := Ground.chain }], guard := none }) rfl (fun K hK => ?_) AllReadyH.nil
        go_simp
        go_at_call 107
        refine (HWO.out _ gb).mono ?_
        rintro e ww ⟨a7, n7, c7, rfl, ⟨i5, i6⟩, HR7, HN7, gw⟩
        refine hK.out _ _ (HF.out _ gw) (fun hHeld => ?_)
        clear hK K
        try simp only [Act.put, List.setIfInBounds_toArray, List.set_cons_zero, List.set_cons_succ]
        refine wpAnyH_take (i := 21) (oi := { dst := some 118, op := Op.indexAddr 124 (Operand.tmp 100) (Operand.tmp 104), type := 0, pos := "ref.go:201", after := #[{ on := 3, ground := Ground.data }, { on := 7, ground := Ground.data }, { on := 0, ground := Ground.phase }, { on := 1, ground := Ground.phase }, { on := 2, ground := Ground.phase }, { on := 3, ground := Ground.phase }, { on := 4, ground := Ground.phase }, { on := 5, ground := Ground.phase }, { on := 6, ground := Ground.phase }, { on := 7, ground := Ground.phase }, { on := 8, ground := Ground.phase }, { on := 9, ground := Ground.phase }, { on := 10, ground := Ground.phase }, { on := 11, ground := Ground.phase }, { on := 12, ground := Ground.phase }, { on := 13, ground := Ground.phase }, { on := 14, ground := Ground.phase }, { on := 15, ground := Ground.phase }, { on := 16, ground := Ground.phase }, { on := 17, ground := Ground.phase }, { on := 18, ground := Ground.phase }, { on := 19, ground := Ground.phase }, { on := 20, ground := Ground.phase }], guard := none }) (v := ?_) rfl (by kernel_rfl) (by kernel_rfl) (by kernel_rfl) (fun _ _ _ h => h) (Or.inl ⟨by rfl, ?_⟩) (by assumption) ?_
        rotate_left
        · intro w hSw
          try dsimp only at hSw
          go_simp
          try with_reducible rfl
        try simp only [Act.put, List.setIfInBounds_toArray, List.set_cons_zero, List.set_cons_succ]
        refine wpAnyH_take (i := 22) (oi := { dst := some 119, op := Op.fieldAddr 76 (Operand.tmp 118) 3, type := 0, pos := "ref.go:201", after := #[{ on := 21, ground := Ground.data }, { on := 0, ground := Ground.phase }, { on := 1, ground := Ground.phase }, { on := 2, ground := Ground.phase }, { on := 3, ground := Ground.phase }, { on := 4, ground := Ground.phase }, { on := 5, ground := Ground.phase }, { on := 6, ground := Ground.phase }, { on := 7, ground := Ground.phase }, { on := 8, ground := Ground.phase }, { on := 9, ground := Ground.phase }, { on := 10, ground := Ground.phase }, { on := 11, ground := Ground.phase }, { on := 12, ground := Ground.phase }, { on := 13, ground := Ground.phase }, { on := 14, ground := Ground.phase }, { on := 15, ground := Ground.phase }, { on := 16, ground := Ground.phase }, { on := 17, ground := Ground.phase }, { on := 18, ground := Ground.phase }, { on := 19, ground := Ground.phase }, { on := 20, ground := Ground.phase }], guard := none }) (v := ?_) rfl (by kernel_rfl) (by kernel_rfl) (by kernel_rfl) (fun _ _ _ h => h) (Or.inl ⟨by rfl, ?_⟩) (by assumption) ?_
        rotate_left
        · intro w hSw
          try dsimp only at hSw
          go_simp
          try with_reducible rfl
        try simp only [Act.put, List.setIfInBounds_toArray, List.set_cons_zero, List.set_cons_succ]
        refine wpAnyH_ready (rs := [23]) (by kernel_rfl) (by simp) ?_
        refine AllReadyH.cons (o := { dst := none, op := Op.store 43 (Operand.tmp 119) (Operand.tmp 117), type := 0, pos := "ref.go:201", after := #[{ on := 22, ground := Ground.data }, { on := 20, ground := Ground.data }, { on := 20, ground := Ground.chain }, { on := 0, ground := Ground.phase }, { on := 1, ground := Ground.phase }, { on := 2, ground := Ground.phase }, { on := 3, ground := Ground.phase }, { on := 4, ground := Ground.phase }, { on := 5, ground := Ground.phase }, { on := 6, ground := Ground.phase }, { on := 7, ground := Ground.phase }, { on := 8, ground := Ground.phase }, { on := 9, ground := Ground.phase }, { on := 10, ground := Ground.phase }, { on := 11, ground := Ground.phase }, { on := 12, ground := Ground.phase }, { on := 13, ground := Ground.phase }, { on := 14, ground := Ground.phase }, { on := 15, ground := Ground.phase }, { on := 16, ground := Ground.phase }, { on := 17, ground := Ground.phase }, { on := 18, ground := Ground.phase }, { on := 19, ground := Ground.phase }, { on := 20, ground := Ground.phase }], guard := none }) rfl (fun K hK => ?_) AllReadyH.nil
        go_simp
        refine hK.out _ _ (HFS.out _ _ gw) (fun hHeld => ?_)
        clear hK K
        try simp only [Act.put, List.setIfInBounds_toArray, List.set_cons_zero, List.set_cons_succ]
        refine wpAnyH_done (by kernel_rfl) ?_ _
        all_goals
          go_wp2_with fail
          go_meet
          exact HFIN.out _ _ _ _ gw HR7.out HN7.out
      case rest =>
      obtain ⟨HOc, HBc⟩ := hcut
      clear HF HFS HAT HWO HFIN hdl hab hgl hne hc1 hc2 hbx HP9 hgr HB9
      obtain ⟨wA, hwA⟩ : ∃ wA, wA = wc := ⟨_, rfl⟩
      subst hwA
      have HD9 := hid_mk HOc.out.doc
      obtain ⟨ab, vc, s1, hbx, hdl, hab, hgl, hne, hc1, hc2, hd, hLO, hE, hF, hR, _⟩ := HOc.out.at HT2.out
      rw [HL1.out] at hc1 hF
      have HF : Hid (∀ W, Below wA.heap.size wA W → W.cell? ⟨bx, 0, none⟩ = some (.slice (some ⟨ab, 0, none⟩) L.length vc)) := hF
      have HFS : Hid (∀ W u, Below wA.heap.size wA W → (W.setCell ⟨ab, tq * 5 + 3, none⟩ u).cell? ⟨bx, 0, none⟩ = some (.slice (some ⟨ab, 0, none⟩) L.length vc)) := fun W u hW => (World.cell?_of_block (a := ⟨bx, 0, none⟩) (Below.heap_setCell W ⟨ab, tq * 5 + 3, none⟩ u bx hne)).trans (HF.out W hW)
      have HAT : Hid (∀ W, Below wA.heap.size wA W → Calls Tryz.prog 74 #[.pointer (some ⟨bx, 0, none⟩), .int .i64 tg] W fun x w' => x = .returned (.int .i64 (tq : Int)) ∧ (w'.cell? ⟨ab, tq * 5 + 3, none⟩ = some (.slice s1.ka s1.kn s1.kc) ∧ w'.frozen? ⟨ab, tq * 5 + 3, none⟩ = false) ∧ Below wA.heap.size wA w') := fun W hW => by
        have := rat_any (HD9.out.keep hW) tg
        rw [HA2.out] at this
        refine this.mono ?_
        rintro x w' ⟨rfl, hB⟩
        have hb := hW.trans (hB.mono hW.size)
        exact ⟨rfl, hR _ hb, hb⟩
      have HWI : Hid (∀ W, Below wA.heap.size wA W → Calls Tryz.prog 105 #[.slice a6 RL c6, .int .i64 (j : Int), .int .i64 id] W fun x w' => ∃ a' n' c', x = .returned (.slice a' n' c') ∧ (w'.cell? ⟨ab, tq * 5 + 3, none⟩ = some (.slice s1.ka s1.kn s1.kc) ∧ w'.frozen? ⟨ab, tq * 5 + 3, none⟩ = false) ∧ Hid (RowAt w' 1 a' n' c' (intsV (ins (rmv e2.ks id) j id))) ∧ Hid (NewAt wA.heap.size a') ∧ Below wA.heap.size wA w') := fun W hW => by
        have hrr := HRr.out.keep (HBc.out.trans (hW.mono HBc.out.size))
        refine (rwith_any hrr (by have := HRL.out; omega) j (by have := HRL.out; omega) id).mono ?_
        rintro x w' ⟨a', c', rfl, q1, q2, q3⟩
        have hb := hW.trans (q3.mono hW.size)
        exact ⟨a', _, c', rfl, hR _ hb, q1, q2.mono hW.size, hb⟩
      have HFIN : Hid (∀ W a7 n7 c7, Below wA.heap.size wA W → RowAt W 1 a7 n7 c7 (intsV (ins (rmv e2.ks id) j id)) → NewAt wA.heap.size a7 → Hid (ROwn wr.heap.size (W.setCell ⟨ab, tq * 5 + 3, none⟩ (.slice a7 n7 c7)) bx L2 nx) ∧ Hid (Below wr.heap.size wr (W.setCell ⟨ab, tq * 5 + 3, none⟩ (.slice a7 n7 c7)))) := fun W a7 n7 c7 hW hr hn => by
        refine ⟨?_, (HBc.out.trans (hW.mono HBc.out.size)).setCell (p := ⟨ab, tq * 5 + 3, none⟩) hab _⟩
        rw [HQ2.out]
        exact ROwn.kids hd hbx hne hgl hLO HT2.out hW hr hn
      have ht2 : tq < L.length := by have := HT2.out; have := HL1.out; omega
      clear hF hR hE hd hLO HD9 HOc HA2
      obtain ⟨id0, tag0, par0, ka, kn, kc, aa, an, ac⟩ := s1
      dsimp only at *
      go_upto_region 18 with (fail)
      go_cut [] (fun wx => Hid (ROwn wr.heap.size wx bx L2 nx) ∧ Hid (Below wr.heap.size wr wx))
      case first =>
        have gd : Below wA.heap.size wA wA.drew := (Below.refl _ _).drew
        go_region_held3 (fun w' => w'.cell? ⟨bx, 0, none⟩ = some (.slice (some ⟨ab, 0, none⟩) L.length vc))
          (first | with_reducible exact HF.out _ gd | with_reducible exact HF.out _ ga | with_reducible exact HF.out _ gw | with_reducible exact HFS.out _ _ gw)
          (first
            | (go_at_call 74; with_reducible refine (HAT.out _ gd).mono ?_; rintro e wa ⟨rfl, ⟨i1, i2⟩, ga⟩)
            | (go_at_call 105; with_reducible refine (HWI.out _ ga).mono ?_; rintro e ww ⟨a7, n7, c7, rfl, ⟨i5, i6⟩, HR7, HN7, gw⟩))
        all_goals
          go_wp2_with fail
          go_meet
          exact HFIN.out _ _ _ _ gw HR7.out HN7.out
      case rest =>
      obtain ⟨HOd, HBd⟩ := hcut
      clear HF HFS HAT HWI HFIN hdl hab hgl hne hc1 hc2 hbx HBc HRr ht2
      obtain ⟨wB, hwB⟩ : ∃ wB, wB = wc := ⟨_, rfl⟩
      subst hwB
      have HD9 := hid_mk HOd.out.doc
      obtain ⟨ab, vc, s1, hbx, hdl, hab, hgl, hne, hc1, hc2, hd, hLO, hE, hF, _, hR⟩ := HOd.out.at HT3.out
      rw [HL2.out] at hc1 hF
      have HF : Hid (∀ W, Below wB.heap.size wB W → W.cell? ⟨bx, 0, none⟩ = some (.slice (some ⟨ab, 0, none⟩) L.length vc)) := hF
      have HFS : Hid (∀ W u, Below wB.heap.size wB W → (W.setCell ⟨ab, ti * 5 + 2, none⟩ u).cell? ⟨bx, 0, none⟩ = some (.slice (some ⟨ab, 0, none⟩) L.length vc)) := fun W u hW => (World.cell?_of_block (a := ⟨bx, 0, none⟩) (Below.heap_setCell W ⟨ab, ti * 5 + 2, none⟩ u bx hne)).trans (HF.out W hW)
      have HAT : Hid (∀ W, Below wB.heap.size wB W → Calls Tryz.prog 74 #[.pointer (some ⟨bx, 0, none⟩), .int .i64 id] W fun x w' => x = .returned (.int .i64 (ti : Int)) ∧ (w'.cell? ⟨ab, ti * 5 + 2, none⟩ = some (.int .i64 s1.par) ∧ w'.frozen? ⟨ab, ti * 5 + 2, none⟩ = false) ∧ Below wB.heap.size wB w') := fun W hW => by
        have := rat_any (HD9.out.keep hW) id
        rw [HA3.out] at this
        refine this.mono ?_
        rintro x w' ⟨rfl, hB⟩
        have hb := hW.trans (hB.mono hW.size)
        exact ⟨rfl, hR _ hb, hb⟩
      have HFIN : Hid (∀ W, Below wB.heap.size wB W → Hid (RDoc (W.setCell ⟨ab, ti * 5 + 2, none⟩ (.int .i64 tg)) (.pointer (some ⟨bx, 0, none⟩)) L3 nx) ∧ Hid (Below w.heap.size w (W.setCell ⟨ab, ti * 5 + 2, none⟩ (.int .i64 tg)))) := fun W hW => by
        have hb := (HBd.out.trans (hW.mono HBd.out.size)).setCell (p := ⟨ab, ti * 5 + 2, none⟩) hab (.int .i64 tg)
        refine ⟨?_, HB.out.trans (hb.mono HB.out.size)⟩
        rw [HQ3.out]
        exact (ROwn.par hd hbx hne hLO HT3.out hW tg).doc
      have ht3 : ti < L.length := by have := HT3.out; have := HL2.out; omega
      clear hF hR hE hd hLO HD9 HOd HA3 HB HB7 HBq HB3
      obtain ⟨id0, tag0, par0, ka, kn, kc, aa, an, ac⟩ := s1
      dsimp only at *
      go_upto_region 19 with (fail)
      have gd : Below wB.heap.size wB wB.drew := (Below.refl _ _).drew
      go_region_held3 (fun w' => w'.cell? ⟨bx, 0, none⟩ = some (.slice (some ⟨ab, 0, none⟩) L.length vc))
        (first | with_reducible exact HF.out _ gd | with_reducible exact HF.out _ ga | with_reducible exact HFS.out _ _ ga)
        (first
          | (go_at_call 74; with_reducible refine (HAT.out _ gd).mono ?_; rintro e wa ⟨rfl, ⟨i1, i2⟩, ga⟩))
      all_goals
        obtain ⟨HDE, HBE⟩ := HFIN.out _ ga
        go_wp2
        go_ret2
        exact ⟨bx, rfl, HDE.out, HBE.out⟩

end Go.Proofs.YtdiljkmlneeboaaGreat.N
namespace Go.Proofs.YtdiljkmlneeboaaGreat.N
open Go.RowKit
set_option maxRecDepth 100000

theorem atZ_ids {L L' : List El} (h : L'.map (·.id) = L.map (·.id)) (id : Int) : atZ L' id = atZ L id := by
  have e : ∀ X : List El, X.findIdx? (fun e => e.id == id) = (X.map (·.id)).findIdx? (· == id) := fun X => by rw [List.findIdx?_map]; rfl
  unfold atZ
  rw [e, e, h]
theorem at_find {L : List El} {n : Int} {e : El} (h : findL L n = some e) : ∃ (t : Nat) (ht : t < L.length), atZ L n = t ∧ L[t] = e := by
  rcases at_cases L n with ⟨_, e2⟩ | ⟨t, ht, e1, e2⟩
  · rw [h] at e2
    cases e2
  · rw [h] at e2
    exact ⟨t, ht, e1, (Option.some.inj e2).symm⟩
theorem over_iff {w : World} {rp : Value} {L : List El} {m : M} {nx : Int} {d : Int → Nat} (h : RTree w rp L m nx) (I : Inv uOk m nx d) {id tg : Int} {k : Nat} {e q : El} (he : m id = some e) (_hq : m tg = some q) (F : Full m id k) : (∃ t, ∃ (ht : t < L.length), Over m id tg L[t].id) ↔ 512 < (ups m tg).length + k := by
  constructor
  · rintro ⟨t, ht, h1, h2⟩
    have hm := h.mem (List.getElem_mem ht)
    have hl := (F.iff I he hm).2 h1
    have hd := F.deep I he hl
    rw [ups_len I hm, ups_len I he] at h2
    omega
  · intro hlt
    obtain ⟨n, hn, hdn⟩ := F.last I he
    obtain ⟨en, hen⟩ := full_some I he hn
    obtain ⟨t, ht, _, hl⟩ := at_find (L := L) (n := n) (e := en) (by rw [h.2.1]; exact hen)
    have hid : L[t].id = n := by rw [hl]; exact I.id hen
    refine ⟨t, ht, ?_⟩
    rw [hid]
    refine ⟨(F.iff I he hen).1 hn, ?_⟩
    rw [ups_len I hen, ups_len I he]
    omega
theorem rmove_ok {w : World} {b : Nat} {L : List El} {m : M} {nx : Int} (h : RTree w (.pointer (some ⟨b, 0, none⟩)) L m nx) (id tg i : Int) {k : Nat} (F : m id ≠ none → Full m id k) (he : movErr m id tg i k = 0) : Calls Tryz.prog 66 #[.pointer (some ⟨b, 0, none⟩), .int .i64 id, .int .i64 tg, .int .i64 i] w fun x w' => ∃ (b' j : Nat) (L' : List El), i = j ∧ x = .returned (.tuple #[.pointer (some ⟨b', 0, none⟩), .int .i64 0]) ∧ RTree w' (.pointer (some ⟨b', 0, none⟩)) L' (mvM m id tg j) nx ∧ Below w.heap.size w w' := by
  have hh := h
  obtain ⟨_, hf, hnd, d, I⟩ := hh
  obtain ⟨j, e, q, rfl, O⟩ := ok_movErr (uok := uOk) (nx := nx) (d := d) F he
  have n1 := O.ne1 I
  obtain ⟨P, hP, hk⟩ := I.par O.he n1
  have hpz : e.par ≠ 0 := fun h0 => n1 ((I.parRoot O.he).1 h0)
  have hpn := par_ne I O.he n1
  obtain ⟨tp, t1, a1, l1⟩ := at_find (L := L) (n := e.par) (e := P) (by rw [hf]; exact hP)
  obtain ⟨L1, q1⟩ : ∃ L1, L1 = L.set tp { L[tp] with ks := rmv L[tp].ks id } := ⟨_, rfl⟩
  have i1 : L1.map (·.id) = L.map (·.id) := by rw [q1]; exact ids_set t1 rfl
  have hnd1 : (L1.map (·.id)).Nodup := by rw [i1]; exact hnd
  have f1 : ∀ n, findL L1 n = mset m e.par { P with ks := rmv P.ks id } n := fun n => by
    have hx := I.id hP
    rw [q1, findL_set t1 (e' := { L[tp] with ks := rmv L[tp].ks id }) hnd rfl, hf, l1]
    unfold mset
    by_cases hn : n = e.par
    · rw [if_pos (hn.trans hx.symm), if_pos hn]
    · rw [if_neg (fun h => hn (h.trans hx)), if_neg hn]
  obtain ⟨Q, hQ, hQk, hQi⟩ : ∃ Q, mset m e.par { P with ks := rmv P.ks id } tg = some Q ∧ Q.ks = rmv q.ks id ∧ Q.id = tg := by
    by_cases h0 : tg = e.par
    · have hPq : P = q := by
        have := O.hq
        rw [h0, hP] at this
        exact Option.some.inj this
      refine ⟨_, by rw [h0, mset_same], by rw [hPq], ?_⟩
      show P.id = tg
      rw [I.id hP, h0]
    · refine ⟨q, by rw [mset_ne h0]; exact O.hq, (rmv_none fun hx => ?_).symm, I.id O.hq⟩
      obtain ⟨c, hc, hcp⟩ := I.kid O.hq hx
      rw [O.he] at hc
      cases hc
      exact h0 hcp.symm
  obtain ⟨tq, t2, a2, l2⟩ := at_find (L := L1) (n := tg) (e := Q) (by rw [f1]; exact hQ)
  obtain ⟨L2, q2⟩ : ∃ L2, L2 = L1.set tq { L1[tq] with ks := ins (rmv q.ks id) j id } := ⟨_, rfl⟩
  have i2 : L2.map (·.id) = L.map (·.id) := by rw [q2, ids_set t2 (e' := { L1[tq] with ks := ins (rmv q.ks id) j id }) rfl]; exact i1
  have hnd2 : (L2.map (·.id)).Nodup := by rw [i2]; exact hnd
  have f2 : ∀ n, findL L2 n = mset (mset m e.par { P with ks := rmv P.ks id }) tg { Q with ks := ins Q.ks j id } n := fun n => by
    rw [q2, findL_set t2 (e' := { L1[tq] with ks := ins (rmv q.ks id) j id }) hnd1 rfl, f1, l2, ← hQk]
    show _ = if n = tg then _ else _
    by_cases hn : n = tg
    · rw [if_pos (hn.trans hQi.symm), if_pos hn]
    · rw [if_neg (fun h => hn (h.trans hQi)), if_neg hn]
  obtain ⟨ti, t3, a3, l3⟩ := at_find (L := L2) (n := id) (e := e) (by rw [f2, mset_ne (O.ne I).symm, mset_ne hpn.symm]; exact O.he)
  obtain ⟨L3, q3⟩ : ∃ L3, L3 = L2.set ti { L2[ti] with par := tg } := ⟨_, rfl⟩
  have i3 : L3.map (·.id) = L.map (·.id) := by rw [q3, ids_set t3 (e' := { L2[ti] with par := tg }) rfl]; exact i2
  have f3 : ∀ n, findL L3 n = mvM m id tg j n := fun n => by
    have hx := I.id O.he
    rw [q3, findL_set t3 (e' := { L2[ti] with par := tg }) hnd2 rfl, f2, l3, ← mvM_eq I O.he hP hpn (O.ne I) hQ j]
    show _ = if n = id then _ else _
    by_cases hn : n = id
    · rw [if_pos (hn.trans hx.symm), if_pos hn]
    · rw [if_neg (fun h => hn (h.trans hx)), if_neg hn]
  have hno : ∀ t (ht : t < L.length), ¬ Over m id tg L[t].id := fun t ht ho => by
    have := (over_iff h I O.he O.hq O.full).1 ⟨t, ht, ho⟩
    have := O.deep
    omega
  refine (rmove_walk h id tg j O.he O.hq O.not hpz O.room hno t1 a1 q1 t2 a2 q2 t3 a3 q3).mono ?_
  rintro x w' ⟨b', rfl, hD, hB⟩
  exact ⟨b', j, L3, rfl, rfl, ⟨hD, f3, by rw [i3]; exact hnd, _, O.inv I⟩, hB⟩
theorem rmove_err {w : World} {b : Nat} {L : List El} {m : M} {nx : Int} (h : RTree w (.pointer (some ⟨b, 0, none⟩)) L m nx) (id tg i : Int) {k : Nat} (F : m id ≠ none → Full m id k) (he : movErr m id tg i k ≠ 0) : Calls Tryz.prog 66 #[.pointer (some ⟨b, 0, none⟩), .int .i64 id, .int .i64 tg, .int .i64 i] w fun x w' => x = .returned (.tuple #[.pointer (some ⟨b, 0, none⟩), .int .i64 (movErr m id tg i k)]) ∧ Below w.heap.size w w' := by
  have hh := h
  obtain ⟨_, hf, hnd, d, I⟩ := hh
  cases h1 : m id with
  | none =>
    rw [show movErr m id tg i k = 1 by unfold movErr; rw [h1]]
    exact rmove_1 h id tg i (.inl h1)
  | some e =>
    cases h2 : m tg with
    | none =>
      rw [show movErr m id tg i k = 1 by unfold movErr; rw [h1, h2]]
      exact rmove_1 h id tg i (.inr h2)
    | some q =>
      have hE : movErr m id tg i k = if id ∈ ups m tg then 2 else if i < 0 ∨ ((rmv q.ks id).length : Int) < i then 3 else if 512 < (ups m tg).length + k then 5 else 0 := by unfold movErr; rw [h1, h2]
      rw [hE] at he ⊢
      by_cases c1 : id ∈ ups m tg
      · rw [if_pos c1]
        exact rmove_2 h id tg i h1 h2 c1
      · rw [if_neg c1] at he ⊢
        have n1 : id ≠ 1 := by
          rintro rfl
          exact c1 (root_ups I 512 tg q h2 (I.top h2))
        have hpz : e.par ≠ 0 := fun h0 => n1 ((I.parRoot h1).1 h0)
        by_cases c2 : i < 0 ∨ ((rmv q.ks id).length : Int) < i
        · rw [if_pos c2]
          exact rmove_3 h id tg i h1 h2 c1 hpz c2
        · rw [if_neg c2] at he ⊢
          by_cases c3 : 512 < (ups m tg).length + k
          · rw [if_pos c3]
            obtain ⟨j, rfl⟩ : ∃ j : Nat, i = j := ⟨i.toNat, by omega⟩
            exact rmove_5 h id tg j h1 h2 c1 hpz (by omega) ((over_iff h I h1 h2 (F (by rw [h1]; simp))).2 c3)
          · rw [if_neg c3] at he
            exact absurd rfl he

end Go.Proofs.YtdiljkmlneeboaaGreat.N
