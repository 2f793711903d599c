/- The document's Insert: the walk. -/
import Derived.Test.YtdiljkmlneeboaaGreatRfS
import Derived.Deep.RegionLaw
namespace Go.Proofs.YtdiljkmlneeboaaGreat.N
open Go.RowKit
set_option maxRecDepth 100000

theorem RTree.len {w : World} {rp : Value} {L : List El} {m : M} {nx : Int} (h : RTree w rp L m nx) : (L.length : Int) < nx := by
  have h1 : ∀ x ∈ L.map (·.id), (1 : Int) ≤ x ∧ x < nx := fun x hx => by
    obtain ⟨e, he, rfl⟩ := List.mem_map.1 hx
    have hm := h.mem he
    obtain ⟨_, _, _, d, I⟩ := h
    exact I.lo hm
  have h2 := len_range h.2.2.1 h1
  obtain ⟨_, _, _, d, I⟩ := h
  have := I.nxb
  rw [List.length_map] at h2
  omega
set_option maxHeartbeats 8000000 in
theorem rinsert_walk {w : World} {b : Nat} {L : List El} {m : M} {nx : Int} (h : RTree w (.pointer (some ⟨b, 0, none⟩)) L m nx) (hnx : nx < 100000) (p : Int) (j : Nat) (tag : ByteArray) (hs : tag.size ≤ 281474976710656) {t : Nat} (ht : t < L.length) (hat : atZ L p = t) (hm : m p = some L[t]) (hj : j ≤ L[t].ks.length) (hz : nameZ tag = true) (hu : (ups m p).length < 512) : Calls Tryz.prog 64 #[.pointer (some ⟨b, 0, none⟩), .int .i64 p, .int .i64 (j : Int), .string tag] w fun x w' => ∃ b', x = .returned (.tuple #[.pointer (some ⟨b', 0, none⟩), .int .i64 nx, .int .i64 0]) ∧ RDoc w' (.pointer (some ⟨b', 0, none⟩)) (L.set t { L[t] with ks := ins L[t].ks j nx } ++ [⟨nx, tag, p, [], []⟩]) (nx + 1) ∧ Below w.heap.size w w' := by
  have hlen := h.len
  have hnd := rt_node h p
  rw [hm] at hnd
  have HDP : Hid (∀ w', Below w.heap.size w w' → _) := fun w' hw' => rdepth_any (h.keep hw') p
  have HCP : Hid (∀ w', Below w.heap.size w w' → _) := fun w' hw' => rcopy_any (h.keep hw') (by omega)
  have HNM : Hid (∀ w', Calls Tryz.prog 102 #[.string tag] w' fun e w'' => e = .returned (.bool true) ∧ w' = w'') := fun w' => by
    have := refName_any tag w' hs
    rwa [hz] at this
  obtain ⟨bb, a, n, c, e0, hbl, _, _, _, _, hcell⟩ := h.1.cells
  cases e0
  obtain ⟨d, I⟩ := h.2.2.2
  have hnb := I.nxb
  have HCN : Hid (∀ W, Below w.heap.size w W → W.cell? ⟨b, 1, none⟩ = some (.int .i64 nx)) := fun W hW => (hcell W hW).2
  have hkl : L[t].ks.length ≤ 100000 := by have := I.ksLen hm; omega
  have HM := hid_mk hm
  have HAT := hid_mk hat
  have HU := hid_mk hu
  obtain ⟨el, hel⟩ : ∃ el, el = L[t] := ⟨_, rfl⟩
  rw [← hel] at hkl hj hnd
  have HEL := hid_mk hel
  clear hcell I h hm hat hz hs hu hel
  go_enter Tryz.func64, Tryz.ntmps64
  go_wp2_with (go_at_call 33; fail)
  refine hnd.mono ?_
  rintro x w2 ⟨s, rfl, hE0, _, hB2⟩
  have hE : ElAt w2 s el := hE0
  have hkn : s.kn = el.ks.length := hE.kn
  obtain ⟨w3, hw3⟩ : ∃ w3, w3 = w2.alloc (.cells #[.int .i64 s.id, .string s.tag, .int .i64 s.par, .slice s.ka s.kn s.kc, .slice s.aa s.an s.ac] 76) := ⟨_, rfl⟩
  have hB23 : Below w2.heap.size w2 w3 := by rw [hw3]; exact (Below.refl _ _).alloc (Nat.le_refl _) _
  have HB3 : Hid (Below w.heap.size w w3) := hB2.trans (hB23.mono hB2.size)
  have hN3 : NodeAt w3 w2.heap.size s := by rw [hw3]; exact heap_alloc_last w2 _
  obtain ⟨id0, tag0, par0, ka, kn, kc, aa, an, ac⟩ := s
  dsimp only at *
  subst hkn
  obtain ⟨⟨_, _, _, n3, _⟩, _, _, _, _, _, hgl⟩ := hN3.cells
  dsimp only at n3
  have HR3 := hid_mk ((hE.keep hB23).2.2.2.1)
  have HN3 : Hid (∀ W, Below w3.heap.size w3 W → W.cell? ⟨w2.heap.size, 3, none⟩ = some (.slice ka el.ks.length kc)) := fun W hW => (hW.cell (p := ⟨w2.heap.size, 3, none⟩) hgl).trans n3
  have HW3 := hid_mk hw3
  clear hnd hE hE0 hB2 hw3 hN3 hB23 hgl
  go_upto_region 2 with (fail)
  rw [← HW3.out]
  have hnm := HNM.out w3
  have hdp := HDP.out w3 HB3.out
  generalize (ups m p).length = U at *
  have hu := HU.out
  have h2 : (0 : Int) ≤ (j : Int) := by omega
  have h3 : (j : Int) ≤ (el.ks.length : Int) := by omega
  have HC4 : Hid (∀ W, Below w3.heap.size w3 W → W.cell? ⟨b, 1, none⟩ = some (.int .i64 nx)) := fun W hW => HCN.out W (HB3.out.trans (hW.mono HB3.out.size))
  go_upto_region 10 with (first
    | (go_at_call 102; refine hnm.mono ?_; clear hnm; rintro e wx ⟨rfl, rfl⟩)
    | (go_at_call 103; refine hdp.mono ?_; clear hdp; rintro e w4 ⟨rfl, hB4⟩; have y1 := HC4.out w4 hB4; have HB34 := hid_mk hB4; clear hB4))
  have hcp := HCP.out w4 (HB3.out.trans (HB34.out.mono HB3.out.size))
  have HB4 := hid_mk (HB3.out.trans (HB34.out.mono HB3.out.size))
  clear HCP HNM HDP hu y1 n3 hbl
  go_wp2_with (go_at_call 104; fail)
  refine hcp.mono ?_
  rintro x w5 ⟨bx, rfl, hO5, hB5⟩
  have HO5 := hid_mk hO5
  have HB5 := hid_mk hB5
  have HB35 := hid_mk (HB34.out.trans (hB5.mono HB34.out.size))
  have HD5 := hid_mk hO5.doc
  obtain ⟨hbx, v, hd5, hLO⟩ := hO5
  obtain ⟨va, vc, rfl, hls⟩ := hLO.ls
  obtain ⟨s1, ab, ao, e1, hgl, hE1, _, _, _, r3, _⟩ := hls.at ht
  subst e1
  obtain ⟨ss, h1, _, _, _, hob⟩ := id hLO
  obtain ⟨rfl, hb4, cur, hcur⟩ : ao = 0 ∧ w4.heap.size ≤ ab ∧ ∃ cur, w5.heap[ab]? = some (.cells cur 76 (0, 0)) := by
    rcases h1.2 with ⟨e, _⟩ | ⟨g, cap, cur, e, hge, hg, _⟩
    · cases e
    · cases e
      exact ⟨rfl, hge, cur, hg⟩
  rw [Nat.zero_add] at r3
  have hcap := hls.cap
  have hdl : bx < w5.heap.size := (Array.getElem?_eq_some_iff.1 hd5).1
  have HF : Hid (∀ W, Below w5.heap.size w5 W → W.cell? ⟨bx, 0, none⟩ = some (.slice (some ⟨ab, 0, none⟩) L.length vc) ∧ W.cell? ⟨bx, 1, none⟩ = some (.int .i64 nx) ∧ W.cell? ⟨w2.heap.size, 3, none⟩ = some (.slice ka el.ks.length kc)) := fun W hW => by
    have h7 := (hW.block _ hdl).trans hd5
    exact ⟨by simp [World.cell?, h7], by simp [World.cell?, h7], HN3.out W (HB35.out.trans (hW.mono HB35.out.size))⟩
  have HRW : Hid (∀ W, Below w5.heap.size w5 W → W.cell? ⟨ab, t * 5 + 3, none⟩ = some (.slice s1.ka s1.kn s1.kc) ∧ W.frozen? ⟨ab, t * 5 + 3, none⟩ = false) := fun W hW => ⟨(hW.cell (p := ⟨ab, t * 5 + 3, none⟩) hgl).trans r3, by simp [World.frozen?, (hW.block _ hgl).trans hcur]⟩
  have hne1 : bx ≠ ab := fun e => hob (by rw [e]; rfl)
  have hne2 : w2.heap.size ≠ ab := by
    have e1 := (Array.getElem?_eq_some_iff.1 (show w3.heap[w2.heap.size]? = _ from by rw [HW3.out]; exact heap_alloc_last w2 _)).1
    have e2 := HB34.out.size
    omega
  have HFS : Hid (∀ W u, Below w5.heap.size w5 W → (W.setCell ⟨ab, t * 5 + 3, none⟩ u).cell? ⟨bx, 0, none⟩ = some (.slice (some ⟨ab, 0, none⟩) L.length vc) ∧ (W.setCell ⟨ab, t * 5 + 3, none⟩ u).cell? ⟨bx, 1, none⟩ = some (.int .i64 nx) ∧ (W.setCell ⟨ab, t * 5 + 3, none⟩ u).cell? ⟨w2.heap.size, 3, none⟩ = some (.slice ka el.ks.length kc)) := fun W u hW => by
    obtain ⟨q1, q2, q3⟩ := HF.out W hW
    exact ⟨(World.cell?_of_block (a := ⟨bx, 0, none⟩) (Below.heap_setCell W ⟨ab, t * 5 + 3, none⟩ u bx hne1)).trans q1, (World.cell?_of_block (a := ⟨bx, 1, none⟩) (Below.heap_setCell W ⟨ab, t * 5 + 3, none⟩ u bx hne1)).trans q2, (World.cell?_of_block (a := ⟨w2.heap.size, 3, none⟩) (Below.heap_setCell W ⟨ab, t * 5 + 3, none⟩ u _ hne2)).trans q3⟩
  have HFIN : Hid (∀ W a7 c7, Below w5.heap.size w5 W → RowAt W 1 a7 (el.ks.length + 1) c7 (intsV (ins el.ks j nx)) → NewAt w5.heap.size a7 → Hid (ROwn w4.heap.size (W.setCell ⟨ab, t * 5 + 3, none⟩ (.slice a7 (el.ks.length + 1) c7)) bx (L.set t { el with ks := ins el.ks j nx }) nx) ∧ Hid (Below w4.heap.size w4 (W.setCell ⟨ab, t * 5 + 3, none⟩ (.slice a7 (el.ks.length + 1) c7)))) := fun W a7 c7 hW hr hn => by
    have hk := (hLO.keep hW).kids ht (g := ab) rfl hr (fun x hx e => by have := hn x hx; omega) (fun x hx e => by have := hn x hx; omega)
    rw [← HEL.out] at hk
    exact ⟨⟨hbx, _, (Below.heap_setCell W ⟨ab, t * 5 + 3, none⟩ _ bx hne1).trans ((hW.block _ hdl).trans hd5), hk⟩, (HB5.out.trans (hW.mono HB5.out.size)).setCell (p := ⟨ab, t * 5 + 3, none⟩) hb4 _⟩
  have HATC : Hid (∀ W, Below w5.heap.size w5 W → Calls Tryz.prog 74 #[.pointer (some ⟨bx, 0, none⟩), .int .i64 p] W fun x w' => x = .returned (.int .i64 (t : Int)) ∧ (w'.cell? ⟨ab, t * 5 + 3, none⟩ = some (.slice s1.ka s1.kn s1.kc) ∧ w'.frozen? ⟨ab, t * 5 + 3, none⟩ = false) ∧ Below w5.heap.size w5 w' ∧ Hid (Below W.heap.size W w')) := fun W hW => by
    have := rat_any (HD5.out.keep hW) p
    rw [HAT.out] at this
    refine this.mono ?_
    rintro x w' ⟨rfl, hB⟩
    have hb := hW.trans (hB.mono hW.size)
    exact ⟨rfl, HRW.out _ hb, hb, hB⟩
  have HWI : Hid (∀ W, Below w5.heap.size w5 W → Calls Tryz.prog 105 #[.slice ka el.ks.length kc, .int .i64 (j : Int), .int .i64 nx] W fun x w' => ∃ a' c', x = .returned (.slice a' (el.ks.length + 1) c') ∧ (w'.cell? ⟨ab, t * 5 + 3, none⟩ = some (.slice s1.ka s1.kn s1.kc) ∧ w'.frozen? ⟨ab, t * 5 + 3, none⟩ = false) ∧ Hid (RowAt w' 1 a' (el.ks.length + 1) c' (intsV (ins el.ks j nx))) ∧ Hid (NewAt w5.heap.size a') ∧ Below w5.heap.size w5 w' ∧ Hid (Below W.heap.size W w')) := fun W hW => by
    refine (rwith_any (HR3.out.keep (HB35.out.trans (hW.mono HB35.out.size))) (by omega) j hj nx).mono ?_
    rintro x w' ⟨a', c', rfl, q1, q2, q3⟩
    have hb := hW.trans (q3.mono hW.size)
    exact ⟨a', c', rfl, HRW.out _ hb, q1, q2.mono hW.size, hb, q3⟩
  have HLO := hid_mk hLO
  have HXB : Hid (w4.heap.size ≤ bx) := hbx
  have HDL := hid_mk hdl
  have HGL := hid_mk hgl
  have HDD := hid_mk hd5
  clear hcp hB5 hLO hls hE1 r3 h1 hcur hbx hdl hgl hd5 hob hb4 hne1 hne2
  go_upto_region 11 with (fail)
  go_cut [] (fun wx => Hid (ROwn w4.heap.size wx bx (L.set t { el with ks := ins el.ks j nx }) nx) ∧ Hid (Below w4.heap.size w4 wx))
  case first =>
    have gd : Below w5.heap.size w5 w5.drew := (Below.refl _ _).drew
    have hRd := HRW.out _ gd
    go_region_held3 (fun w' => w'.cell? ⟨bx, 0, none⟩ = some (.slice (some ⟨ab, 0, none⟩) L.length vc) ∧ w'.cell? ⟨bx, 1, none⟩ = some (.int .i64 nx) ∧ w'.cell? ⟨w2.heap.size, 3, none⟩ = some (.slice ka el.ks.length kc))
      (first | with_reducible exact HF.out _ gd | with_reducible exact HF.out _ ga | with_reducible exact HF.out _ gw | with_reducible exact HF.out _ gwa | with_reducible exact HF.out _ gaw | with_reducible exact HFS.out _ _ gaw | with_reducible exact HFS.out _ _ gwa)
      (first
        | (go_at_call 74; with_reducible refine (HATC.out _ gd).mono ?_; rintro e wa ⟨rfl, ⟨i1, i2⟩, ga, HQa⟩)
        | (go_at_call 105; with_reducible refine (HWI.out _ ga).mono ?_; rintro e waw ⟨a7, c7, rfl, ⟨i3, i4⟩, HR7, HN7, gaw, HQ⟩)
        | (go_at_call 105; with_reducible refine (HWI.out _ gd).mono ?_; rintro e ww ⟨a7, c7, rfl, ⟨i1, i2⟩, HR7, HN7, gw, HQ⟩)
        | (go_at_call 74; with_reducible refine (HATC.out _ gw).mono ?_; rintro e wwa ⟨rfl, ⟨i3, i4⟩, gwa, HQa⟩))
    all_goals
      go_wp2_with fail
      go_meet
      first
        | exact HFIN.out _ _ _ gaw HR7.out HN7.out
        | exact HFIN.out _ _ _ gwa (HR7.out.keep HQa.out) HN7.out
  case rest =>
  obtain ⟨HOc, HBc⟩ := hcut
  have HLN : Hid ((L.set t { el with ks := ins el.ks j nx }).length = L.length) := List.length_set
  have hL1 : (L.set t { el with ks := ins el.ks j nx }).length ≤ 100000 := by rw [HLN.out]; omega
  generalize hG : L.set t { el with ks := ins el.ks j nx } = L1 at *
  have HG := hid_mk hG
  clear hG HO5 HB5 HB35 HD5 HF HRW HFS HFIN HATC HWI HLO HXB HDL HGL HDD HR3 HN3 HC4 HLN hj hkl h2 h3 hcap
  obtain ⟨i5, z5, hi0, hz0, hz1, hz2, hz3⟩ := info52r
  obtain ⟨hbx, v, hdc, hLO⟩ := HOc.out
  obtain ⟨va, vc', rfl, _⟩ := hLO.ls
  obtain ⟨X, hX⟩ : ∃ X, X = Obj.cells #[.int .i64 nx, .string tag, .int .i64 p, .slice none 0 0, .slice none 0 0] 76 := ⟨_, rfl⟩
  have hBX : Below wc.heap.size wc ((wc.alloc X).drew) := ((Below.refl _ _).alloc (Nat.le_refl _) _).drew
  have hsz : w4.heap.size ≤ wc.heap.size := HBc.out.size
  have hsrc : RowAt ((wc.alloc X).drew) 5 (some ⟨wc.heap.size, 0, none⟩) 1 1 (c5 ⟨nx, tag, p, none, 0, 0, none, 0, 0⟩) := by rw [hX]; exact row5 (t := 76) (s := ⟨nx, tag, p, none, 0, 0, none, 0, 0⟩) (heap_alloc_last wc _)
  have hdl : bx < wc.heap.size := (Array.getElem?_eq_some_iff.1 hdc).1
  have hdX := (hBX.block _ hdl).trans hdc
  obtain ⟨ss, hown, hsl, hx3, hx4, hob⟩ := hLO.keep hBX
  have hBs : w4.heap.size ≤ ((wc.alloc X).drew).heap.size := Nat.le_trans hsz hBX.size
  have hdXl : bx < ((wc.alloc X).drew).heap.size := Nat.lt_of_lt_of_le hdl hBX.size
  have HGB : Hid (∀ w7, ((wc.alloc X).drew).grownBy w7 (Value.slice va L1.length vc').ownBlock → w7.heap[bx]? = some (.cells #[.slice va L1.length vc', .int .i64 nx] 126 (0, 0)) ∧ w7.cell? ⟨bx, 0, none⟩ = some (.slice va L1.length vc') ∧ w7.frozen? ⟨bx, 0, none⟩ = false) := fun w7 hg => by
    have h7 := (hg.block _ hdXl (fun e => hob e.symm)).trans hdX
    exact ⟨h7, by simp [World.cell?, h7], by simp [World.frozen?, h7]⟩
  have HEND : Hid (∀ w7 a7 e7, ((wc.alloc X).drew).grownBy w7 (Value.slice va L1.length vc').ownBlock → w7.ownsRow w4.heap.size 76 5 (.slice a7 (L1.length + 1) e7) (L1.length + 1) (ss.flatMap c5 ++ c5 ⟨nx, tag, p, none, 0, 0, none, 0, 0⟩) → ((Value.slice a7 (L1.length + 1) e7).ownBlock = (Value.slice va L1.length vc').ownBlock ∨ (Value.slice a7 (L1.length + 1) e7).ownBlock = some ((wc.alloc X).drew).heap.size) → Hid (ROwn w4.heap.size (w7.setCell ⟨bx, 0, none⟩ (.slice a7 (L1.length + 1) e7)) bx (L1 ++ [⟨nx, tag, p, [], []⟩]) nx) ∧ Hid (Below w4.heap.size w4 (w7.setCell ⟨bx, 0, none⟩ (.slice a7 (L1.length + 1) e7)))) := fun w7 a7 e7 hg ho ha => by
    have hB7 : Below w4.heap.size w4 w7 := (HBc.out.trans (hBX.mono hsz)).grown hg (HBc.out.trans (hBX.mono hsz)).size (fun k hk => (hown.lt k hk).1)
    have hA7 : LOwn w4.heap.size w7 bx (.slice a7 (L1.length + 1) e7) (L1 ++ [⟨nx, tag, p, [], []⟩]) := LOwn.add hsl hx3 hx4 hob ⟨rfl, rfl, rfl, RowAt.nil _ 1, RowAt.nil _ 2⟩ ⟨(fun x e => by cases e), (fun x e => by cases e)⟩ (fun g _ => ⟨(fun x e => by cases e), (fun x e => by cases e)⟩) ho hg ha hdXl
    exact ⟨hA7.store hbx (HGB.out w7 hg).1, hB7.setCell (p := ⟨bx, 0, none⟩) hbx _⟩
  have c0 : wc.cell? ⟨bx, 0, none⟩ = some (.slice va L1.length vc') := by simp [World.cell?, hdc]
  have c1 : wc.cell? ⟨bx, 1, none⟩ = some (.int .i64 nx) := by simp [World.cell?, hdc]
  have cX0 : ((wc.alloc X).drew).cell? ⟨bx, 0, none⟩ = some (.slice va L1.length vc') := by simp [World.cell?, hdX]
  have cX1 : ((wc.alloc X).drew).cell? ⟨bx, 1, none⟩ = some (.int .i64 nx) := by simp [World.cell?, hdX]
  rw [hX] at hown hsrc hBs HGB HEND cX0 cX1
  clear hLO hdc hdX hdXl hBX hsl hx3 hx4 hob hX HOc hsz
  go_upto_region 12 with (fail)
  go_cut [] (fun wx => Hid (ROwn w4.heap.size wx bx (L1 ++ [⟨nx, tag, p, [], []⟩]) nx) ∧ Hid (Below w4.heap.size w4 wx))
  case first =>
    go_region_law (refine step_append_rowAt (by rfl) _ _ 124 (by rfl) (B := w4.heap.size) Tryz.underlying124 hi0 hz0 hz1 hz2 hz3 (by decide) (by decide) (by rfl) (by rfl) hown hsrc (by omega) hBs ?_; intro v7 w7 hown7 hgr7 hat7; have HG7 := hid_mk hgr7; have HA7 := hid_mk hat7; obtain ⟨hd7, c7, f7⟩ := HGB.out w7 hgr7; obtain ⟨a7, e7, rfl⟩ := own_slice hown7; have HO7 := hid_mk hown7; clear hgr7 hown7 hat7 hd7)
    all_goals
      go_wp2_with fail
      go_meet
      exact HEND.out _ _ _ HG7.out HO7.out HA7.out
  case rest =>
  obtain ⟨HOd, HBd⟩ := hcut
  clear c0 c1 cX0 cX1 hown hsrc hBs HGB HEND hi0 hz0 hz1 hz2 hz3
  obtain ⟨_, v9, hd9, _⟩ := HOd.out
  have d1 : wc.cell? ⟨bx, 1, none⟩ = some (.int .i64 nx) := by simp [World.cell?, hd9]
  have f1 : wc.frozen? ⟨bx, 1, none⟩ = false := by simp [World.frozen?, hd9]
  have HO9 := hid_mk (HOd.out.next (nx + 1))
  have HB9 := hid_mk (HBd.out.setCell (p := ⟨bx, 1, none⟩) hbx (.int .i64 (nx + 1)))
  clear hd9
  go_upto_region 14 with (fail)
  generalize wc.setCell ⟨bx, 1, none⟩ (.int .i64 (nx + 1)) = W9 at *
  have HBW : Hid (Below w.heap.size w W9) := HB4.out.trans (HB9.out.mono HB4.out.size)
  have y1 := HCN.out W9 HBW.out
  have HDC := hid_mk (HO9.out.doc.keep (show Below W9.heap.size W9 W9.drew from (Below.refl _ _).drew))
  have HEQ : Hid (L1 = L.set t { L[t] with ks := ins L[t].ks j nx }) := by rw [Hid, ← HG.out, HEL.out]
  rw [HEQ.out] at HDC
  clear d1 f1 HO9 HOd HBd HB9
  go_quiet (fail)
  go_wp2
  refine bodyPost_ret (v := .tuple #[.pointer (some ⟨bx, 0, none⟩), .int .i64 nx, .int .i64 0]) (by simp [results, Tryz.results64, go_sem]) rfl ⟨bx, rfl, HDC.out, ⟨HBW.out.os, HBW.out.tape, HBW.out.output, HBW.out.size, HBW.out.block⟩⟩

end Go.Proofs.YtdiljkmlneeboaaGreat.N
