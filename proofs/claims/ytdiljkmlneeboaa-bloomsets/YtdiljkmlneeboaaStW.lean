/- BloomSets: the walk. -/
import Derived.Test.YtdiljkmlneeboaaOpn
namespace Go.Proofs.Ytdiljkmlneeboaa
open Go.RowKit
set_option maxRecDepth 100000

theorem FAt.other {w : World} {b c : Nat} {t : TypeId} {f : Flt} (h : FAt w b t f) (hn : b ≠ c) (r : Flt) : FAt (put4 w c r) b t f := by
  unfold FAt put4
  rw [Below.heap_setCell _ _ _ _ hn, Below.heap_setCell _ _ _ _ hn, Below.heap_setCell _ _ _ _ hn, Below.heap_setCell _ _ _ _ hn]
  exact h

set_option maxHeartbeats 4000000 in
theorem sets_walk {W : World} {v : Value} {ks : List Nat} (hp : KsAt W v ks) : Calls Try.prog 5 #[v] W fun e w' => e = .returned (.bool true) ∧ Below W.heap.size W w' := by
  have HLV := hid_mk lives_any
  obtain ⟨a, c, rfl, hc, hm, hel⟩ := hp
  unfold maxLen at hm
  by_cases h5 : 500 < ks.length
  · have hd : decide ((500 : Int) < (ks.length : Int)) = true := decide_eq_true (by omega)
    clear hel
    go_enter Try.func5, Try.ntmps5
    go_wp2_with (go_at_call 6; fail)
    refine (HLV.out W).mono ?_
    rintro e w1 ⟨rfl, hB1⟩
    go_wp2
    go_ret
    exact ⟨rfl, hB1⟩
  · have hd : decide ((500 : Int) < (ks.length : Int)) = false := decide_eq_false (by omega)
    have hl5 : ks.length ≤ 500 := by omega
    have HE : Hid (∀ w', Below W.heap.size W w' → ∀ t (h : t < ks.length), ∃ b off, a = some ⟨b, off, none⟩ ∧ ks[t] < 4294967296 ∧ w'.cell? ⟨b, off + t, none⟩ = some (.int .u32 (ks[t] : Nat))) := fun w' hw' t h => by
      obtain ⟨b, off, e1, e2, e3, e4⟩ := hel t h
      exact ⟨b, off, e1, e3, (hw'.cell (p := ⟨b, off + t, none⟩) e2).trans e4⟩
    obtain ⟨W0, hW0⟩ : ∃ W0, W0 = (W.alloc (.cells #[.int .u64 0, .int .u64 0, .int .u64 0, .int .u64 0] 27)).alloc (.cells #[.int .u64 0, .int .u64 0, .int .u64 0, .int .u64 0] 27) := ⟨_, rfl⟩
    have hB0 : Below W.heap.size W W0 := by rw [hW0]; exact ((Below.refl _ _).alloc (Nat.le_refl _) _).alloc (by simp) _
    have hF0 : FAt W0 W.heap.size 27 fz := by
      rw [hW0]
      unfold FAt
      rw [Below.heap_alloc _ _ _ (by simp)]
      exact heap_alloc_last W _
    have hG0 : FAt W0 (W.heap.size + 1) 27 fz := by rw [hW0]; exact alloc_at _ _ _ (by simp)
    have HB0 := hid_mk hB0
    have HF0 := hid_mk hF0
    have HG0 := hid_mk hG0
    have HW0 := hid_mk hW0
    clear hel hB0 hF0 hG0 hW0 h5
    go_enter Try.func5, Try.ntmps5
    go_upto_region 4 with (fail)
    rw [← HW0.out]
    clear HW0
    go_wp2
    go_loopw [14] (fun a14 wq => ∃ t : Nat, t ≤ ks.length ∧ a14 = .int .i64 (t : Int) ∧ Hid (FAt wq W.heap.size 27 (addAll fz (ks.take t))) ∧ Hid (FAt wq (W.heap.size + 1) 27 (addAll fz (ks.reverse.take t))) ∧ Hid (Below W.heap.size W wq)) (fun a14 _ => ks.length + 1 - (intOf a14).toNat)
    case atStart => exact ⟨0, Nat.zero_le _, rfl, HF0, HG0, HB0⟩
    case round =>
      obtain ⟨t, ht, rfl, HF, HG, HB⟩ := hrel
      by_cases htl : t < ks.length
      · obtain ⟨b, off, rfl, hk1, q1⟩ := HE.out wr HB.out t htl
        have hlast : ks.length - 1 - t < ks.length := by omega
        obtain ⟨b', off', e', hk2, q2⟩ := HE.out wr HB.out (ks.length - 1 - t) hlast
        obtain ⟨rfl, rfl⟩ : b = b' ∧ off = off' := by simpa using e'
        have hh := has_any fz fz_ok ks[t] hk1 wr
        rw [add_ne] at hh
        unfold fz Flt.v at hh
        have HNF : Hid (addAll fz (ks.take (t + 1)) = (addAll fz (ks.take t)).add ks[t]) := by
          rw [Hid, List.take_add_one, List.getElem?_eq_getElem htl, Option.toList_some, addAll_app]
        have HNG : Hid (addAll fz (ks.reverse.take (t + 1)) = (addAll fz (ks.reverse.take t)).add ks[ks.length - 1 - t]) := by
          have hr : t < ks.reverse.length := by rw [List.length_reverse]; exact htl
          rw [Hid, List.take_add_one, List.getElem?_eq_getElem hr, Option.toList_some, addAll_app, List.getElem_reverse]
        have hfo := ok_addAll (ks.take t) fz_ok
        have hgo := ok_addAll (ks.reverse.take t) fz_ok
        generalize addAll fz (ks.take t) = f at *
        generalize addAll fz (ks.reverse.take t) = g at *
        obtain ⟨k1, hkk1⟩ : ∃ k1, k1 = ks[t] := ⟨_, rfl⟩
        obtain ⟨k2, hkk2⟩ : ∃ k2, k2 = ks[ks.length - 1 - t] := ⟨_, rfl⟩
        have HK1 := hid_mk hkk1
        have HK2 := hid_mk hkk2
        rw [← hkk1] at hh q1 hk1 HNF
        rw [← hkk2] at q2 hk2 HNG
        clear hkk1 hkk2
        clear e'
        go_wp2_with (go_at_call 11; fail)
        refine hh.mono ?_
        rintro e w1 ⟨rfl, hB1⟩
        clear hh
        have HF1 := hid_mk (HF.out.keep hB1)
        have HG1 := hid_mk (HG.out.keep hB1)
        have HB1 := hid_mk (HB.out.trans (hB1.mono HB.out.size))
        have r1 : w1.cell? ⟨b, off + t, none⟩ = some (.int .u32 (k1 : Nat)) := by
          obtain ⟨b2, off2, e2, _, e4⟩ := HE.out w1 HB1.out t htl
          obtain ⟨rfl, rfl⟩ : b = b2 ∧ off = off2 := by simpa using e2
          rw [e4, HK1.out]
        obtain ⟨j, hj⟩ : ∃ j, j = ks.length - 1 - t := ⟨_, rfl⟩
        have hw1 : IntKind.i64.wrap ((ks.length : Int) - 1) = (ks.length : Int) - 1 := by rw [IntKind.wrap_i64]; omega
        have hw2 : IntKind.i64.wrap ((ks.length : Int) - 1 - (t : Int)) = (j : Int) := by rw [IntKind.wrap_i64]; omega
        have HJ : Hid (∀ w', Below W.heap.size W w' → w'.cell? ⟨b, off + j, none⟩ = some (.int .u32 (k2 : Nat))) := fun w' hw' => by
          obtain ⟨b2, off2, e2, _, e4⟩ := HE.out w' hw' (ks.length - 1 - t) hlast
          obtain ⟨rfl, rfl⟩ : b = b2 ∧ off = off2 := by simpa using e2
          rw [hj, e4, HK2.out]
        have hjl : j < ks.length := by omega
        clear hB1 HF HG HB q1 q2 hj HK1 HK2 hlast
        go_upto_region 9 with (fail)
        obtain ⟨f2, hf2⟩ : ∃ f2, f2 = f.add k1 := ⟨_, rfl⟩
        have Hf2 := hid_mk hf2
        clear hf2
        go_cut [] (fun wx => Hid (FAt wx W.heap.size 27 f2) ∧ Hid (FAt wx (W.heap.size + 1) 27 g) ∧ Hid (Below W.heap.size W wx))
        case first =>
          have hbx : W.heap.size ≠ (W.heap.size + 1) := by omega
          have HA : Hid (∀ w', Below w1.heap.size w1 w' → Calls Try.prog 8 #[.agg #[.int .u64 (f.a : Int), .int .u64 (f.b : Int), .int .u64 (f.c : Int), .int .u64 (f.d : Int)], .int .u32 (k1 : Nat)] w' fun e w'' => e = .returned (.agg #[.int .u64 (f2.a : Int), .int .u64 (f2.b : Int), .int .u64 (f2.c : Int), .int .u64 (f2.d : Int)]) ∧ (w''.cell? ⟨W.heap.size, 0, none⟩ = some (.int .u64 (f.a : Int)) ∧ w''.cell? ⟨W.heap.size, 1, none⟩ = some (.int .u64 (f.b : Int)) ∧ w''.cell? ⟨W.heap.size, 2, none⟩ = some (.int .u64 (f.c : Int)) ∧ w''.cell? ⟨W.heap.size, 3, none⟩ = some (.int .u64 (f.d : Int))) ∧ (w''.frozen? ⟨W.heap.size, 0, none⟩ = false ∧ w''.frozen? ⟨W.heap.size, 1, none⟩ = false ∧ w''.frozen? ⟨W.heap.size, 2, none⟩ = false ∧ w''.frozen? ⟨W.heap.size, 3, none⟩ = false) ∧ Hid (FAt w'' W.heap.size 27 f) ∧ Hid (FAt w'' (W.heap.size + 1) 27 g) ∧ Hid (Below W.heap.size W w'')) := fun w' hw' => (add_any f hfo k1 hk1 w').mono fun e w'' h => by
            have h1 := (HF1.out.keep hw').keep h.2
            have h2 := (HG1.out.keep hw').keep h.2
            exact ⟨by rw [Hf2.out]; exact h.1, h1.cells.1, h1.cells.2, h1, h2, (HB1.out.trans (hw'.mono HB1.out.size)).trans (h.2.mono (Nat.le_trans HB1.out.size hw'.size))⟩
          have gd : Below w1.heap.size w1 w1.drew := (Below.refl _ _).drew
          have ha := HA.out _ gd
          obtain ⟨⟨x0, x1, x2, x3⟩, y0, y1, y2, y3⟩ := HF1.out.cells
          have HFI : Hid (∀ V : World, FAt V W.heap.size 27 f → FAt V (W.heap.size + 1) 27 g → Below W.heap.size W V → FAt (put4 V W.heap.size f2) W.heap.size 27 f2 ∧ FAt (put4 V W.heap.size f2) (W.heap.size + 1) 27 g ∧ Below W.heap.size W (put4 V W.heap.size f2)) := fun V h1 h2 h3 => ⟨h1.put f2, h2.other (by omega) f2, put4_below h3 (by omega) f2⟩
          clear HA gd HE HJ HNF HNG Hf2 hbx HF1 HG1 HB1 HLV
          go_region_with (go_at_call 8; refine ha.mono ?_; rintro e w5 ⟨rfl, ⟨z0, z1, z2, z3⟩, ⟨u0, u1, u2, u3⟩, p1, p2, p3⟩)
          all_goals
            have hfin := HFI.out w5 p1.out p2.out p3.out
            unfold put4 at hfin
            go_wp2_with fail
            go_meet
            exact ⟨hfin.1, hfin.2.1, hfin.2.2⟩
        case rest =>
        obtain ⟨HF1', HG1', HB1'⟩ := hcut
        clear HF1 HG1 HB1 r1
        have r2 := HJ.out wc HB1'.out
        obtain ⟨w2, hw2⟩ : ∃ w2, w2 = wc := ⟨_, rfl⟩
        rw [← hw2] at HF1' HG1' HB1' r2 ⊢
        clear hw2
        go_upto_region 10 with (fail)
        obtain ⟨g2, hg2⟩ : ∃ g2, g2 = g.add k2 := ⟨_, rfl⟩
        have Hg2 := hid_mk hg2
        clear hg2
        have HA : Hid (∀ w', Below w2.heap.size w2 w' → Calls Try.prog 8 #[.agg #[.int .u64 (g.a : Int), .int .u64 (g.b : Int), .int .u64 (g.c : Int), .int .u64 (g.d : Int)], .int .u32 (k2 : Nat)] w' fun e w'' => e = .returned (.agg #[.int .u64 (g2.a : Int), .int .u64 (g2.b : Int), .int .u64 (g2.c : Int), .int .u64 (g2.d : Int)]) ∧ (w''.cell? ⟨(W.heap.size + 1), 0, none⟩ = some (.int .u64 (g.a : Int)) ∧ w''.cell? ⟨(W.heap.size + 1), 1, none⟩ = some (.int .u64 (g.b : Int)) ∧ w''.cell? ⟨(W.heap.size + 1), 2, none⟩ = some (.int .u64 (g.c : Int)) ∧ w''.cell? ⟨(W.heap.size + 1), 3, none⟩ = some (.int .u64 (g.d : Int))) ∧ (w''.frozen? ⟨(W.heap.size + 1), 0, none⟩ = false ∧ w''.frozen? ⟨(W.heap.size + 1), 1, none⟩ = false ∧ w''.frozen? ⟨(W.heap.size + 1), 2, none⟩ = false ∧ w''.frozen? ⟨(W.heap.size + 1), 3, none⟩ = false) ∧ Hid (FAt w'' (W.heap.size + 1) 27 g) ∧ Hid (FAt w'' W.heap.size 27 f2) ∧ Hid (Below W.heap.size W w'')) := fun w' hw' => (add_any g hgo k2 hk2 w').mono fun e w'' h => by
          have h1 := (HG1'.out.keep hw').keep h.2
          have h2 := (HF1'.out.keep hw').keep h.2
          exact ⟨by rw [Hg2.out]; exact h.1, h1.cells.1, h1.cells.2, h1, h2, (HB1'.out.trans (hw'.mono HB1'.out.size)).trans (h.2.mono (Nat.le_trans HB1'.out.size hw'.size))⟩
        have gd : Below w2.heap.size w2 w2.drew := (Below.refl _ _).drew
        have ha := HA.out _ gd
        obtain ⟨⟨x0, x1, x2, x3⟩, y0, y1, y2, y3⟩ := HG1'.out.cells
        have HFI : Hid (∀ V : World, FAt V (W.heap.size + 1) 27 g → FAt V W.heap.size 27 f2 → Below W.heap.size W V → FAt (put4 V (W.heap.size + 1) g2) (W.heap.size + 1) 27 g2 ∧ FAt (put4 V (W.heap.size + 1) g2) W.heap.size 27 f2 ∧ Below W.heap.size W (put4 V (W.heap.size + 1) g2)) := fun V h1 h2 h3 => ⟨h1.put g2, h2.other (by omega) g2, put4_below h3 (by omega) g2⟩
        have HEND : Hid (∀ V : World, Hid (FAt V W.heap.size 27 f2) → Hid (FAt V (W.heap.size + 1) 27 g2) → Hid (FAt V W.heap.size 27 (addAll fz (ks.take (t + 1)))) ∧ Hid (FAt V (W.heap.size + 1) 27 (addAll fz (ks.reverse.take (t + 1))))) := fun V h1 h2 => ⟨by rw [HNF.out, ← Hf2.out]; exact h1, by rw [HNG.out, ← Hg2.out]; exact h2⟩
        clear HA gd HE HJ HNF HNG Hg2 Hf2 HF1' HG1' HB1' HLV
        go_region_with (go_at_call 8; refine ha.mono ?_; rintro e w5 ⟨rfl, ⟨z0, z1, z2, z3⟩, ⟨u0, u1, u2, u3⟩, p1, p2, p3⟩)
        all_goals
          have hfin := HFI.out w5 p1.out p2.out p3.out
          have hend := HEND.out _ hfin.2.1 hfin.1
          have HV := hid_mk hfin.2.2
          unfold put4 at hend HV
          have HE1 := hid_mk hend
          clear hfin hend HFI HEND ha p1 p2 p3 x0 x1 x2 x3 y0 y1 y2 y3 z0 z1 z2 z3 u0 u1 u2 u3 r2
          go_wp2
          exact ⟨⟨t + 1, htl, by go_num, HE1.out.1, HE1.out.2, HV⟩, by simp only [intOf]; omega⟩
      · obtain rfl : t = ks.length := by omega
        have HF1 : Hid (FAt wr W.heap.size 27 (addAll fz ks)) := by have h := HF.out; rw [List.take_length] at h; exact h
        have HG1 : Hid (FAt wr (W.heap.size + 1) 27 (addAll fz ks)) := by
          have h := HG.out
          rw [← List.length_reverse, List.take_length, addAll_rev] at h
          exact h
        have HMM : Hid (∀ t (h : t < ks.length), (addAll fz ks).add ks[t] = addAll fz ks) := fun t h => addAll_mem fz (List.getElem_mem h)
        have hfo := ok_addAll ks fz_ok
        generalize addAll fz ks = f at *
        clear HF HG HF0 HG0 HB0
        go_wp2
        go_loopw [42] (fun a42 wq => ∃ t : Nat, t ≤ ks.length ∧ a42 = .int .i64 (t : Int) ∧ Hid (FAt wq W.heap.size 27 f) ∧ Hid (FAt wq (W.heap.size + 1) 27 f) ∧ Hid (Below W.heap.size W wq)) (fun a42 _ => ks.length + 1 - (intOf a42).toNat)
        case atStart => exact ⟨0, Nat.zero_le _, rfl, HF1, HG1, HB⟩
        case round =>
          obtain ⟨t, ht, rfl, HF, HG, HBr⟩ := hrel
          have HE27 : Hid (∀ V : World, (Op.equalIn 10000 27 (.agg #[.int .u64 (f.a : Int), .int .u64 (f.b : Int), .int .u64 (f.c : Int), .int .u64 (f.d : Int)]) (.agg #[.int .u64 (f.a : Int), .int .u64 (f.b : Int), .int .u64 (f.c : Int), .int .u64 (f.d : Int)])).run Try.prog V = .ok true V) := fun V => by
            have h := flt_eq V f f
            rw [eqb_self] at h
            exact h
          by_cases htl : t < ks.length
          · obtain ⟨b, off, rfl, hk1, q1⟩ := HE.out wr HBr.out t htl
            have hhas := has_any f hfo ks[t] hk1
            have hadd := add_any f hfo ks[t] hk1
            rw [HMM.out t htl] at hhas hadd
            rw [eqb_self] at hhas
            unfold Flt.v at hhas hadd
            have HS : Hid (∀ w', Below wr.heap.size wr w' → (w'.cell? ⟨W.heap.size, 0, none⟩ = some (.int .u64 (f.a : Int)) ∧ w'.cell? ⟨W.heap.size, 1, none⟩ = some (.int .u64 (f.b : Int)) ∧ w'.cell? ⟨W.heap.size, 2, none⟩ = some (.int .u64 (f.c : Int)) ∧ w'.cell? ⟨W.heap.size, 3, none⟩ = some (.int .u64 (f.d : Int)))) := fun w' hw' => (HF.out.keep hw').cells.1
            have gd : Below wr.heap.size wr wr.drew := (Below.refl _ _).drew
            have H11 : Hid (∀ w', Below wr.heap.size wr w' → Calls Try.prog 11 #[.agg #[.int .u64 (f.a : Int), .int .u64 (f.b : Int), .int .u64 (f.c : Int), .int .u64 (f.d : Int)], .int .u32 (ks[t] : Nat)] w' fun e w'' => e = .returned (.bool true) ∧ Below wr.heap.size wr w'') := fun w' hw' => (hhas w').mono fun e w'' h => ⟨h.1, hw'.trans (h.2.mono hw'.size)⟩
            have H8 : Hid (∀ w', Below wr.heap.size wr w' → Calls Try.prog 8 #[.agg #[.int .u64 (f.a : Int), .int .u64 (f.b : Int), .int .u64 (f.c : Int), .int .u64 (f.d : Int)], .int .u32 (ks[t] : Nat)] w' fun e w'' => e = .returned (.agg #[.int .u64 (f.a : Int), .int .u64 (f.b : Int), .int .u64 (f.c : Int), .int .u64 (f.d : Int)]) ∧ Below wr.heap.size wr w'') := fun w' hw' => (hadd w').mono fun e w'' h => ⟨h.1, hw'.trans (h.2.mono hw'.size)⟩
            have HFIN : Hid (∀ w', Below wr.heap.size wr w' → Hid (FAt w' W.heap.size 27 f) ∧ Hid (FAt w' (W.heap.size + 1) 27 f) ∧ Hid (Below W.heap.size W w')) := fun w' hw' => ⟨HF.out.keep hw', HG.out.keep hw', HBr.out.trans (hw'.mono HBr.out.size)⟩
            have hE := HE27.out
            clear HE HMM HF HG HBr hhas hadd HF1 HG1 HB HLV HE27
            generalize ((ks[t] : Nat) : Int) = kk at *
            go_upto_region 15 with (fail)
            go_region_held3 (fun w' => (w'.cell? ⟨W.heap.size, 0, none⟩ = some (.int .u64 (f.a : Int)) ∧ w'.cell? ⟨W.heap.size, 1, none⟩ = some (.int .u64 (f.b : Int)) ∧ w'.cell? ⟨W.heap.size, 2, none⟩ = some (.int .u64 (f.c : Int)) ∧ w'.cell? ⟨W.heap.size, 3, none⟩ = some (.int .u64 (f.d : Int))))
              (first | with_reducible exact HS.out _ gd | with_reducible exact HS.out _ ga | with_reducible exact HS.out _ gb)
              (first
                | (go_at_call 11; with_reducible refine (H11.out _ gd).mono ?_; rintro e wa ⟨rfl, ga⟩)
                | (go_at_call 8; with_reducible refine (H8.out _ ga).mono ?_; rintro e wb ⟨rfl, gb⟩))
            have HZ := hid_mk (HFIN.out _ gb)
            clear gd ga gb HS H11 H8 HFIN hE
            go_wp2
            exact ⟨⟨t + 1, htl, by go_num, HZ.out.1, HZ.out.2.1, HZ.out.2.2⟩, by simp only [intOf]; omega⟩
          · obtain rfl : t = ks.length := by omega
            obtain ⟨x0, x1, x2, x3⟩ := HF.out.cells.1
            obtain ⟨y0, y1, y2, y3⟩ := HG.out.cells.1
            have hE := HE27.out
            clear HE HMM HF HG HF1 HG1 HB HE27
            go_wp2_with (go_at_call 6; fail)
            refine (HLV.out wr).mono ?_
            rintro e w6 ⟨rfl, hB6⟩
            clear x0 x1 x2 x3 y0 y1 y2 y3 hE
            go_wp2
            go_ret
            exact ⟨rfl, HBr.out.trans (hB6.mono HBr.out.size)⟩
end Go.Proofs.Ytdiljkmlneeboaa
