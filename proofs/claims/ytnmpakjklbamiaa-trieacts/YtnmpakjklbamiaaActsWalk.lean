/- TrieActs: the walk. -/
import Derived.Test.YtnmpakjklbamiaaActs
import Derived.Test.YtnmpakjklbamiaaArgs
namespace Go.Proofs.Ytnmpakjklbamiaa
open Go.RowKit S
set_option maxRecDepth 100000

theorem got_pair (G : Option ByteArray) : ((G.map Value.string).getD (.string ByteArray.empty)) = .string (G.getD ⟨#[]⟩) ∧ (G.map Value.string).isSome = G.isSome := by
  cases G <;> exact ⟨rfl, rfl⟩
theorem cells3 {W : World} {b : Nat} {x y z : Value} (h : W.heap[b]? = some (.cells #[x, y, z] 29 (0, 0))) : W.cell? ⟨b, 0, none⟩ = some x ∧ W.cell? ⟨b, 1, none⟩ = some y ∧ W.cell? ⟨b, 2, none⟩ = some z := by
  refine ⟨?_, ?_, ?_⟩ <;> simp [World.cell?, h]
set_option maxHeartbeats 8000000 in
theorem acts_walk {W : World} {v : Value} {xs : List Act3} (hp : ActsAt W v xs) (ask stop : Int) : Calls Try.prog 3 #[v, .int .i64 ask, .int .i64 stop] W fun e w' => e = .returned (.bool true) ∧ Below W.heap.size W w' := by
  have hlight := light_any hp
  have hlives := fun w' => lives_any w'
  have HLV := hid_mk hlives
  have hnew := fun w' => S.new_any w'
  have HNEW := hid_mk hnew
  obtain ⟨a, cap, rfl, hcap, hmax, hx⟩ := hp
  have HX := hid_mk hx
  clear hx hlives hnew
  go_enter Try.func3, Try.ntmps3
  go_wp2_with (go_at_call 8; fail)
  refine hlight.mono ?_
  rintro e w1 ⟨lb, rfl, hB1⟩
  clear hlight
  cases lb with
  | false =>
    go_wp2_with (go_at_call 9; refine (HLV.out _).mono ?_; rintro e w2 ⟨rfl, hB2⟩)
    go_ret
    exact ⟨rfl, hB1.trans (hB2.mono hB1.size)⟩
  | true =>
    go_wp2_with (go_at_call 10; refine (HNEW.out _).mono ?_; rintro e w2 ⟨b2, b0, rfl, _, _, hT2, hB2⟩)
    have HT2 := hid_mk hT2
    have HB2 := hid_mk (hB1.trans (hB2.mono hB1.size))
    clear hT2 hB1 hB2 HNEW
    go_loopw [7, 8, 23] (fun a7 a8 a23 wr => ∃ (i : Nat) (t : T) (l : List Pr), i ≤ xs.length ∧ S.At wr a7 t ∧ Lk t l ∧ PsAt wr a8 l ∧ a23 = .int .i64 (i : Int) ∧ Below W.heap.size W wr) (fun _ _ a23 _ => xs.length + 1 - (intOf a23).toNat)
    case atStart => exact ⟨0, newT b0, [], Nat.zero_le _, HT2.out, Lk.new b0, PsAt.nil _, rfl, HB2.out⟩
    case round =>
      obtain ⟨i, t, l, hi, hT, hL, hP, rfl, hB⟩ := hrel
      obtain ⟨bt, rfl⟩ := root_ptr hT hL.root
      have HT := hid_mk hT
      have HL := hid_mk hL
      have HP := hid_mk hP
      have HB := hid_mk hB
      clear hT hL hP hB HT2 HB2
      by_cases hlt : i < xs.length
      · obtain ⟨b, off, rfl, hblt, hc⟩ := HX.out (by omega)
        obtain ⟨h0, h1, h2, hsz⟩ := hc i hlt
        have c0 := (HB.out.cell (p := ⟨b, off + i * 3, none⟩) hblt).trans h0
        have c1 := (HB.out.cell (p := ⟨b, off + i * 3 + 1, none⟩) hblt).trans h1
        have c2 := (HB.out.cell (p := ⟨b, off + i * 3 + 2, none⟩) hblt).trans h2
        clear h0 h1 h2 hc HX hsz
        generalize xs[i].d = d at *
        generalize xs[i].n = n at *
        generalize xs[i].s = s at *
        obtain ⟨wA, hwA⟩ : ∃ wA, wA = wr.alloc (.cells #[.bool d, .int .i64 n, .string s] 29) := ⟨_, rfl⟩
        have hBA : Below wr.heap.size wr wA := by rw [hwA]; exact balloc (Below.refl _ _) _
        have hnA : wA.heap[wr.heap.size]? = some (.cells #[.bool d, .int .i64 n, .string s] 29) := by rw [hwA]; exact heap_alloc_last _ _
        have HNA : Hid (∀ w', Below wA.heap.size wA w' → w'.cell? ⟨wr.heap.size, 0, none⟩ = some (.bool d) ∧ w'.cell? ⟨wr.heap.size, 1, none⟩ = some (.int .i64 n) ∧ w'.cell? ⟨wr.heap.size, 2, none⟩ = some (.string s)) := fun w' hw' => cells3 ((hw'.block _ (Array.getElem?_eq_some_iff.1 hnA).1).trans hnA)
        have HWA := hid_mk hwA.symm
        have HTA := hid_mk (TrAt.keep HT.out hBA)
        have HPA := hid_mk (HP.out.keep hBA)
        have HBA := hid_mk (HB.out.trans (hBA.mono HB.out.size))
        have hshort := HL.out.short HT.out.wf
        clear hwA hBA hnA
        cases d with
        | true =>
          have hd := drop_c HTA.out n
          go_wp2_with (go_at_call 11; fail)
          rw [HWA.out]
          refine hd.mono ?_
          rintro e wC ⟨tpC, tC, rfl, hTC, hNC, hGC, hFC, _, _, hBC⟩
          have hLC := HL.out.drop (hNC HL.out.root) hGC
          have hr := rdrop_any (HPA.out.keep hBC) hshort n
          obtain ⟨d0, d1, d2⟩ := HNA.out wC hBC
          clear hd hNC hGC
          obtain ⟨bC, rfl⟩ := root_ptr hTC hLC.root
          go_wp2_with (go_at_call 12; fail)
          refine hr.mono ?_
          rintro e wD ⟨vD, rfl, hPD, hBD⟩
          clear hr d0 d1 d2
          have hTD := TrAt.keep hTC hBD
          have hBAD := hBC.trans (hBD.mono hBC.size)
          have hTtD := TrAt.keep HTA.out hBAD
          have q1 := get_c hTD ask
          rw [hLC.look ask] at q1
          obtain ⟨e1, e2⟩ := got_pair (lookZ (dropZ l n) ask)
          rw [e1, e2] at q1
          have Q2 : Hid (∀ w', Below wD.heap.size wD w' → _) := fun w' hw' => rget_any (hPD.keep hw') ask
          have Q3 : Hid (∀ w', Below wD.heap.size wD w' → _) := fun w' hw' => same_yes (TrAt.keep hTD hw') hLC (hPD.keep hw') stop
          have Q4 : Hid (∀ w', Below wD.heap.size wD w' → _) := fun w' hw' => tfresh_any (TrAt.keep hTtD hw') (TrAt.keep hTD hw')
          have Q5 : Hid (∀ w', Below wD.heap.size wD w' → _) := fun w' hw' => tfresh_any (TrAt.keep hTD hw') (TrAt.keep hTD hw')
          have Q6 := Q4
          rw [fresh_self] at Q5
          have HEND : Hid (∀ w', Below wD.heap.size wD w' → S.At w' (.pointer (some ⟨bC, 0, none⟩)) tC ∧ Lk tC ((dropZ l n)) ∧ PsAt w' vD ((dropZ l n)) ∧ Below W.heap.size W w' ∧ w'.cell? ⟨wr.heap.size, 0, none⟩ = some (.bool true) ∧ w'.cell? ⟨wr.heap.size, 1, none⟩ = some (.int .i64 n)) := fun w' hw' => ⟨TrAt.keep hTD hw', hLC, hPD.keep hw', HBA.out.trans ((hBAD.trans (hw'.mono hBAD.size)).mono HBA.out.size), (HNA.out w' (hBAD.trans (hw'.mono hBAD.size))).1, (HNA.out w' (hBAD.trans (hw'.mono hBAD.size))).2.1⟩
          generalize (lookZ (dropZ l n) ask).getD ⟨#[]⟩ = gs at *
          generalize (lookZ (dropZ l n) ask).isSome = gb at *
          generalize freshT tC t = F at *
          clear hTD hBAD hTtD hTC hBC hBD hPD hLC HTA HPA HBA HNA HT HL HP HB HWA hshort e1 e2
          go_wp2_with (first
            | (go_at_call 15; refine q1.mono ?_; clear q1; rintro e wE ⟨rfl, hBE⟩)
            | (go_at_call 16; refine (Q2.out _ hBE).mono ?_; clear Q2; rintro e wF ⟨rfl, hBF'⟩; have hBF := hBE.trans (hBF'.mono hBE.size); clear hBF' hBE)
            | (go_at_call 17; refine (Q3.out _ hBF).mono ?_; clear Q3; rintro e wG ⟨rfl, hBG'⟩; have hBG := hBF.trans (hBG'.mono hBF.size); clear hBG' hBF)
            | (go_at_call 18; refine (Q4.out _ hBG).mono ?_; clear Q4; rintro e wH ⟨rfl, hBH'⟩; have hBH := hBG.trans (hBH'.mono hBG.size); clear hBH' hBG)
            | (go_at_call 18; refine (Q5.out _ hBH).mono ?_; clear Q5; rintro e wI ⟨rfl, hBI'⟩; have hBI := hBH.trans (hBI'.mono hBH.size); clear hBI' hBH; obtain ⟨_, _, _, _, d0, d1⟩ := HEND.out _ hBI))
          obtain ⟨z1, z2, z3, z4, _, _⟩ := HEND.out _ hBI
          exact ⟨⟨i + 1, tC, (dropZ l n), by omega, z1, z2, z3, rfl, z4⟩, by simp only [intOf]; omega⟩
        | false =>
          by_cases hn : inR n
          · have hd := put_c HTA.out n s
            go_wp2_with (go_at_call 13; fail)
            rw [HWA.out]
            refine hd.mono ?_
            rintro e wC ⟨tpC, tC, rfl, hTC, hNC, hGC, hFC', _, hBC⟩
            have hLC := HL.out.put hn (hNC HL.out.root) hGC
            have hF5 := (hFC' hn).2.1
            have hFC : freshT tC t ≤ 5 := by omega
            have hr := rput_any (HPA.out.keep hBC) hshort n s hn
            obtain ⟨d0, d1, d2⟩ := HNA.out wC hBC
            have hx1 : 0 ≤ n := hn.1
            have hx2 : n < 1048576 := hn.2
            clear hd hNC hGC hFC' hn
            obtain ⟨bC, rfl⟩ := root_ptr hTC hLC.root
            go_wp2_with (go_at_call 14; fail)
            refine hr.mono ?_
            rintro e wD ⟨vD, rfl, hPD, hBD⟩
            clear hr d0 d1 d2
            have hTD := TrAt.keep hTC hBD
            have hBAD := hBC.trans (hBD.mono hBC.size)
            have hTtD := TrAt.keep HTA.out hBAD
            have q1 := get_c hTD ask
            rw [hLC.look ask] at q1
            obtain ⟨e1, e2⟩ := got_pair (lookZ (putGo n s l false) ask)
            rw [e1, e2] at q1
            have Q2 : Hid (∀ w', Below wD.heap.size wD w' → _) := fun w' hw' => rget_any (hPD.keep hw') ask
            have Q3 : Hid (∀ w', Below wD.heap.size wD w' → _) := fun w' hw' => same_yes (TrAt.keep hTD hw') hLC (hPD.keep hw') stop
            have Q4 : Hid (∀ w', Below wD.heap.size wD w' → _) := fun w' hw' => tfresh_any (TrAt.keep hTtD hw') (TrAt.keep hTD hw')
            have Q5 : Hid (∀ w', Below wD.heap.size wD w' → _) := fun w' hw' => tfresh_any (TrAt.keep hTD hw') (TrAt.keep hTD hw')
            have Q6 := Q4
            rw [fresh_self] at Q5
            have HEND : Hid (∀ w', Below wD.heap.size wD w' → S.At w' (.pointer (some ⟨bC, 0, none⟩)) tC ∧ Lk tC ((putGo n s l false)) ∧ PsAt w' vD ((putGo n s l false)) ∧ Below W.heap.size W w' ∧ w'.cell? ⟨wr.heap.size, 0, none⟩ = some (.bool false) ∧ w'.cell? ⟨wr.heap.size, 1, none⟩ = some (.int .i64 n)) := fun w' hw' => ⟨TrAt.keep hTD hw', hLC, hPD.keep hw', HBA.out.trans ((hBAD.trans (hw'.mono hBAD.size)).mono HBA.out.size), (HNA.out w' (hBAD.trans (hw'.mono hBAD.size))).1, (HNA.out w' (hBAD.trans (hw'.mono hBAD.size))).2.1⟩
            generalize (lookZ (putGo n s l false) ask).getD ⟨#[]⟩ = gs at *
            generalize (lookZ (putGo n s l false) ask).isSome = gb at *
            rw [hF5] at Q4 Q6
            clear hF5
            clear hTD hBAD hTtD hTC hBC hBD hPD hLC HTA HPA HBA HNA HT HL HP HB HWA hshort e1 e2
            go_wp2_with (first
              | (go_at_call 15; refine q1.mono ?_; clear q1; rintro e wE ⟨rfl, hBE⟩)
              | (go_at_call 16; refine (Q2.out _ hBE).mono ?_; clear Q2; rintro e wF ⟨rfl, hBF'⟩; have hBF := hBE.trans (hBF'.mono hBE.size); clear hBF' hBE)
              | (go_at_call 17; refine (Q3.out _ hBF).mono ?_; clear Q3; rintro e wG ⟨rfl, hBG'⟩; have hBG := hBF.trans (hBG'.mono hBF.size); clear hBG' hBF)
              | (go_at_call 18; refine (Q4.out _ hBG).mono ?_; clear Q4; rintro e wH ⟨rfl, hBH'⟩; have hBH := hBG.trans (hBH'.mono hBG.size); clear hBH' hBG)
              | (go_at_call 18; refine (Q5.out _ hBH).mono ?_; clear Q5; rintro e wI ⟨rfl, hBI'⟩; have hBI := hBH.trans (hBI'.mono hBH.size); clear hBI' hBH; obtain ⟨_, _, _, _, d0, d1⟩ := HEND.out _ hBI)
              | (go_at_call 18; refine (Q6.out _ hBI).mono ?_; clear Q6; rintro e wJ ⟨rfl, hBJ'⟩; have hBJ := hBI.trans (hBJ'.mono hBI.size); clear hBJ' hBI))
            obtain ⟨z1, z2, z3, z4, _, _⟩ := HEND.out _ hBJ
            exact ⟨⟨i + 1, tC, (putGo n s l false), by omega, z1, z2, z3, rfl, z4⟩, by simp only [intOf]; omega⟩
          · have hd := put_c HTA.out n s
            have hcase : n < 0 ∨ (0 ≤ n ∧ 1048576 ≤ n) := by unfold inR at hn; omega
            go_wp2_with (go_at_call 13; fail)
            rw [HWA.out]
            refine hd.mono ?_
            rintro e wC ⟨tpC, tC, rfl, hTC, hNC, hGC, _, hsame, hBC⟩
            obtain ⟨rfl, rfl⟩ := hsame hn
            have hLC := HL.out
            have hFC : freshT tC tC ≤ 5 := by rw [fresh_self]; omega
            have hr : Calls Try.prog 14 #[u8, .int .i64 n, .string s] wC fun e w' => ∃ v', e = .returned v' ∧ PsAt w' v' l ∧ Below wC.heap.size wC w' := (rput_out wC u8 n s hn).mono fun e w' ⟨he, hw⟩ => ⟨u8, he, by rw [hw]; exact HPA.out.keep hBC, by rw [hw]; exact Below.refl _ _⟩
            obtain ⟨d0, d1, d2⟩ := HNA.out wC hBC
            obtain ⟨bC, hbC⟩ : ∃ b, bt = b := ⟨_, rfl⟩
            clear hd hNC hGC hsame hn
            go_wp2_with (go_at_call 14; fail)
            refine hr.mono ?_
            rintro e wD ⟨vD, rfl, hPD, hBD⟩
            clear hr d0 d1 d2
            subst hbC
            rcases hcase with hx1 | ⟨hx1, hx2⟩
            all_goals
              have hTD := TrAt.keep hTC hBD
              have hBAD := hBC.trans (hBD.mono hBC.size)
              have hTtD := TrAt.keep HTA.out hBAD
              have q1 := get_c hTD ask
              rw [hLC.look ask] at q1
              obtain ⟨e1, e2⟩ := got_pair (lookZ l ask)
              rw [e1, e2] at q1
              have Q2 : Hid (∀ w', Below wD.heap.size wD w' → _) := fun w' hw' => rget_any (hPD.keep hw') ask
              have Q3 : Hid (∀ w', Below wD.heap.size wD w' → _) := fun w' hw' => same_yes (TrAt.keep hTD hw') hLC (hPD.keep hw') stop
              have Q4 : Hid (∀ w', Below wD.heap.size wD w' → _) := fun w' hw' => tfresh_any (TrAt.keep hTtD hw') (TrAt.keep hTD hw')
              have Q5 : Hid (∀ w', Below wD.heap.size wD w' → _) := fun w' hw' => tfresh_any (TrAt.keep hTD hw') (TrAt.keep hTD hw')
              have Q6 := Q4
              rw [fresh_self] at Q5
              have HEND : Hid (∀ w', Below wD.heap.size wD w' → S.At w' (.pointer (some ⟨bt, 0, none⟩)) tC ∧ Lk tC (l) ∧ PsAt w' vD (l) ∧ Below W.heap.size W w' ∧ w'.cell? ⟨wr.heap.size, 0, none⟩ = some (.bool false) ∧ w'.cell? ⟨wr.heap.size, 1, none⟩ = some (.int .i64 n)) := fun w' hw' => ⟨TrAt.keep hTD hw', hLC, hPD.keep hw', HBA.out.trans ((hBAD.trans (hw'.mono hBAD.size)).mono HBA.out.size), (HNA.out w' (hBAD.trans (hw'.mono hBAD.size))).1, (HNA.out w' (hBAD.trans (hw'.mono hBAD.size))).2.1⟩
              generalize (lookZ l ask).getD ⟨#[]⟩ = gs at *
              generalize (lookZ l ask).isSome = gb at *
              rw [fresh_self] at Q4 Q6
              clear hTD hBAD hTtD hTC hBC hBD hPD hLC HTA HPA HBA HNA HT HL HP HB HWA hshort e1 e2
              go_wp2_with (first
                | (go_at_call 15; refine q1.mono ?_; clear q1; rintro e wE ⟨rfl, hBE⟩)
                | (go_at_call 16; refine (Q2.out _ hBE).mono ?_; clear Q2; rintro e wF ⟨rfl, hBF'⟩; have hBF := hBE.trans (hBF'.mono hBE.size); clear hBF' hBE)
                | (go_at_call 17; refine (Q3.out _ hBF).mono ?_; clear Q3; rintro e wG ⟨rfl, hBG'⟩; have hBG := hBF.trans (hBG'.mono hBF.size); clear hBG' hBF)
                | (go_at_call 18; refine (Q4.out _ hBG).mono ?_; clear Q4; rintro e wH ⟨rfl, hBH'⟩; have hBH := hBG.trans (hBH'.mono hBG.size); clear hBH' hBG)
                | (go_at_call 18; refine (Q5.out _ hBH).mono ?_; clear Q5; rintro e wI ⟨rfl, hBI'⟩; have hBI := hBH.trans (hBI'.mono hBH.size); clear hBI' hBH; obtain ⟨_, _, _, _, d0, d1⟩ := HEND.out _ hBI))
              obtain ⟨z1, z2, z3, z4, _, _⟩ := HEND.out _ hBI
              exact ⟨⟨i + 1, tC, l, by omega, z1, z2, z3, rfl, z4⟩, by simp only [intOf]; omega⟩
      · obtain rfl : i = xs.length := by omega
        clear HX hlt
        go_wp2_with (go_at_call 9; refine (HLV.out _).mono ?_; rintro e w4 ⟨rfl, hB4⟩)
        go_ret
        exact ⟨rfl, HB.out.trans (hB4.mono HB.out.size)⟩

end Go.Proofs.Ytnmpakjklbamiaa
