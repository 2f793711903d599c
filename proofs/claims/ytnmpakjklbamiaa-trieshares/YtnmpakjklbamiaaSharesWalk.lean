/- TrieShares: the walk. -/
import Derived.Test.YtnmpakjklbamiaaArgs
import Derived.Test.YtnmpakjklbamiaaOpsI
namespace Go.Proofs.Ytnmpakjklbamiaa
open Go.RowKit I
set_option maxRecDepth 100000

set_option maxHeartbeats 2000000 in
theorem shares_walk (w : World) (a : Option Addr) (len cap : Nat) (xs : List Int) (hr : RowAt .i64 w (.slice a len cap) xs) (hm : xs.length ≤ maxLen) (n : Int) : Calls Try.prog 7 #[.slice a len cap, .int .i64 n] w fun e w' => e = .returned (.bool true) ∧ Below w.heap.size w w' := by
  obtain ⟨a', cap', ev, hcap, hx⟩ := hr
  cases ev
  have hm' : xs.length ≤ 9223372036854775807 := Nat.le_trans hm (by decide)
  have hlives := fun w' => lives_any w'
  have HL := hid_mk hlives
  have hnew := I.new_any w
  clear hlives
  by_cases hbig : 60 < xs.length
  · clear hx hnew
    go_enter Try.func7, Try.ntmps7
    go_wp2_with (go_at_call 9; refine (HL.out _).mono ?_; rintro e w1 ⟨rfl, hB1⟩)
    go_ret
    exact ⟨rfl, hB1⟩
  · have HX := hid_mk hx
    clear hx
    go_enter Try.func7, Try.ntmps7
    go_wp2_with (go_at_call 19; fail)
    refine hnew.mono ?_
    rintro e w1 ⟨b1, b0, rfl, _, _, hT1, hB1⟩
    have HT1 := hid_mk hT1
    clear hnew hT1
    go_wp2
    go_loopw [5, 23] (fun a5 a23 wr => ∃ (i : Nat) (t : T), i ≤ xs.length ∧ At wr a5 t ∧ rootN t ∧ a23 = .int .i64 (i : Int) ∧ Below w.heap.size w wr) (fun _ a23 _ => xs.length + 1 - (intOf a23).toNat)
    case atStart => exact ⟨0, newT b0, Nat.zero_le _, HT1.out, ⟨_, _, rfl⟩, rfl, hB1⟩
    case round =>
      obtain ⟨i, t, hi, hT, hN, rfl, hB⟩ := hrel
      have HT := hid_mk hT
      have HN := hid_mk hN
      have HB := hid_mk hB
      clear HT1 hB1
      obtain ⟨bp, rfl⟩ := root_ptr hT hN
      clear hT hN hB
      by_cases hlt : i < xs.length
      · obtain ⟨b, off, rfl, hblt, hcell⟩ := HX.out (by omega)
        have hc := (HB.out.cell (p := ⟨b, off + i, none⟩) hblt).trans (hcell i hlt)
        clear hcell
        generalize xs.getD i 0 = k at hc
        have hp := put_c HT.out k k
        go_wp2_with (go_at_call 20; fail)
        refine hp.mono ?_
        rintro e w2 ⟨tp2, t2, rfl, hT2, hN2, _, _, _, hB2⟩
        clear hp
        go_wp2
        exact ⟨⟨i + 1, t2, by omega, hT2, hN2 HN.out, rfl, HB.out.trans (hB2.mono HB.out.size)⟩, by simp only [intOf]; omega⟩
      · obtain rfl : i = xs.length := by omega
        clear HX hlt
        by_cases hn : inR n
        · have hk1 : 0 ≤ n := hn.1
          have hk2 : n < 1048576 := hn.2
          have HN1 := hid_mk hn
          clear hn
          have hp := put_c HT.out n 7
          go_wp2_with (go_at_call 20; fail)
          refine hp.mono ?_
          rintro e w2 ⟨tpa, ta, rfl, hTa, hNa, hGa, _, _, hB2⟩
          have HTa := hid_mk hTa
          have HGa := hid_mk hGa
          have HNa := hid_mk (hNa HN.out)
          clear hp hTa hGa hNa
          have hp := put_c HTa.out n 8
          go_wp2_with (go_at_call 20; fail)
          refine hp.mono ?_
          rintro e w3 ⟨tpb, tb, rfl, hTb, hNb, hGb, hFb, _, hB3⟩
          have HTb := hid_mk hTb
          have HGb := hid_mk hGb
          have HNb := hid_mk (hNb HNa.out)
          have HFb := hid_mk (hFb HN1.out).2.1
          clear hp hTb hGb hNb hFb
          have hp := drop_c HTb.out n
          go_wp2_with (go_at_call 24; fail)
          refine hp.mono ?_
          rintro e w4 ⟨tpc, tc, rfl, hTc, hNc, hGc, _, _, hSc, hB4⟩
          have HTc := hid_mk hTc
          have HGc := hid_mk hGc
          have HNc := hid_mk (hNc HNb.out)
          have HSc := hid_mk hSc
          clear hp hTc hGc hNc hSc
          have hp := put_c HTc.out n 7
          go_wp2_with (go_at_call 20; fail)
          refine hp.mono ?_
          rintro e w5 ⟨tpd, td, rfl, hTd, hNd, hGd, _, _, hB5⟩
          have HTd := hid_mk hTd
          have HGd := hid_mk hGd
          have HNd := hid_mk (hNd HNc.out)
          clear hp hTd hGd hNd
          have ga : getV ta n = some (.int .i64 7) := by rw [HGa.out, if_pos ⟨rfl, HN1.out⟩]
          have gb : getV tb n = some (.int .i64 8) := by rw [HGb.out, if_pos ⟨rfl, HN1.out⟩]
          have gd : getV td n = some (.int .i64 7) := by rw [HGd.out, if_pos ⟨rfl, HN1.out⟩]
          have eab : ∀ m, (getV ta m).isSome = (getV tb m).isSome := fun m => by
            rw [HGb.out]
            by_cases e : m = n
            · rw [if_pos ⟨e, HN1.out⟩, e, ga]; rfl
            · rw [if_neg (fun h => e h.1)]
          have ead : ∀ m, (getV ta m).isSome = (getV td m).isSome := fun m => by
            rw [HGd.out]
            by_cases e : m = n
            · rw [if_pos ⟨e, HN1.out⟩, e, ga]
            · rw [if_neg (fun h => e h.1), HGc.out, if_neg e, HGb.out, if_neg (fun h => e h.1)]
          obtain ⟨c1, s1⟩ := same_get HNa.out HNb.out HTa.out.wf HTb.out.wf HTa.out.pr HTb.out.pr eab
          obtain ⟨c2, s2⟩ := same_get HNa.out HNd.out HTa.out.wf HTd.out.wf HTa.out.pr HTd.out.pr ead
          have s3 := HSc.out (by rw [gb]; simp)
          rw [← s1] at s3
          have hBa5 : Below w2.heap.size w2 w5 := hB3.trans ((hB4.trans (hB5.mono hB4.size)).mono hB3.size)
          have hBb5 : Below w3.heap.size w3 w5 := hB4.trans (hB5.mono hB4.size)
          have hBt5 : Below wr.heap.size wr w5 := hB2.trans (hBa5.mono hB2.size)
          obtain ⟨C, hC⟩ : ∃ C, C = cntT ta := ⟨_, rfl⟩
          obtain ⟨Z, hZ⟩ : ∃ Z, Z = szT tc := ⟨_, rfl⟩
          have hza : szT ta = Z + 1 := by omega
          have hzb : szT tb = Z + 1 := by omega
          have hzl := HTc.out.bounds.1
          rw [← hZ] at hzl
          have HGETD := hid_mk (get_c HTd.out n)
          rw [gd] at HGETD
          have HGETA : Hid (∀ w', Below w5.heap.size w5 w' → _) := fun w' hw' => get_c (TrAt.keep (TrAt.keep HTa.out hBa5) hw') n
          rw [ga] at HGETA
          have HLA : Hid (∀ w', Below w5.heap.size w5 w' → _) := fun w' hw' => len_any (TrAt.keep (TrAt.keep HTa.out hBa5) hw')
          have HLB : Hid (∀ w', Below w5.heap.size w5 w' → _) := fun w' hw' => len_any (TrAt.keep (TrAt.keep HTb.out hBb5) hw')
          have HLC : Hid (∀ w', Below w5.heap.size w5 w' → _) := fun w' hw' => len_any (TrAt.keep (TrAt.keep HTc.out hB5) hw')
          have HCA : Hid (∀ w', Below w5.heap.size w5 w' → _) := fun w' hw' => nodes_any (TrAt.keep (TrAt.keep HTa.out hBa5) hw')
          have HCB : Hid (∀ w', Below w5.heap.size w5 w' → _) := fun w' hw' => nodes_any (TrAt.keep (TrAt.keep HTb.out hBb5) hw')
          have HCD : Hid (∀ w', Below w5.heap.size w5 w' → _) := fun w' hw' => nodes_any (TrAt.keep HTd.out hw')
          have HFR : Hid (∀ w', Below w5.heap.size w5 w' → _) := fun w' hw' => tfresh_any (TrAt.keep (TrAt.keep HTa.out hBa5) hw') (TrAt.keep (TrAt.keep HTb.out hBb5) hw')
          have HDT : Hid (∀ w', Below w5.heap.size w5 w' → _) := fun w' hw' => drop_c (TrAt.keep (TrAt.keep HT.out hBt5) hw') n
          have HTT := hid_mk (TrAt.keep HT.out hBt5)
          rw [hza] at HLA
          rw [hzb] at HLB
          rw [← hZ] at HLC
          rw [← hC] at HCA
          rw [← c1, ← hC] at HCB
          rw [← c2, ← hC] at HCD
          rw [HFb.out] at HFR
          have HB5 := hid_mk (HB.out.trans (hBt5.mono HB.out.size))
          obtain ⟨pa, rfl⟩ := root_ptr HTa.out HNa.out
          obtain ⟨pb, rfl⟩ := root_ptr HTb.out HNb.out
          obtain ⟨pc, rfl⟩ := root_ptr HTc.out HNc.out
          obtain ⟨pd, rfl⟩ := root_ptr HTd.out HNd.out
          have HC : Hid (∀ p, p = .pointer (some ⟨pa, 0, none⟩) ∨ p = .pointer (some ⟨pb, 0, none⟩) ∨ p = .pointer (some ⟨pd, 0, none⟩) → ∀ w', Below w5.heap.size w5 w' → Calls Try.prog 22 #[p] w' fun e w'' => e = .returned (.int .i64 (C : Int)) ∧ w'' = w') := fun p hp w' hw' => by
            rcases hp with rfl | rfl | rfl
            · exact HCA.out w' hw'
            · exact HCB.out w' hw'
            · exact HCD.out w' hw'
          have HLA2 : Hid (∀ w', Below w5.heap.size w5 w' → Calls Try.prog 21 #[.pointer (some ⟨pa, 0, none⟩)] w' fun e w'' => e = .returned (.int .i64 ((Z : Int) + 1)) ∧ w'' = w') := HLA
          have HLA1 : Hid (∀ w', Below w5.heap.size w5 w' → Calls Try.prog 21 #[.pointer (some ⟨pa, 0, none⟩)] w' fun e w'' => e = .returned (.int .i64 ((Z : Int) + 1)) ∧ w'' = w') := HLA
          have HLB1 : Hid (∀ w', Below w5.heap.size w5 w' → Calls Try.prog 21 #[.pointer (some ⟨pb, 0, none⟩)] w' fun e w'' => e = .returned (.int .i64 ((Z : Int) + 1)) ∧ w'' = w') := HLB
          clear HTa HTb HTc HTd HGa HGb HGc HGd HNa HNb HNc HNd HSc HFb ga gb gd eab ead c1 s1 c2 s2 s3 hBa5 hBb5 hBt5 hza hzb hZ hC hB2 hB3 hB4 hB5 HT HB HN HCA HCB HCD HLA HLB
          go_wp2_with (first
            | (go_at_call 23; refine HGETD.out.mono ?_; clear HGETD; rintro e w6 ⟨rfl, hB6⟩)
            | (go_at_call 23; refine (HGETA.out _ hB6).mono ?_; clear HGETA; rintro e w7 ⟨rfl, hB7'⟩; have hB7 := hB6.trans (hB7'.mono hB6.size); clear hB7' hB6)
            | (go_at_call 28; refine (HFR.out _ hB7).mono ?_; clear HFR; rintro e w8 ⟨rfl, hB8'⟩; have hB8 := hB7.trans (hB8'.mono hB7.size); clear hB8' hB7)
            | (go_at_call 22; refine (HC.out _ (by first | exact .inl rfl | exact .inr (.inl rfl) | exact .inr (.inr rfl)) _ hB8).mono ?_; rintro e w9 ⟨rfl, rfl⟩)
            | (go_at_call 21; refine (HLA1.out _ hB8).mono ?_; clear HLA1; rintro e w9 ⟨rfl, rfl⟩)
            | (go_at_call 21; refine (HLB1.out _ hB8).mono ?_; clear HLB1; rintro e w9 ⟨rfl, rfl⟩)
            | (go_at_call 21; refine (HLC.out _ hB8).mono ?_; clear HLC; rintro e w9 ⟨rfl, rfl⟩)
            | (go_at_call 21; refine (HLA2.out _ hB8).mono ?_; clear HLA2; rintro e w9 ⟨rfl, rfl⟩)
            | (go_at_call 24; refine (HDT.out _ hB8).mono ?_; clear HDT; rintro e w9 ⟨tpf, tf, rfl, hTf, _, _, hFf, _, _, hB9'⟩; have hB9 := hB8.trans (hB9'.mono hB8.size); have HFF := hid_mk (tfresh_any (TrAt.keep HTT.out hB9) hTf); clear hB9' hB8 hTf; generalize freshT tf t = F at *)
            | (go_at_call 28; refine HFF.out.mono ?_; clear HFF; rintro e w10 ⟨rfl, hB10'⟩; have hB10 := hB9.trans (hB10'.mono hB9.size); clear hB10' hB9)
            | (go_at_call 9; refine (HL.out _).mono ?_; rintro e w11 ⟨rfl, hB11⟩; have hB12 := hB10.trans (hB11.mono hB10.size)))
          go_ret
          exact ⟨rfl, HB5.out.trans (hB12.mono HB5.out.size)⟩
        · have hn2 : n < 0 ∨ (¬ n < 0 ∧ 1048576 ≤ n) := by unfold inR at hn; omega
          have hp := put_c HT.out n 1
          obtain ⟨j, hj⟩ := trie_info
          have heq := fun (w : World) a => run_eql_ptr_same w a Try.underlying43 hj
          clear hj
          rcases hn2 with h1 | ⟨h1, h2⟩
          all_goals
            go_wp2_with (go_at_call 20; fail)
            refine hp.mono ?_
            rintro e w2 ⟨tp2, t2, rfl, hT2, hN2, _, _, hsame, hB2⟩
            obtain ⟨rfl, rfl⟩ := hsame hn
            have hd := drop_c hT2 n
            clear hsame hp hN2
            go_wp2_with (first | (go_at_call 24; refine hd.mono ?_; rintro e w3 ⟨tp3, t3, rfl, hT3, hN3, _, _, hsame, _, hB3⟩; obtain ⟨rfl, rfl⟩ := hsame (getV_out hn); have hB23 := hB2.trans (hB3.mono hB2.size)) | (go_at_call 9; refine (HL.out _).mono ?_; rintro e w4 ⟨rfl, hB4⟩))
            go_ret
            exact ⟨rfl, HB.out.trans ((hB23.trans (hB4.mono hB23.size)).mono HB.out.size)⟩

end Go.Proofs.Ytnmpakjklbamiaa
