/- DomBack: the walk. -/
import Derived.Test.YtecbgleidohjpabBckM
import Derived.Test.YtecbgleidohjpabBckS
import Derived.Test.YtecbgleidohjpabLitN
import Derived.Test.YtecbgleidohjpabLivN
import Derived.Deep.DeepCutAuto
namespace Go.Proofs.Ytecbgleidohjpab.N
open Go.RowKit
set_option maxRecDepth 100000

def sQ : ByteArray := ⟨#[113]⟩
set_option maxHeartbeats 8000000 in
theorem back_walk {W : World} {v : Value} {xs : List Act6} (hp : ActsIn W v xs) (pi ii : Int) : Calls Try.prog 3 #[v, .int .i64 pi, .int .i64 ii] W fun e w' => e = .returned (.bool true) ∧ Below W.heap.size W w' := by
  have hlight := light_any hp
  have HLV : Hid (∀ w', Calls Try.prog 5 #[] w' fun e w'' => e = .returned (.bool true) ∧ Below w'.heap.size w' w'') := fun w' => lives_any w'
  have HNEW : Hid (∀ w', _) := fun w' => tree_new sA w' (by decide) name_a
  obtain ⟨hA, hsz⟩ := hp
  have HZ : Hid (∀ z ∈ xs, z.nm.size ≤ maxLen ∧ z.v.size ≤ maxLen) := fun z hz => by
    obtain ⟨h1, h2⟩ := hsz z hz
    unfold maxLen
    omega
  have HC : Hid (∀ i (hi : i < xs.length), _) := fun i hi => hA.cells hi
  obtain ⟨a, cap, rfl, hcap, hmax, hx⟩ := hA
  clear hx hsz
  go_enter Try.func3, Try.ntmps3
  go_wp2_with (go_at_call 4; fail)
  refine hlight.mono ?_
  rintro e w1 ⟨lb, rfl, hlen, hB1⟩
  have HB1 := hid_mk hB1
  clear hlight hB1
  cases lb with
  | false =>
    go_wp2_with (go_at_call 5; refine (HLV.out _).mono ?_; rintro e w2 ⟨rfl, hB2⟩)
    go_ret
    exact ⟨rfl, HB1.out.trans (hB2.mono HB1.out.size)⟩
  | true =>
    have h130 := hlen rfl
    clear hlen
    go_wp2_with (go_at_call 6; fail)
    refine (HNEW.out _).mono ?_
    rintro e w2 ⟨b2, rfl, hT2, hB2⟩
    have HB2 : Hid (Below W.heap.size W w2) := HB1.out.trans (hB2.mono HB1.out.size)
    have HT2 := hid_mk hT2
    clear HNEW hT2 hB2 HB1
    go_wp2
    go_loopw [7, 38] (fun a7 a38 wr => ∃ (i b : Nat) (m : M) (nx : Int), i ≤ xs.length ∧ a7 = .pointer (some ⟨b, 0, none⟩) ∧ a38 = .int .i64 (i : Int) ∧ nx ≤ i + 2 ∧ Hid (Tree wr (.pointer (some ⟨b, 0, none⟩)) m nx) ∧ Hid (Below W.heap.size W wr)) (fun _ a38 _ => xs.length + 1 - (intOf a38).toNat)
    case atStart => exact ⟨0, b2, _, 2, Nat.zero_le _, rfl, rfl, by omega, HT2, HB2⟩
    case round =>
      clear HT2 HB2
      obtain ⟨i, b, m, nx, hi, rfl, rfl, hnx, HT, HB⟩ := hrel
      by_cases hlt : i < xs.length
      · obtain ⟨bx, off, cap', e, _, hbl, q0, q1, q2, q3, q4, q5⟩ := HC.out i hlt
        cases e
        obtain ⟨z1, z2⟩ := HZ.out xs[i] (List.getElem_mem hlt)
        have c0 := (HB.out.cell (p := ⟨bx, off + i * 6, none⟩) hbl).trans q0
        have c1 := (HB.out.cell (p := ⟨bx, off + i * 6 + 1, none⟩) hbl).trans q1
        have c2 := (HB.out.cell (p := ⟨bx, off + i * 6 + 2, none⟩) hbl).trans q2
        have c3 := (HB.out.cell (p := ⟨bx, off + i * 6 + 3, none⟩) hbl).trans q3
        have c4 := (HB.out.cell (p := ⟨bx, off + i * 6 + 4, none⟩) hbl).trans q4
        have c5 := (HB.out.cell (p := ⟨bx, off + i * 6 + 5, none⟩) hbl).trans q5
        have hA : Below wr.heap.size wr (wr.alloc (.cells #[.int .i64 xs[i].k, .int .i64 xs[i].x, .int .i64 xs[i].y, .int .i64 xs[i].z, .string xs[i].nm, .string xs[i].v] 30)) := (Below.refl _ _).alloc (Nat.le_refl _) _
        have hact := act_any (HT.out.keep hA) (by omega) xs[i] z1 z2
        rw [show xs[i].cells.toArray = #[.int .i64 xs[i].k, .int .i64 xs[i].x, .int .i64 xs[i].y, .int .i64 xs[i].z, .string xs[i].nm, .string xs[i].v] from rfl] at hact
        have HAB : Hid (Below W.heap.size W (wr.alloc (.cells #[.int .i64 xs[i].k, .int .i64 xs[i].x, .int .i64 xs[i].y, .int .i64 xs[i].z, .string xs[i].nm, .string xs[i].v] 30))) := HB.out.trans (hA.mono HB.out.size)
        clear q0 q1 q2 q3 q4 q5 hA
        go_wp2_with (go_at_call 7; fail)
        refine hact.mono ?_
        rintro e w3 ⟨b3, m3, nx3, rid, err, rfl, _, hT3, _, _, hn3, hB3⟩
        have HT3 := hid_mk hT3
        have HB3 := hid_mk (HAB.out.trans (hB3.mono HAB.out.size))
        clear hact hT3 hB3 c0 c1 c2 c3 c4 c5
        go_wp2
        exact ⟨⟨i + 1, b3, m3, nx3, hlt, rfl, by go_num, by omega, HT3, HB3⟩, by simp only [intOf]; omega⟩
      · clear HC HZ
        have hnx2 : nx ≤ 132 := by omega
        obtain ⟨d, I⟩ := HT.out.2
        have HI := hid_mk I
        have hnxb := I.nxb
        obtain ⟨N, hN⟩ : ∃ N : Nat, nx = N := ⟨nx.toNat, by omega⟩
        subst hN
        clear I hnx
        obtain ⟨w5, hw5⟩ : ∃ w5, w5 = wr := ⟨wr, rfl⟩
        subst hw5
        have HTK : Hid (∀ w', Below w5.heap.size w5 w' → Tree w' (.pointer (some ⟨b, 0, none⟩)) m N) := fun w' hw' => HT.out.keep hw'
        obtain ⟨K, hK⟩ : ∃ K, Cnt m K := by
          obtain ⟨_, _, _, _, t, _, _, _, hc⟩ := HT.out.1
          exact ⟨_, hc⟩
        have HK := hid_mk hK
        have HINS : Hid (Calls Try.prog 8 #[.pointer (some ⟨b, 0, none⟩), .int .i64 pi, .int .i64 ii, .string sQ] w5 fun x w' => ∃ b' id f, x = .returned (.tuple #[.pointer (some ⟨b', 0, none⟩), .int .i64 id, .int .i64 f]) ∧ Hid (Below w5.heap.size w5 w') ∧ Hid (f = 0 → id = (N : Int) ∧ ∃ (j : Nat) (e0 : El), m pi = some e0 ∧ Tree w' (.pointer (some ⟨b', 0, none⟩)) (insM m N pi j sQ) (N + 1))) := by
          by_cases he : insErr m pi ii sQ = 0
          · obtain ⟨j, e0, rfl, hp0, _⟩ := ok_insErr he
            refine (tree_insert HT.out (by omega) pi j sQ (by decide) he).mono ?_
            rintro x w' ⟨b', rfl, hT', hB'⟩
            exact ⟨b', N, 0, rfl, hB', fun _ => ⟨rfl, j, e0, hp0, hT'⟩⟩
          · refine (tree_insert_err HT.out pi ii sQ (by decide) he).mono ?_
            rintro x w' ⟨rfl, hB'⟩
            exact ⟨b, 0, _, rfl, hB', fun h => absurd h he⟩
        have HBW := hid_mk HB.out
        clear HT HB hK
        go_wp2_with (go_at_call 8; fail)
        refine HINS.out.mono ?_
        rintro x w6 ⟨b6, id6, f6, rfl, HB6, HF6⟩
        clear HINS hi hlt
        go_upto_if 59 with fail
        go_cut [] (fun wx => Hid (Below w5.heap.size w5 wx))
        case first =>
          by_cases hf : f6 = 0
          · subst hf
            obtain ⟨rfl, j, e0, hm0, hT6⟩ := HF6.out rfl
            obtain ⟨F1, ec, er⟩ := full_ins HI.out hm0 j sQ
            have hrm := tree_remove hT6 (N : Int) F1 er
            rw [ec] at hrm
            clear F1 ec er hT6 HF6
            go_wp2_with (go_at_call 9; fail)
            refine hrm.mono ?_
            rintro x w7 ⟨b7, rfl, hT7, hB7⟩
            have HB7 : Hid (Below w5.heap.size w5 w7) := HB6.out.trans (hB7.mono HB6.out.size)
            have l1 := dom_len hT7.1 HK.out
            have l2 := dom_len (HTK.out w7 HB7.out).1 HK.out
            have x1 := dom_next hT7.1
            have x2 := dom_next (HTK.out w7 HB7.out).1
            have eq := equal_yes (HTK.out w7 HB7.out) hT7
            have hkk : ((K : Int) != (K : Int)) = false := by simp
            have hnn : (((N : Int) + 1) != ((N : Int) + 1)) = false := by simp
            clear hrm hT7 hB7 HTK HK HI
            go_wp2_with (first
              | (go_at_call 10; with_reducible refine l1.mono ?_; clear l1; rintro e wx ⟨rfl, rfl⟩)
              | (go_at_call 10; with_reducible refine l2.mono ?_; clear l2; rintro e wx ⟨rfl, rfl⟩)
              | (go_at_call 11; with_reducible refine x1.mono ?_; clear x1; rintro e wx ⟨rfl, rfl⟩)
              | (go_at_call 11; with_reducible refine x2.mono ?_; clear x2; rintro e wx ⟨rfl, rfl⟩)
              | (go_at_call 12; with_reducible refine eq.mono ?_; clear eq; rintro e w8 ⟨rfl, hB8⟩))
            go_meet
            exact HB7.out.trans (hB8.mono HB7.out.size)
          · have hfb : (f6 == 0) = false := by simpa using hf
            clear HTK HK HI HF6
            go_wp2_with fail
            go_meet
            exact HB6
        case rest =>
        clear HF6 HB6 HK
        have HNX : Hid (∀ w', Below w5.heap.size w5 w' → Calls Try.prog 11 #[.pointer (some ⟨b, 0, none⟩)] w' fun e w'' => e = .returned (.int .i64 (N : Int)) ∧ w'' = w') := fun w' hw' => dom_next (HTK.out w' hw').1
        have HND : Hid (∀ w' (n : Int), Below w5.heap.size w5 w' → _) := fun w' n hw' => tree_node (HTK.out w' hw') n
        have HMV : Hid (∀ w', Below w5.heap.size w5 w' → ∀ (id : Int) {k : Nat} (F : m id ≠ none → Full m id k) (_ : movErr m id 1 (0 : Nat) k = 0), _) := fun w' hw' id {k} F he => tree_move (HTK.out w' hw') id 1 0 F he
        go_wp2
        go_loopw [16] (fun a16 wq => ∃ k : Nat, 2 ≤ k ∧ k ≤ N ∧ a16 = .int .i64 (k : Int) ∧ Hid (Below w5.heap.size w5 wq)) (fun a16 _ => N + 1 - (intOf a16).toNat)
        case atStart => exact ⟨2, Nat.le_refl _, by omega, rfl, hcut⟩
        case round =>
          clear hcut
          obtain ⟨k, hk2, hkN, rfl, HB⟩ := hrel
          by_cases hlt : k < N
          · have hnx := HNX.out wr HB.out
            have hnd := HND.out wr (k : Int) HB.out
            cases he : m (k : Int) with
            | none =>
              rw [he] at hnd
              clear he HMV HTK HI
              go_wp2_with (go_at_call 11; refine hnx.mono ?_; clear hnx; rintro e wx ⟨rfl, rfl⟩)
              refine hnd.mono ?_
              rintro x w6 ⟨s, rfl, _, hB6⟩
              have HB6 : Hid (Below w5.heap.size w5 (w6.alloc (.cells #[.int .i64 s.id, .string s.tag, .int .i64 s.par, .slice s.ka s.kn s.kc, .slice s.aa s.an s.ac] 41))) := (HB.out.trans (hB6.mono HB.out.size)).alloc (HB.out.trans (hB6.mono HB.out.size)).size _
              clear hnd hB6
              go_wp2
              exact ⟨⟨k + 1, by omega, by omega, by go_num, HB6⟩, by simp only [intOf]; omega⟩
            | some el =>
              rw [he] at hnd
              have hk1 : (k : Int) ≠ 1 := by omega
              obtain ⟨P, hP, hmem⟩ := HI.out.par he hk1
              obtain ⟨h, F⟩ := full_ex HI.out he
              have HBK : Hid (∀ a : Nat, P.ks[a]? = some (k : Int) → movErr m k 1 0 h = 0 ∧ Full (mvM m k 1 0) k h ∧ movErr (mvM m k 1 0) k el.par a h = 0 ∧ mvM (mvM m k 1 0) k el.par a = m) := fun a ha => mov_back HI.out he hk1 hP ha F
              have HF := hid_mk F
              have HMEM := hid_mk hmem
              have HP := hid_mk hP
              clear he F hmem hP hk1
              go_wp2_with (go_at_call 11; refine hnx.mono ?_; clear hnx; rintro e wx ⟨rfl, rfl⟩)
              refine hnd.mono ?_
              rintro x w6 ⟨s, rfl, hE0, hB6⟩
              have hE : ElAt w6 s el := hE0
              have hpar : s.par = el.par := hE.2.2.1
              obtain ⟨w7, hw7⟩ : ∃ w7, w7 = w6.alloc (.cells #[.int .i64 s.id, .string s.tag, .int .i64 s.par, .slice s.ka s.kn s.kc, .slice s.aa s.an s.ac] 41) := ⟨_, rfl⟩
              have hB67 : Below w6.heap.size w6 w7 := by rw [hw7]; exact (Below.refl _ _).alloc (Nat.le_refl _) _
              have HN7 : Hid (NodeAt w7 w6.heap.size s) := by rw [hw7]; exact heap_alloc_last w6 _
              have HB7 : Hid (Below w5.heap.size w5 w7) := HB.out.trans ((hB6.trans (hB67.mono hB6.size)).mono HB.out.size)
              have HW7 := hid_mk hw7
              have hnp := HND.out w7 s.par HB7.out
              rw [show m s.par = some P by rw [hpar]; exact HP.out] at hnp
              have HPAR := hid_mk hpar
              clear hnd hB6 hE hE0 hB67 hw7 hpar HB HP
              obtain ⟨⟨_, _, n2, _, _⟩, _, _, _, _, _, hgl⟩ := HN7.out.cells
              have HC7 : Hid (∀ W', Below w7.heap.size w7 W' → W'.cell? ⟨w6.heap.size, 2, none⟩ = some (.int .i64 s.par)) := fun W' hW' => (hW'.cell (p := ⟨w6.heap.size, 2, none⟩) hgl).trans n2
              go_upto_region 21 with (fail)
              rw [← HW7.out]
              go_wp2_with (go_at_call 13; fail)
              refine hnp.mono ?_
              rintro x w8 ⟨s8, rfl, hE8, hB8⟩
              obtain ⟨w9, hw9⟩ : ∃ w9, w9 = w8.alloc (.cells #[.int .i64 s8.id, .string s8.tag, .int .i64 s8.par, .slice s8.ka s8.kn s8.kc, .slice s8.aa s8.an s8.ac] 41) := ⟨_, rfl⟩
              have hB89 : Below w8.heap.size w8 w9 := by rw [hw9]; exact (Below.refl _ _).alloc (Nat.le_refl _) _
              have hB79 : Below w7.heap.size w7 w9 := hB8.trans (hB89.mono hB8.size)
              have HN9 : Hid (NodeAt w9 w8.heap.size s8) := by rw [hw9]; exact heap_alloc_last w8 _
              have hE9 : ElAt w9 s8 P := (show ElAt w8 s8 P from hE8).keep hB89
              have hkn := hE9.kn
              have hcap1 := hE9.2.2.2.1.2.1
              have hcap2 := hE9.2.2.2.1.2.2.1
              unfold maxLen at hcap2
              have HKC : Hid (∀ t (ht : t < P.ks.length), ∃ ab ao, s8.ka = some ⟨ab, ao, none⟩ ∧ w9.cell? ⟨ab, ao + t, none⟩ = some (.int .i64 P.ks[t])) := fun t ht => by
                obtain ⟨ab, ao, e1, _, g1⟩ := hE9.2.2.2.1.intAt ht
                exact ⟨ab, ao, e1, g1⟩
              have HB79 := hid_mk hB79
              have HB9 : Hid (Below w5.heap.size w5 w9) := HB7.out.trans (hB79.mono HB7.out.size)
              have HW9 := hid_mk hw9
              have HKN := hid_mk hkn
              obtain ⟨⟨_, _, _, y3, _⟩, _⟩ := HN9.out.cells
              clear hnp hE8 hB8 hw9 hB89 hB79 hE9 hkn HN7 HN9 HW7 n2 hgl
              obtain ⟨id8, tag8, par8, ka8, kn8, kc8, aa8, an8, ac8⟩ := s8
              dsimp only at *
              go_upto_region 22 with (fail)
              rw [← HW9.out]
              go_wp2
              go_loopw [21] (fun a21 wq => ∃ t : Nat, t ≤ kn8 ∧ a21 = .int .i64 (t : Int) ∧ wq = w9 ∧ Hid (∀ t', t' < t → P.ks[t']? ≠ some (k : Int))) (fun a21 _ => kn8 + 1 - (intOf a21).toNat)
              case atStart => exact ⟨0, Nat.zero_le _, rfl, rfl, fun t' h => absurd h (by omega)⟩
              case round =>
                obtain ⟨t, ht, rfl, hwq, HNO⟩ := hrel
                have hwq2 := hwq.symm
                subst hwq2
                clear hwq
                by_cases htl : t < kn8
                · have htk : t < P.ks.length := by rw [← HKN.out]; exact htl
                  obtain ⟨ab, ao, hka, hcl⟩ := HKC.out t htk
                  subst hka
                  by_cases hq : P.ks[t] = (k : Int)
                  · rw [hq] at hcl
                    have hat : P.ks[t]? = some (k : Int) := by rw [List.getElem?_eq_getElem htk, hq]
                    obtain ⟨e1, F2, e2, e3⟩ := HBK.out t hat
                    have hmv := HMV.out w9 HB9.out (k : Int) (fun _ => HF.out) e1
                    have hkk : ((k : Int) != (k : Int)) = false := by simp
                    have htn : ((t : Int) == (kn8 : Int)) = false := by
                      rw [beq_eq_false_iff_ne]
                      omega
                    clear hat hq e1 HKC HNO HBK HMEM HNX HND HMV HI
                    go_wp2_with (go_at_call 14; fail)
                    refine hmv.mono ?_
                    rintro x w10 ⟨b10, rfl, hT10, hB10⟩
                    have y2 := HC7.out w10 (HB79.out.trans (hB10.mono HB79.out.size))
                    have HB10 : Hid (Below w5.heap.size w5 w10) := HB9.out.trans (hB10.mono HB9.out.size)
                    have hmv2 := tree_move hT10 (k : Int) el.par t (fun _ => F2) e2
                    rw [e3, ← HPAR.out] at hmv2
                    clear hmv hT10 hB10 F2 e2 e3 hcl
                    go_wp2_with (go_at_call 14; fail)
                    refine hmv2.mono ?_
                    rintro x w11 ⟨b11, rfl, hT11, hB11⟩
                    have HB11 : Hid (Below w5.heap.size w5 w11) := HB10.out.trans (hB11.mono HB10.out.size)
                    have heq := equal_yes (HTK.out w11 HB11.out) hT11
                    clear hmv2 hT11 hB11 HTK y2
                    go_wp2_with (go_at_call 12; refine heq.mono ?_; clear heq; rintro e w12 ⟨rfl, hB12⟩)
                    exact ⟨⟨k + 1, by omega, by omega, by go_num, hid_mk (HB11.out.trans (hB12.mono HB11.out.size))⟩, by simp only [intOf]; omega⟩
                  · have hne : (P.ks[t] != (k : Int)) = true := by simpa using hq
                    have HNO2 : Hid (∀ t', t' < t + 1 → P.ks[t']? ≠ some (k : Int)) := fun t' ht' => by
                      by_cases h1 : t' < t
                      · exact HNO.out t' h1
                      · obtain rfl : t' = t := by omega
                        rw [List.getElem?_eq_getElem htk]
                        exact fun h => hq (Option.some.inj h)
                    generalize P.ks[t] = kk at *
                    clear HKC HNO HBK HMEM HNX HND HMV HI HTK hq
                    go_wp2
                    exact ⟨⟨t + 1, htl, by go_num, trivial, HNO2⟩, by simp only [intOf]; omega⟩
                · exfalso
                  obtain ⟨u, hu⟩ := List.getElem?_of_mem HMEM.out
                  have := (List.getElem?_eq_some_iff.1 hu).1
                  exact HNO.out u (by rw [← HKN.out] at this; omega) hu
          · obtain rfl : k = N := by omega
            have hnx := HNX.out wr HB.out
            clear HNX HND HMV HTK HI
            go_wp2_with (first
              | (go_at_call 11; refine hnx.mono ?_; clear hnx; rintro e wx ⟨rfl, rfl⟩)
              | (go_at_call 5; refine (HLV.out _).mono ?_; rintro e w9 ⟨rfl, hB9⟩))
            go_ret
            exact ⟨rfl, (HBW.out.trans (HB.out.mono HBW.out.size)).trans (hB9.mono (HBW.out.trans (HB.out.mono HBW.out.size)).size)⟩

end Go.Proofs.Ytecbgleidohjpab.N
