/- DomShape: the walk. -/
import Derived.Test.YtecbgleidohjpaaShpM
import Derived.Test.YtecbgleidohjpaaLitN
import Derived.Shelf.SlSorted.Search
namespace Go.Proofs.Ytecbgleidohjpaa.N
open Go.RowKit
set_option maxRecDepth 100000

theorem less_cmp : ∀ {a b : List UInt8}, Lib.compareBytes a b < 0 → Op.bytesLess a b = true
  | [], [], h => by simp [Lib.compareBytes] at h
  | [], _ :: _, _ => rfl
  | _ :: _, [], h => by simp [Lib.compareBytes] at h
  | x :: a, y :: b, h => by
    unfold Lib.compareBytes at h
    unfold Op.bytesLess
    by_cases h1 : x < y
    · simp [h1]
    · rw [if_neg h1] at h
      by_cases h2 : y < x
      · rw [if_pos h2] at h
        omega
      · rw [if_neg h2] at h
        have : x = y := UInt8.le_antisymm (UInt8.not_lt.1 h2) (UInt8.not_lt.1 h1)
        subst this
        simp [less_cmp h]
set_option maxHeartbeats 8000000 in
theorem shape_walk {W : World} {v : Value} {xs : List Act6} (hp : ActsIn W v xs) : Calls Try.prog 6 #[v] W fun e w' => e = .returned (.bool true) ∧ Below W.heap.size W w' := by
  have hlight := light_any hp
  have HLV : Hid (∀ w', Calls Try.prog 10 #[] w' fun e w'' => e = .returned (.bool true) ∧ Below w'.heap.size w' w'') := fun w' => lives_any w'
  have HNEW : Hid (∀ w', _) := fun w' => tree_new sA w' (by decide) name_a
  obtain ⟨hA, hsz⟩ := hp
  have HZ : Hid (∀ z ∈ xs, z.nm.size ≤ maxLen ∧ z.v.size ≤ maxLen) := fun z hz => by
    obtain ⟨h1, h2⟩ := hsz z hz
    unfold maxLen
    omega
  have HC : Hid (∀ i (hi : i < xs.length), _) := fun i hi => hA.cells hi
  obtain ⟨a, cap, rfl, hcap, hmax, hx⟩ := hA
  clear hx hsz
  go_enter Try.func6, Try.ntmps6
  go_wp2_with (go_at_call 9; fail)
  refine hlight.mono ?_
  rintro e w1 ⟨lb, rfl, hlen, hB1⟩
  have HB1 := hid_mk hB1
  clear hlight hB1
  cases lb with
  | false =>
    go_wp2_with (go_at_call 10; refine (HLV.out _).mono ?_; rintro e w2 ⟨rfl, hB2⟩)
    go_ret
    exact ⟨rfl, HB1.out.trans (hB2.mono HB1.out.size)⟩
  | true =>
    have h130 := hlen rfl
    clear hlen
    go_wp2_with (go_at_call 11; fail)
    refine (HNEW.out _).mono ?_
    rintro e w2 ⟨b2, rfl, hT2, hB2⟩
    have HB2 : Hid (Below W.heap.size W w2) := HB1.out.trans (hB2.mono HB1.out.size)
    have HT2 := hid_mk hT2
    clear HNEW hT2 hB2 HB1
    go_wp2
    go_loopw [3, 33] (fun a3 a33 wr => ∃ (i b : Nat) (m : M) (nx : Int), i ≤ xs.length ∧ a3 = .pointer (some ⟨b, 0, none⟩) ∧ a33 = .int .i64 (i : Int) ∧ nx ≤ i + 2 ∧ Hid (Tree wr (.pointer (some ⟨b, 0, none⟩)) m nx) ∧ Hid (Below W.heap.size W wr)) (fun _ a33 _ => xs.length + 1 - (intOf a33).toNat)
    case atStart => exact ⟨0, b2, _, 2, Nat.zero_le _, rfl, rfl, by omega, HT2, HB2⟩
    case round =>
      clear HT2 HB2
      obtain ⟨i, b, m, nx, hi, rfl, rfl, hnx, HT, HB⟩ := hrel
      by_cases hlt : i < xs.length
      · obtain ⟨bx, off, cap', e, _, hbl, q0, q1, q2, q3, q4, q5⟩ := HC.out i hlt
        cases e
        obtain ⟨z1, z2⟩ := HZ.out xs[i] (List.getElem_mem hlt)
        have c0 := (HB.out.cell (p := ⟨bx, off + i * 6, none⟩) hbl).trans q0
        have c1 := (HB.out.cell (p := ⟨bx, off + i * 6 + 1, none⟩) hbl).trans q1
        have c2 := (HB.out.cell (p := ⟨bx, off + i * 6 + 2, none⟩) hbl).trans q2
        have c3 := (HB.out.cell (p := ⟨bx, off + i * 6 + 3, none⟩) hbl).trans q3
        have c4 := (HB.out.cell (p := ⟨bx, off + i * 6 + 4, none⟩) hbl).trans q4
        have c5 := (HB.out.cell (p := ⟨bx, off + i * 6 + 5, none⟩) hbl).trans q5
        have hA : Below wr.heap.size wr (wr.alloc (.cells #[.int .i64 xs[i].k, .int .i64 xs[i].x, .int .i64 xs[i].y, .int .i64 xs[i].z, .string xs[i].nm, .string xs[i].v] 33)) := (Below.refl _ _).alloc (Nat.le_refl _) _
        have hact := act_any (HT.out.keep hA) (by omega) xs[i] z1 z2
        rw [show xs[i].cells.toArray = #[.int .i64 xs[i].k, .int .i64 xs[i].x, .int .i64 xs[i].y, .int .i64 xs[i].z, .string xs[i].nm, .string xs[i].v] from rfl] at hact
        have HAB : Hid (Below W.heap.size W (wr.alloc (.cells #[.int .i64 xs[i].k, .int .i64 xs[i].x, .int .i64 xs[i].y, .int .i64 xs[i].z, .string xs[i].nm, .string xs[i].v] 33))) := HB.out.trans (hA.mono HB.out.size)
        clear q0 q1 q2 q3 q4 q5 hA
        go_wp2_with (go_at_call 13; fail)
        refine hact.mono ?_
        rintro e w3 ⟨b3, m3, nx3, rid, err, rfl, _, hT3, _, _, hn3, hB3⟩
        have HT3 := hid_mk hT3
        have HB3 := hid_mk (HAB.out.trans (hB3.mono HAB.out.size))
        clear hact hT3 hB3 c0 c1 c2 c3 c4 c5
        go_wp2
        exact ⟨⟨i + 1, b3, m3, nx3, hlt, rfl, by go_num, by omega, HT3, HB3⟩, by simp only [intOf]; omega⟩
      · clear HC HZ
        have hnx2 : nx ≤ 132 := by omega
        obtain ⟨d, I⟩ := HT.out.2
        have HI := hid_mk I
        have hnxb := I.nxb
        clear I hnx
        go_wp2
        clear hlt hi
        obtain ⟨w5, hw5⟩ : ∃ w5, w5 = wr := ⟨wr, rfl⟩
        subst hw5
        obtain ⟨N, hN⟩ : ∃ N : Nat, nx = N := ⟨nx.toNat, by omega⟩
        subst hN
        have HNX : Hid (∀ w', Below w5.heap.size w5 w' → Calls Try.prog 21 #[.pointer (some ⟨b, 0, none⟩)] w' fun e w'' => e = .returned (.int .i64 (N : Int)) ∧ w'' = w') := fun w' hw' => dom_next (HT.out.keep hw').1
        have HND : Hid (∀ w' (n : Int), Below w5.heap.size w5 w' → _) := fun w' n hw' => tree_node (HT.out.keep hw') n
        have HAT : Hid (∀ w' (n : Int) nm, Below w5.heap.size w5 w' → _) := fun w' n nm hw' => tree_attr (HT.out.keep hw') n nm
        have HLE : Hid (∀ w', Below w5.heap.size w5 w' → Calls Try.prog 23 #[.pointer (some ⟨b, 0, none⟩)] w' fun e w'' => e = .returned (.int .i64 ((kidsB m N).length + 1 : Nat)) ∧ w'' = w') := fun w' hw' => dom_len (HT.out.keep hw').1 (by
          have := kidsB_cnt HI.out
          rwa [show ((N : Int)).toNat = N by omega] at this)
        have HKL : Hid (∀ n, (kidsB m n).length ≤ 200000) := fun n => kidsB_len HI.out n
        have HBW := hid_mk HB.out
        clear HT HB
        go_loopw [7, 8] (fun a7 a8 wq => ∃ id : Nat, 1 ≤ id ∧ id ≤ N ∧ a7 = .int .i64 ((kidsB m id).length : Int) ∧ a8 = .int .i64 (id : Int) ∧ Hid (Below w5.heap.size w5 wq)) (fun _ a8 _ => N + 1 - (intOf a8).toNat)
        case atStart => exact ⟨1, by omega, by omega, by rw [show kidsB m 1 = [] by simp [kidsB, kidsOf_none HI.out.zero]]; rfl, rfl, hid_mk (Below.refl _ _)⟩
        case round =>
          obtain ⟨id, h1, h2, rfl, rfl, HB⟩ := hrel
          by_cases hlt : id < N
          · have hnx := HNX.out wr HB.out
            have hnd := HND.out wr (id : Int) HB.out
            have hkl := HKL.out id
            cases he : m (id : Int) with
            | none =>
              rw [he] at hnd
              have HK : Hid ((kidsB m (id + 1)).length = (kidsB m id).length) := by show _ = _; rw [kidsB, kidsOf_none he, List.append_nil]
              clear he
              generalize (kidsB m id).length = KL at *
              go_wp2_with (go_at_call 21; refine hnx.mono ?_; clear hnx; rintro e wx ⟨rfl, rfl⟩)
              refine hnd.mono ?_
              rintro x w6 ⟨s, rfl, _, hB6⟩
              have HB6 : Hid (Below w5.heap.size w5 (w6.alloc (.cells #[.int .i64 s.id, .string s.tag, .int .i64 s.par, .slice s.ka s.kn s.kc, .slice s.aa s.an s.ac] 52))) := (HB.out.trans (hB6.mono HB.out.size)).alloc (HB.out.trans (hB6.mono HB.out.size)).size _
              clear hnd hB6
              go_wp2
              exact ⟨⟨id + 1, by omega, by omega, by rw [HK.out], by go_num, HB6⟩, by simp only [intOf]; omega⟩
            | some el =>
              rw [he] at hnd
              have HEL := hid_mk he
              have HK : Hid ((kidsB m (id + 1)).length = (kidsB m id).length + el.ks.length) := by show _ = _; rw [kidsB, kidsOf_some he, List.length_append]
              have hkl2 := HKL.out (id + 1)
              rw [HK.out] at hkl2
              have hid := HI.out.id he
              have hpr := HI.out.parRoot he
              clear he
              generalize hKL : (kidsB m id).length = KL at *
              have HKE := hid_mk hKL
              clear hKL
              go_wp2_with (go_at_call 21; refine hnx.mono ?_; clear hnx; rintro e wx ⟨rfl, rfl⟩)
              refine hnd.mono ?_
              rintro x w6 ⟨s, rfl, hE0, hB6⟩
              have hE : ElAt w6 s el := hE0
              obtain ⟨w7, hw7⟩ : ∃ w7, w7 = w6.alloc (.cells #[.int .i64 s.id, .string s.tag, .int .i64 s.par, .slice s.ka s.kn s.kc, .slice s.aa s.an s.ac] 52) := ⟨_, rfl⟩
              have hB67 : Below w6.heap.size w6 w7 := by rw [hw7]; exact (Below.refl _ _).alloc (Nat.le_refl _) _
              have HN7 : Hid (NodeAt w7 w6.heap.size s) := by rw [hw7]; exact heap_alloc_last w6 _
              have HE7 := hid_mk (hE.keep hB67)
              have HB7 : Hid (Below w5.heap.size w5 w7) := HB.out.trans ((hB6.trans (hB67.mono hB6.size)).mono HB.out.size)
              have hsid : s.id = id := hE.1.trans hid
              have hpb : (s.par == 0) = ((id : Int) == 1) := by
                rw [Bool.eq_iff_iff, beq_iff_eq, beq_iff_eq, hE.2.2.1]
                exact hpr
              have hkn := hE.kn
              have han := hE.an
              have hnib : ((s.id : Int) == (id : Int)) = true := by simpa using hsid
              have HSID := hid_mk hsid
              have HW7 := hid_mk hw7
              have hne1 : (s.id != (id : Int)) = false := by simp [hsid]
              have hpb2 : ((s.par == 0) == ((id : Int) == 1)) = true := by rw [hpb]; simp
              clear hnd hB6 hE hE0 hB67 hid hpr hw7 hsid hpb hnib
              have HKN := hid_mk hkn
              have HAN := hid_mk han
              clear hkn han
              obtain ⟨⟨n0, n1, n2, n3, n4⟩, _, _, _, _, _, hgl⟩ := HN7.out.cells
              go_upto_region 17 with (fail)
              rw [← HW7.out]
              have HF7 : Hid (∀ W', Below w7.heap.size w7 W' → W'.cell? ⟨w6.heap.size, 3, none⟩ = some (.slice s.ka s.kn s.kc) ∧ W'.cell? ⟨w6.heap.size, 4, none⟩ = some (.slice s.aa s.an s.ac)) := fun W' hW' => ⟨(hW'.cell (p := ⟨w6.heap.size, 3, none⟩) hgl).trans n3, (hW'.cell (p := ⟨w6.heap.size, 4, none⟩) hgl).trans n4⟩
              have HKC : Hid (∀ W', Below w7.heap.size w7 W' → ∀ t (ht : t < el.ks.length), ∃ ab ao, s.ka = some ⟨ab, ao, none⟩ ∧ W'.cell? ⟨ab, ao + t, none⟩ = some (.int .i64 el.ks[t])) := fun W' hW' t ht => by
                rcases (HE7.out.keep hW').2.2.2.1.2.2.2.2 with ⟨_, h0⟩ | ⟨ab, ao, e1, l1, g1⟩
                · have := HE7.out.2.2.2.1.2.1
                  have := HKN.out
                  omega
                · exact ⟨ab, ao, e1, g1 t _ (intsV_at ht)⟩
              have hcap1 := HE7.out.2.2.2.1.2.1
              have HAC : Hid (∀ W', Below w7.heap.size w7 W' → ∀ t (ht : t < el.us.length), ∃ ab ao, s.aa = some ⟨ab, ao, none⟩ ∧ W'.cell? ⟨ab, ao + t * 2, none⟩ = some (.string el.us[t].1) ∧ W'.cell? ⟨ab, ao + t * 2 + 1, none⟩ = some (.string el.us[t].2)) := fun W' hW' t ht => by
                rcases (HE7.out.keep hW').2.2.2.2.2.2.2.2 with ⟨_, h0⟩ | ⟨ab, ao, e1, l1, g1⟩
                · have := HE7.out.2.2.2.2.2.1
                  have := HAN.out
                  omega
                · obtain ⟨q1, q2⟩ := attrsV_at ht
                  refine ⟨ab, ao, e1, g1 _ _ q1, ?_⟩
                  have := g1 _ _ q2
                  rwa [← Nat.add_assoc] at this
              have hcap2 := HE7.out.2.2.2.2.2.1
              have hknb : s.kn ≤ 200000 := by rw [HKN.out]; omega
              have hanb : s.an ≤ 1000 := by rw [HAN.out]; exact (HI.out.us HEL.out).len
              clear HE7 HN7 HW7
              obtain ⟨id0, tag0, par0, ka, kn, kc, aa, an, ac⟩ := s
              dsimp only at *
              go_wp2
              go_loopw [74] (fun a74 wq => ∃ j : Nat, j ≤ kn ∧ a74 = .int .i64 (j : Int) ∧ Hid (Below w7.heap.size w7 wq)) (fun a74 _ => kn + 1 - (intOf a74).toNat)
              case atStart => exact ⟨0, Nat.zero_le _, rfl, hid_mk (Below.refl _ _)⟩
              case round =>
                obtain ⟨j, hj, rfl, HBq⟩ := hrel
                by_cases hjl : j < kn
                · have hjk : j < el.ks.length := by rw [← HKN.out]; exact hjl
                  obtain ⟨ab, ao, hka, hcl⟩ := HKC.out wr HBq.out j hjk
                  subst hka
                  obtain ⟨c, hc, hcp⟩ := HI.out.kid HEL.out (List.getElem_mem hjk)
                  have HND2 : Hid (∀ t (ht : t < j), el.ks[t]'(by omega) ≠ el.ks[j]) := fun t ht => (List.pairwise_iff_getElem.1 (HI.out.nd HEL.out)) t j (by omega) hjk ht
                  have hnk := HND.out wr el.ks[j] (HB7.out.trans (HBq.out.mono HB7.out.size))
                  rw [hc] at hnk
                  generalize el.ks[j] = kk at *
                  go_wp2_with (go_at_call 22; fail)
                  refine hnk.mono ?_
                  rintro x w8 ⟨s8, rfl, hE8, hB8⟩
                  have hsp : s8.par = (id : Int) := by
                    have : s8.par = c.par := hE8.2.2.1
                    rw [this, hcp]
                  have hsp2 : (s8.par != (id : Int)) = false := by simp [hsp]
                  have HB9 : Hid (Below w7.heap.size w7 (w8.alloc (.cells #[.int .i64 s8.id, .string s8.tag, .int .i64 s8.par, .slice s8.ka s8.kn s8.kc, .slice s8.aa s8.an s8.ac] 52))) := (HBq.out.trans (hB8.mono HBq.out.size)).alloc (HBq.out.trans (hB8.mono HBq.out.size)).size _
                  obtain ⟨w9, hw9⟩ : ∃ w9, w9 = w8.alloc (.cells #[.int .i64 s8.id, .string s8.tag, .int .i64 s8.par, .slice s8.ka s8.kn s8.kc, .slice s8.aa s8.an s8.ac] 52) := ⟨_, rfl⟩
                  have hN9 : NodeAt w9 w8.heap.size s8 := by rw [hw9]; exact heap_alloc_last w8 _
                  obtain ⟨⟨_, _, y2, _, _⟩, _⟩ := hN9.cells
                  rw [← hw9] at HB9
                  obtain ⟨y3, y4⟩ := HF7.out w9 HB9.out
                  have HW9 := hid_mk hw9
                  clear hnk hE8 hB8 hsp hc hcp hcl hN9 hw9
                  go_upto_region 23 with (fail)
                  rw [← HW9.out]
                  go_wp2
                  clear y2 y3 y4 hsp2
                  go_loopw [98] (fun a98 wq => ∃ t : Nat, t ≤ j ∧ a98 = .int .i64 (t : Int) ∧ wq = w9) (fun a98 _ => j + 1 - (intOf a98).toNat)
                  case atStart => exact ⟨0, Nat.zero_le _, rfl, rfl⟩
                  case round =>
                    obtain ⟨t, ht, rfl, hwq⟩ := hrel
                    have hwq2 := hwq.symm
                    subst hwq2
                    clear hwq
                    by_cases htl : t < j
                    · obtain ⟨ab', ao', hka', hcl⟩ := HKC.out w9 HB9.out t (by omega)
                      cases hka'
                      have hne := HND2.out t htl
                      have hne2 : (el.ks[t]'(by omega) == kk) = false := by simpa using hne
                      generalize el.ks[t]'(by omega) = kt at *
                      clear hne HKC HND2
                      go_wp2
                      exact ⟨⟨t + 1, htl, by go_num, trivial⟩, by simp only [intOf]; omega⟩
                    · clear HKC HND2
                      go_wp2
                      exact ⟨⟨j + 1, hjl, by go_num, HB9⟩, by simp only [intOf]; omega⟩
                · obtain rfl : j = kn := by omega
                  obtain ⟨y3, y4⟩ := HF7.out wr HBq.out
                  have HKS : Hid ((kidsB m (id + 1)).length = KL + j) := by show _ = _; rw [HK.out, ← HKN.out]
                  have hks : KL + j ≤ 400000 := by omega
                  clear HK HKC HND
                  go_wp2
                  go_loopw [115] (fun a115 wq => ∃ t : Nat, t ≤ an ∧ a115 = .int .i64 (t : Int) ∧ Hid (Below w7.heap.size w7 wq)) (fun a115 _ => an + 1 - (intOf a115).toNat)
                  case atStart => exact ⟨0, Nat.zero_le _, rfl, HBq⟩
                  case round =>
                    clear HBq y3 y4
                    obtain ⟨t, ht, rfl, HBq⟩ := hrel
                    by_cases htl : t < an
                    · have htu : t < el.us.length := by rw [← HAN.out]; exact htl
                      obtain ⟨ab, ao, hka, q1, q2⟩ := HAC.out wr HBq.out t htu
                      subst hka
                      have hsrt := (HI.out.us HEL.out).srt
                      have hbq := HB7.out.trans (HBq.out.mono HB7.out.size)
                      have hval : attrZ m (id : Int) el.us[t].1 = some el.us[t].2 := by
                        unfold attrZ
                        rw [HEL.out]
                        exact attr_self hsrt htu
                      obtain ⟨w8, hw8⟩ : ∃ w8, w8 = wr.alloc (.cells #[.string el.us[t].1, .string el.us[t].2] 56) := ⟨_, rfl⟩
                      have hA8 : Below wr.heap.size wr w8 := by rw [hw8]; exact (Below.refl _ _).alloc (Nat.le_refl _) _
                      have hb8 : w8.heap[wr.heap.size]? = some (.cells #[.string el.us[t].1, .string el.us[t].2] 56 (0, 0)) := by rw [hw8]; exact heap_alloc_last wr _
                      have hat := HAT.out w8 (id : Int) el.us[t].1 (hbq.trans (hA8.mono hbq.size))
                      rw [hval] at hat
                      have HPV : Hid (0 < t → ∃ pn, w7.heap.size ≤ w7.heap.size ∧ (∀ W', Below w7.heap.size w7 W' → W'.cell? ⟨ab, ao + (t - 1) * 2, none⟩ = some (.string pn)) ∧ Op.bytesLess pn.toList el.us[t].1.toList = true) := fun h0 => by
                        refine ⟨(el.us[t - 1]'(by omega)).1, Nat.le_refl _, fun W' hW' => ?_, ?_⟩
                        · obtain ⟨ab', ao', e1, q1', _⟩ := HAC.out W' hW' (t - 1) (by omega)
                          cases e1
                          exact q1'
                        · have := (List.pairwise_iff_getElem.1 hsrt) (t - 1) t (by omega) htu (by omega)
                          rw [ByteArray.toList_eq, ByteArray.toList_eq]
                          exact less_cmp this
                      generalize el.us[t].1 = an1 at *
                      generalize el.us[t].2 = av at *
                      have HW8 := hid_mk hw8
                      have HB8 : Hid (Below w7.heap.size w7 w8) := HBq.out.trans (hA8.mono HBq.out.size)
                      have HBX := hid_mk hb8
                      have hz8 : w8.cell? ⟨wr.heap.size, 0, none⟩ = some (.string an1) := by simp [World.cell?, hb8]
                      clear hval hA8 hb8 hsrt hbq hw8
                      go_upto_region 36 with (fail)
                      rw [← HW8.out]
                      go_wp2_with (go_at_call 16; fail)
                      refine hat.mono ?_
                      rintro x w9 ⟨rfl, hB9⟩
                      have HB9 : Hid (Below w7.heap.size w7 w9) := HB8.out.trans (hB9.mono HB8.out.size)
                      obtain ⟨y3, y4⟩ := HF7.out w9 HB9.out
                      have hbx9 : w9.heap[wr.heap.size]? = some (.cells #[.string an1, .string av] 56 (0, 0)) := (hB9.block _ (Array.getElem?_eq_some_iff.1 HBX.out).1).trans HBX.out
                      have z0 : w9.cell? ⟨wr.heap.size, 0, none⟩ = some (.string an1) := by simp [World.cell?, hbx9]
                      have z1 : w9.cell? ⟨wr.heap.size, 1, none⟩ = some (.string av) := by simp [World.cell?, hbx9]
                      rw [show (some av).getD (⟨#[]⟩ : ByteArray) = av from rfl, show (some av).isSome = true from rfl]
                      clear hat hB9 hbx9 HBX HW8 hz8 q1 q2
                      by_cases ht0 : t = 0
                      · subst ht0
                        clear HPV
                        go_upto_region 37 with (fail)
                        go_quiet (fail)
                        go_wp2
                        exact ⟨⟨0 + 1, htl, by go_num, hid_mk ⟨HB9.out.os, HB9.out.tape, HB9.out.output, HB9.out.size, HB9.out.block⟩⟩, by simp only [intOf]; omega⟩
                      · obtain ⟨pn, _, hpc, hless⟩ := HPV.out (by omega)
                        have z2 := hpc w9 HB9.out
                        obtain ⟨t', rfl⟩ : ∃ t', t = t' + 1 := ⟨t - 1, by omega⟩
                        rw [Nat.add_sub_cancel] at z2
                        have hd1 : decide ((0 : Int) < ((t' + 1 : Nat) : Int)) = true := decide_eq_true (by omega)
                        have hd2 : decide ((0 : Int) < (t' : Int) + 1) = true := decide_eq_true (by omega)
                        have hbd : t' < an := by omega
                        have hbi : (t' : Int) < (an : Int) := by omega
                        clear HPV hpc ht0
                        go_upto_region 37 with (fail)
                        go_quiet (fail)
                        go_wp2
                        exact ⟨⟨t' + 1 + 1, htl, by go_num, hid_mk ⟨HB9.out.os, HB9.out.tape, HB9.out.output, HB9.out.size, HB9.out.block⟩⟩, by simp only [intOf]; omega⟩
                    · go_wp2
                      exact ⟨⟨id + 1, by omega, by omega, by rw [HKS.out]; go_num, by go_num, hid_mk (HB7.out.trans (HBq.out.mono HB7.out.size))⟩, by simp only [intOf]; omega⟩
          · obtain rfl : id = N := by omega
            have hnx := HNX.out wr HB.out
            have hle := HLE.out wr HB.out
            have hkl := HKL.out id
            generalize (kidsB m id).length = KL at *
            rw [show ((KL + 1 : Nat) : Int) = (KL : Int) + 1 by omega] at hle
            have HBE : Hid (Below W.heap.size W wr) := HBW.out.trans (HB.out.mono HBW.out.size)
            clear HNX HND HAT HLE HKL HI
            go_wp2_with (first
              | (go_at_call 21; refine hnx.mono ?_; clear hnx; rintro e wx ⟨rfl, rfl⟩)
              | (go_at_call 23; refine hle.mono ?_; clear hle; rintro e wx ⟨rfl, rfl⟩)
              | (go_at_call 10; refine (HLV.out _).mono ?_; rintro e w9 ⟨rfl, hB9⟩))
            go_ret
            exact ⟨rfl, HBE.out.trans (hB9.mono HBE.out.size)⟩

end Go.Proofs.Ytecbgleidohjpaa.N
