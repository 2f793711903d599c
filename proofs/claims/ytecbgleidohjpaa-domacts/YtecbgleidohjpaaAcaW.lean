/- DomActs: the walk. -/
import Derived.Test.YtecbgleidohjpaaSamN
import Derived.Test.YtecbgleidohjpaaRfL
import Derived.Test.YtecbgleidohjpaaLitN
namespace Go.Proofs.Ytecbgleidohjpaa.N
open Go.RowKit
set_option maxRecDepth 100000

set_option maxHeartbeats 8000000 in
theorem acts_walk {W : World} (tag : ByteArray) {v : Value} {xs : List Act6} (ask : Int) (hts : tag.size ≤ 140737488355328) (hp : ActsIn W v xs) : Calls Try.prog 3 #[.string tag, v, .int .i64 ask] W fun e w' => e = .returned (.bool true) ∧ Below W.heap.size W w' := by
  have hlight := light_any hp
  have HLV : Hid (∀ w', Calls Try.prog 10 #[] w' fun e w'' => e = .returned (.bool true) ∧ Below w'.heap.size w' w'') := fun w' => lives_any w'
  obtain ⟨hA, hsz⟩ := hp
  have HZ : Hid (∀ z ∈ xs, z.nm.size ≤ 281474976710656 ∧ z.v.size ≤ 281474976710656) := fun z hz => by
    obtain ⟨h1, h2⟩ := hsz z hz
    omega
  have HC : Hid (∀ i (hi : i < xs.length), _) := fun i hi => hA.cells hi
  obtain ⟨a, cap, rfl, hcap, hmax, hx⟩ := hA
  clear hx hsz
  by_cases h500 : 500 < tag.size
  · have h5 : (500 : Int) < (tag.size : Int) := by omega
    clear hlight HZ HC
    go_enter Try.func3, Try.ntmps3
    go_wp2_with (go_at_call 10; refine (HLV.out _).mono ?_; rintro e w2 ⟨rfl, hB2⟩)
    go_ret
    exact ⟨rfl, hB2⟩
  have h5 : ¬ (500 : Int) < (tag.size : Int) := by omega
  have hts2 : tag.size ≤ 500 := by omega
  clear h500 hts
  go_enter Try.func3, Try.ntmps3
  go_wp2_with (go_at_call 9; fail)
  refine hlight.mono ?_
  rintro e w1 ⟨lb, rfl, hlen, hB1⟩
  have HB1 := hid_mk hB1
  clear hlight hB1
  cases lb with
  | false =>
    go_wp2_with (go_at_call 10; refine (HLV.out _).mono ?_; rintro e w2 ⟨rfl, hB2⟩)
    go_ret
    exact ⟨rfl, HB1.out.trans (hB2.mono HB1.out.size)⟩
  | true =>
    have h130 := hlen rfl
    clear hlen
    cases hz : nameZ tag with
    | false =>
      have hn1 := new_no tag w1 (by unfold maxLen; omega) hz
      have hn2 := fun w' => rnew_no tag w' (by omega) hz
      have HN2 := hid_mk hn2
      clear hn2
      go_wp2_with (go_at_call 11; fail)
      refine hn1.mono ?_
      rintro e w2 ⟨rfl, hB2⟩
      have HB2 : Hid (Below W.heap.size W w2) := HB1.out.trans (hB2.mono HB1.out.size)
      clear hn1 hB2 HB1
      go_wp2_with (go_at_call 12; fail)
      refine (HN2.out _).mono ?_
      rintro e wx ⟨rfl, hx⟩
      have hx2 := hx.symm
      subst hx2
      clear HN2 HZ HC hx
      go_wp2_with (go_at_call 10; refine (HLV.out _).mono ?_; rintro e w3 ⟨rfl, hB3⟩)
      go_ret
      exact ⟨rfl, HB2.out.trans (hB3.mono HB2.out.size)⟩
    | true =>
      have hn1 := tree_new tag w1 (by unfold maxLen; omega) hz
      have hn2 := fun w' => rnew_yes tag w' (by omega) hz
      have HN2 := hid_mk hn2
      clear hn2
      go_wp2_with (go_at_call 11; fail)
      refine hn1.mono ?_
      rintro e w2 ⟨b2, rfl, hT2, hB2⟩
      have HT2 := hid_mk hT2
      have HB2 : Hid (Below W.heap.size W w2) := HB1.out.trans (hB2.mono HB1.out.size)
      clear hn1 hB2 HB1 hT2
      go_wp2_with (go_at_call 12; fail)
      refine (HN2.out _).mono ?_
      rintro e w3 ⟨b3, rfl, hT3, hB3⟩
      have HB3 : Hid (Below W.heap.size W w3) := HB2.out.trans (hB3.mono HB2.out.size)
      have HT3 := hid_mk hT3
      have HT2' := hid_mk (HT2.out.keep hB3)
      clear HN2 hB3 hT3 HT2 HB2
      go_wp2
      go_loopw [7, 9, 55] (fun a7 a9 a55 wr => ∃ (i b c : Nat) (m : M) (L : List El) (nx : Int), i ≤ xs.length ∧ a7 = .pointer (some ⟨b, 0, none⟩) ∧ a9 = .pointer (some ⟨c, 0, none⟩) ∧ a55 = .int .i64 (i : Int) ∧ nx ≤ i + 2 ∧ Hid (Tree wr (.pointer (some ⟨b, 0, none⟩)) m nx) ∧ Hid (RTree wr (.pointer (some ⟨c, 0, none⟩)) L m nx) ∧ Hid (Below W.heap.size W wr)) (fun _ _ a55 _ => xs.length + 1 - (intOf a55).toNat)
      case atStart => exact ⟨0, b2, b3, _, _, 2, Nat.zero_le _, rfl, rfl, rfl, by omega, HT2', HT3, HB3⟩
      case round =>
        clear HT2' HT3 HB3
        obtain ⟨i, b, c, m, L, nx, hi, rfl, rfl, rfl, hnx, HT, HR, HB⟩ := hrel
        by_cases hlt : i < xs.length
        · obtain ⟨bx, off, cap', e, _, hbl, q0, q1, q2, q3, q4, q5⟩ := HC.out i hlt
          cases e
          obtain ⟨z1, z2⟩ := HZ.out xs[i] (List.getElem_mem hlt)
          have c0 := (HB.out.cell (p := ⟨bx, off + i * 6, none⟩) hbl).trans q0
          have c1 := (HB.out.cell (p := ⟨bx, off + i * 6 + 1, none⟩) hbl).trans q1
          have c2 := (HB.out.cell (p := ⟨bx, off + i * 6 + 2, none⟩) hbl).trans q2
          have c3 := (HB.out.cell (p := ⟨bx, off + i * 6 + 3, none⟩) hbl).trans q3
          have c4 := (HB.out.cell (p := ⟨bx, off + i * 6 + 4, none⟩) hbl).trans q4
          have c5 := (HB.out.cell (p := ⟨bx, off + i * 6 + 5, none⟩) hbl).trans q5
          generalize xs[i] = z at *
          obtain ⟨w5, hw5⟩ : ∃ w5, w5 = wr.alloc (.cells #[.int .i64 z.k, .int .i64 z.x, .int .i64 z.y, .int .i64 z.z, .string z.nm, .string z.v] 33) := ⟨_, rfl⟩
          have hA5 : Below wr.heap.size wr w5 := by rw [hw5]; exact (Below.refl _ _).alloc (Nat.le_refl _) _
          have hb5 : w5.heap[wr.heap.size]? = some (.cells #[.int .i64 z.k, .int .i64 z.x, .int .i64 z.y, .int .i64 z.z, .string z.nm, .string z.v] 33 (0, 0)) := by rw [hw5]; exact heap_alloc_last wr _
          have hl5 : wr.heap.size < w5.heap.size := (Array.getElem?_eq_some_iff.1 hb5).1
          have hact := act_any (HT.out.keep hA5) (by omega) z (by unfold maxLen; omega) (by unfold maxLen; omega)
          rw [show z.cells.toArray = #[.int .i64 z.k, .int .i64 z.x, .int .i64 z.y, .int .i64 z.z, .string z.nm, .string z.v] from rfl] at hact
          have HLK : Hid (∀ w', Below w5.heap.size w5 w' → Calls Try.prog 14 #[.pointer (some ⟨c, 0, none⟩), .agg #[.int .i64 z.k, .int .i64 z.x, .int .i64 z.y, .int .i64 z.z, .string z.nm, .string z.v]] w' (LikP w' m nx z)) := fun w' hw' => like_any ((HR.out.keep hA5).keep hw') (by omega) z z1 z2
          have HF : Hid (∀ W', Below w5.heap.size w5 W' → (W'.cell? ⟨wr.heap.size, 0, none⟩ = some (.int .i64 z.k) ∧ W'.cell? ⟨wr.heap.size, 1, none⟩ = some (.int .i64 z.x) ∧ W'.cell? ⟨wr.heap.size, 2, none⟩ = some (.int .i64 z.y) ∧ W'.cell? ⟨wr.heap.size, 3, none⟩ = some (.int .i64 z.z) ∧ W'.cell? ⟨wr.heap.size, 4, none⟩ = some (.string z.nm) ∧ W'.cell? ⟨wr.heap.size, 5, none⟩ = some (.string z.v))) := fun W' hW' => by
            have h7 := (hW'.block _ hl5).trans hb5
            refine ⟨?_, ?_, ?_, ?_, ?_, ?_⟩ <;> simp [World.cell?, h7]
          have HB5 : Hid (Below W.heap.size W w5) := HB.out.trans (hA5.mono HB.out.size)
          have HW5 := hid_mk hw5
          clear q0 q1 q2 q3 q4 q5 hA5 hb5 hl5 HT HR HB hw5
          go_upto_region 12 with (fail)
          rw [← HW5.out]
          clear c0 c1 c2 c3 c4 c5
          obtain ⟨f0, f1, f2, f3, f4, f5⟩ := HF.out w5 (Below.refl _ _)
          go_wp2_with (go_at_call 13; fail)
          refine hact.mono ?_
          rintro e w6 ⟨b6, m6, nx6, rid6, err6, rfl, hR6, hT6, _, _, hn6, hB6⟩
          have HT6 := hid_mk hT6
          have HR6 := hid_mk hR6
          have HB6 := hid_mk hB6
          clear hact hT6 hR6 hB6 f0 f1 f2 f3 f4 f5
          obtain ⟨f0, f1, f2, f3, f4, f5⟩ := HF.out w6 HB6.out
          go_wp2_with (go_at_call 14; fail)
          refine (HLK.out _ HB6.out).mono ?_
          rintro e w7 ⟨b7, L7, m7, nx7, rid7, err7, rfl, hR7, hT7, _, _, hB7⟩
          obtain ⟨e1, e2, e3, e4⟩ := ActR.uniq HR6.out hR7
          subst e1 e2 e3 e4
          have HT7 := hid_mk (HT6.out.keep hB7)
          have HR7 := hid_mk hT7
          have HB57 := hid_mk (HB6.out.trans (hB7.mono HB6.out.size))
          have hne1 : (err6 != err6) = false := by simp
          have hne2 : (rid6 != rid6) = false := by simp
          have hsm := rsame_yes HT7.out HR7.out
          clear hT7 hR7 hB7 HT6 HR6 HB6 HLK f0 f1 f2 f3 f4 f5
          go_upto_region 18 with (go_at_call 15; refine hsm.mono ?_; clear hsm; rintro e w8 ⟨rfl, hB8⟩; have HB78 := hid_mk hB8; clear hB8)
          have HB58 := hid_mk (HB57.out.trans (HB78.out.mono HB57.out.size))
          have HT8 := hid_mk (HT7.out.keep HB78.out)
          have HR8 := hid_mk (HR7.out.keep HB78.out)
          obtain ⟨_, _, _, _, f4, _⟩ := HF.out w8 HB58.out
          have hat := tree_attr HT8.out ask z.nm
          have HRA : Hid (∀ w', Below w8.heap.size w8 w' → _) := fun w' hw' => rattr_any (HR8.out.keep hw') ask z.nm
          generalize (attrZ m6 ask z.nm).getD ⟨#[]⟩ = av at *
          generalize (attrZ m6 ask z.nm).isSome = ab at *
          clear HT7 HR7 HB78 HB57 hne1 hne2
          go_wp2_with (go_at_call 16; fail)
          refine hat.mono ?_
          rintro e w9 ⟨rfl, hB9⟩
          have HB9 := hid_mk hB9
          clear hat hB9 f4
          obtain ⟨_, _, _, _, f4, _⟩ := HF.out w9 (HB58.out.trans (HB9.out.mono HB58.out.size))
          go_wp2_with (go_at_call 17; fail)
          refine (HRA.out _ HB9.out).mono ?_
          rintro e w10 ⟨rfl, hB10⟩
          have HB810 := hid_mk (HB9.out.trans (hB10.mono HB9.out.size))
          have HTe := hid_mk (HT8.out.keep HB810.out)
          have HRe := hid_mk (HR8.out.keep HB810.out)
          have HBe := hid_mk (HB5.out.trans ((HB58.out.trans (HB810.out.mono HB58.out.size)).mono HB5.out.size))
          have hv3 : (av.toList == av.toList) = true := by simp
          have hv4 : (av == av) = true := by rw [beq_toListBytes]; simp
          have hv2 : (av != av) = false := by simp [bne, hv4]
          have hbb : (ab == ab) = true := by simp
          have hbn : (ab != ab) = false := by simp
          clear hB10 HB9 HRA HT8 HR8 HB58 HB810 HF f4
          go_wp2
          exact ⟨⟨i + 1, b6, b7, m6, L7, nx6, hlt, rfl, rfl, by go_num, by omega, HTe, HRe, HBe⟩, by simp only [intOf]; omega⟩
        · clear HC HZ HT HR
          go_wp2_with (go_at_call 10; refine (HLV.out _).mono ?_; rintro e w3 ⟨rfl, hB3⟩)
          go_ret
          exact ⟨rfl, HB.out.trans (hB3.mono HB.out.size)⟩

end Go.Proofs.Ytecbgleidohjpaa.N
