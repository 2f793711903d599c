/- Two elements alike: gouacheref01.Ints, gouacheref07.Same; two trees alike: equal. Are the program's tree and the document's the very same? -/
import Derived.Test.YtecbgleidohjpaaPakN
import Derived.Test.YtecbgleidohjpaaPlcN
import Derived.Test.YtecbgleidohjpaaRfD
import Derived.Deep.RegionHeld3
namespace Go.Proofs.Ytecbgleidohjpaa.N
open Go.RowKit
set_option maxRecDepth 100000

theorem RowAt.intAt {w : World} {a : Option Addr} {n c : Nat} {ks : List Int} (h : RowAt w 1 a n c (intsV ks)) {t : Nat} (ht : t < ks.length) : ∃ ab ao, a = some ⟨ab, ao, none⟩ ∧ ab < w.heap.size ∧ w.cell? ⟨ab, ao + t, none⟩ = some (.int .i64 ks[t]) := by
  have hl : (intsV ks).length = ks.length := by simp [intsV]
  rcases h.2.2.2.2 with ⟨_, h0⟩ | ⟨ab, ao, e1, l1, g1⟩
  · have := h.1
    have := h.2.1
    omega
  · exact ⟨ab, ao, e1, l1, g1 t _ (intsV_at ht)⟩
theorem RowAt.attAt {w : World} {a : Option Addr} {n c : Nat} {us : Us} (h : RowAt w 2 a n c (attrsV us)) {t : Nat} (ht : t < us.length) : ∃ ab ao, a = some ⟨ab, ao, none⟩ ∧ ab < w.heap.size ∧ w.cell? ⟨ab, ao + t * 2, none⟩ = some (.string us[t].1) ∧ w.cell? ⟨ab, ao + t * 2 + 1, none⟩ = some (.string us[t].2) := by
  have hl := attrsV_len us
  rcases h.2.2.2.2 with ⟨_, h0⟩ | ⟨ab, ao, e1, l1, g1⟩
  · have := h.1
    have := h.2.1
    omega
  · obtain ⟨q1, q2⟩ := attrsV_at ht
    refine ⟨ab, ao, e1, l1, g1 _ _ q1, ?_⟩
    have := g1 _ _ q2
    rwa [← Nat.add_assoc] at this

set_option maxHeartbeats 4000000 in
theorem ints_yes {w : World} {a1 a2 : Option Addr} {n1 n2 c1 c2 : Nat} {ks : List Int} (h1 : RowAt w 1 a1 n1 c1 (intsV ks)) (h2 : RowAt w 1 a2 n2 c2 (intsV ks)) : Calls Try.prog 69 #[.slice a1 n1 c1, .slice a2 n2 c2] w fun e w' => e = .returned (.bool true) ∧ Below w.heap.size w w' := by
  have hl : (intsV ks).length = ks.length := by simp [intsV]
  have hb1 := h1.2.1
  have hb2 := h2.2.1
  have hm1 := h1.2.2.1
  have hm2 := h2.2.2.1
  unfold maxLen at hm1 hm2
  obtain rfl : n1 = ks.length := by have := h1.1; omega
  obtain rfl : n2 = ks.length := by have := h2.1; omega
  have HC : Hid (∀ w', Below w.heap.size w w' → ∀ t (ht : t < ks.length), ∃ ab ao bb bo, a1 = some ⟨ab, ao, none⟩ ∧ a2 = some ⟨bb, bo, none⟩ ∧ w'.cell? ⟨ab, ao + t, none⟩ = some (.int .i64 ks[t]) ∧ w'.cell? ⟨bb, bo + t, none⟩ = some (.int .i64 ks[t])) := fun w' hw' t ht => by
    obtain ⟨ab, ao, e1, l1, g1⟩ := h1.intAt ht
    obtain ⟨bb, bo, e2, l2, g2⟩ := h2.intAt ht
    exact ⟨ab, ao, bb, bo, e1, e2, (hw'.cell (p := ⟨ab, ao + t, none⟩) l1).trans g1, (hw'.cell (p := ⟨bb, bo + t, none⟩) l2).trans g2⟩
  clear h1 h2 hl
  go_enter Try.func69, Try.ntmps69
  go_wp2
  go_loopw [13] (fun a13 wq => ∃ t : Nat, t ≤ ks.length ∧ a13 = .int .i64 (t : Int) ∧ Hid (Below w.heap.size w wq)) (fun a13 _ => ks.length + 1 - (intOf a13).toNat)
  case atStart => exact ⟨0, Nat.zero_le _, rfl, hid_mk (Below.refl _ _)⟩
  case round =>
    obtain ⟨t, ht, rfl, HB⟩ := hrel
    by_cases htl : t < ks.length
    · obtain ⟨ab, ao, bb, bo, rfl, rfl, q1, q2⟩ := HC.out wr HB.out t htl
      generalize ks[t] = v at *
      have hne : (v != v) = false := by simp
      clear HC
      go_upto_region 6 with (fail)
      go_quiet (fail)
      go_wp2
      exact ⟨⟨t + 1, htl, by go_num, hid_mk ⟨HB.out.os, HB.out.tape, HB.out.output, HB.out.size, HB.out.block⟩⟩, by simp only [intOf]; omega⟩
    · go_wp2
      go_ret
      exact ⟨rfl, HB.out⟩

theorem str_eq (w : World) (d : Nat) (x : ByteArray) : (Op.equalIn (d + 1) 9 (.string x) (.string x)).run Try.prog w = .ok true w := by
  have hx : (x == x) = true := by rw [beq_toListBytes]; simp
  simp [Op.equalIn, run_underlying Try.underlying9, hx]
theorem fields71 : Try.prog.underlying 56 = some (.struct (Try.prog.fieldsOf 56)) := by kernel_rfl
theorem attr_eq (w : World) (d : Nat) (x y : ByteArray) : (Op.equalIn (d + 2) 56 (.agg #[.string x, .string y]) (.agg #[.string x, .string y])).run Try.prog w = .ok true w := by
  have a1 := Try.isAgg9
  have q1 := str_eq
  rw [run_equalIn_struct w (d + 1) 56 _ _ fields71 (by kernel_rfl)]
  simp only [Program.fieldsOf, Try.underlying56]
  simp [Op.eqFields, part, a1, q1]
theorem attr_neq (w : World) (x y : ByteArray) : (binOp .neq 56 (.agg #[.string x, .string y]) (.agg #[.string x, .string y])).run Try.prog w = .ok (.bool false) w := by
  have h := attr_eq w 9998 x y
  simp only [binOp]
  simp [Op.equal, Op.maxDepth, h]

set_option maxHeartbeats 4000000 in
theorem same_yes {w : World} {s1 s2 : N5} {e : El} (h1 : ElAt w s1 e) (h2 : ElAt w s2 e) : Calls Try.prog 40 #[.agg #[.int .i64 s1.id, .string s1.tag, .int .i64 s1.par, .slice s1.ka s1.kn s1.kc, .slice s1.aa s1.an s1.ac], .agg #[.int .i64 s2.id, .string s2.tag, .int .i64 s2.par, .slice s2.ka s2.kn s2.kc, .slice s2.aa s2.an s2.ac]] w fun x w' => x = .returned (.bool true) ∧ Below w.heap.size w w' := by
  have ha1 := h1.an
  have ha2 := h2.an
  obtain ⟨i1, t1, p1, ka1, kn1, kc1, aa1, an1, ac1⟩ := s1
  obtain ⟨i2, t2, p2, ka2, kn2, kc2, aa2, an2, ac2⟩ := s2
  obtain ⟨ei, et, ep, ks, us⟩ := e
  dsimp only [ElAt] at *
  obtain ⟨rfl, rfl, rfl, hk1, hu1⟩ := h1
  obtain ⟨rfl, rfl, rfl, hk2, hu2⟩ := h2
  subst ha1 ha2
  obtain ⟨W, hW⟩ : ∃ W, W = (w.alloc (.cells #[.int .i64 i2, .string t2, .int .i64 p2, .slice ka1 kn1 kc1, .slice aa1 us.length ac1] 52)).alloc (.cells #[.int .i64 i2, .string t2, .int .i64 p2, .slice ka2 kn2 kc2, .slice aa2 us.length ac2] 52) := ⟨_, rfl⟩
  have hBW : Below w.heap.size w W := by
    rw [hW]
    exact ((Below.refl _ _).alloc (Nat.le_refl _) _).alloc ((Below.refl _ _).alloc (Nat.le_refl _) _).size _
  have hs1 : (w.alloc (.cells #[.int .i64 i2, .string t2, .int .i64 p2, .slice ka1 kn1 kc1, .slice aa1 us.length ac1] 52)).heap.size = w.heap.size + 1 := by simp
  have hN1 : NodeAt W w.heap.size ⟨i2, t2, p2, ka1, kn1, kc1, aa1, us.length, ac1⟩ := by
    rw [hW]
    exact (((Below.refl (w.heap.size + 1) _).alloc (by rw [hs1]; omega) _).block _ (by omega)).trans (heap_alloc_last w _)
  have hN2 : NodeAt W (w.heap.size + 1) ⟨i2, t2, p2, ka2, kn2, kc2, aa2, us.length, ac2⟩ := by
    rw [hW, ← hs1]
    exact heap_alloc_last _ _
  have hints := ints_yes (hk1.keep hBW) (hk2.keep hBW)
  have HC : Hid (∀ w', Below w.heap.size w w' → ∀ t (ht : t < us.length), ∃ ab ao bb bo, aa1 = some ⟨ab, ao, none⟩ ∧ aa2 = some ⟨bb, bo, none⟩ ∧ (w'.cell? ⟨ab, ao + t * 2, none⟩ = some (.string us[t].1) ∧ w'.cell? ⟨ab, ao + t * 2 + 1, none⟩ = some (.string us[t].2)) ∧ (w'.cell? ⟨bb, bo + t * 2, none⟩ = some (.string us[t].1) ∧ w'.cell? ⟨bb, bo + t * 2 + 1, none⟩ = some (.string us[t].2))) := fun w' hw' t ht => by
    obtain ⟨ab, ao, e1, l1, g1, g1'⟩ := hu1.attAt ht
    obtain ⟨bb, bo, e2, l2, g2, g2'⟩ := hu2.attAt ht
    exact ⟨ab, ao, bb, bo, e1, e2, ⟨(hw'.cell (p := ⟨ab, ao + t * 2, none⟩) l1).trans g1, (hw'.cell (p := ⟨ab, ao + t * 2 + 1, none⟩) l1).trans g1'⟩, ⟨(hw'.cell (p := ⟨bb, bo + t * 2, none⟩) l2).trans g2, (hw'.cell (p := ⟨bb, bo + t * 2 + 1, none⟩) l2).trans g2'⟩⟩
  have hc1 := hu1.2.1
  have hc2 := hu2.2.1
  have hm1 := hu1.2.2.1
  have hm2 := hu2.2.2.1
  unfold maxLen at hm1 hm2
  obtain ⟨⟨n0, n1, n2, n3, n4⟩, _, _, _, _, _, hgl⟩ := hN1.cells
  obtain ⟨⟨o0, o1, o2, o3, o4⟩, _, _, _, _, _, hol⟩ := hN2.cells
  dsimp only at n0 n1 n2 n3 n4 o0 o1 o2 o3 o4
  have HW := hid_mk hW
  have HBW := hid_mk hBW
  have hi2 : (i2 != i2) = false := by simp
  have hp2 : (p2 != p2) = false := by simp
  have ht3 : (t2.toList == t2.toList) = true := by simp
  have ht4 : (t2 == t2) = true := by rw [beq_toListBytes]; simp
  have ht2 : (t2 != t2) = false := by simp [bne, ht4]
  clear hk1 hk2 hu1 hu2 hN1 hN2 hs1 hBW hW
  go_enter Try.func40, Try.ntmps40
  go_upto_region 1 with (fail)
  rw [← HW.out]
  go_wp2_with (go_at_call 69; refine hints.mono ?_; clear hints; rintro e w3 ⟨rfl, hB3⟩; have HB3 := hid_mk hB3; clear hB3; have y4 := (HB3.out.cell (p := ⟨w.heap.size, 4, none⟩) hgl).trans n4; have z4 := (HB3.out.cell (p := ⟨w.heap.size + 1, 4, none⟩) hol).trans o4)
  clear y4 z4
  go_loopw [45] (fun a45 wq => ∃ t : Nat, t ≤ us.length ∧ a45 = .int .i64 (t : Int) ∧ Hid (Below W.heap.size W wq)) (fun a45 _ => us.length + 1 - (intOf a45).toNat)
  case atStart => exact ⟨0, Nat.zero_le _, rfl, HB3⟩
  case round =>
    clear HB3
    obtain ⟨t, ht, rfl, HB⟩ := hrel
    by_cases htl : t < us.length
    · obtain ⟨ab, ao, bb, bo, rfl, rfl, ⟨q1, q2⟩, q3, q4⟩ := HC.out wr (HBW.out.trans (HB.out.mono HBW.out.size)) t htl
      have y4 := (HB.out.cell (p := ⟨w.heap.size, 4, none⟩) hgl).trans n4
      have z4 := (HB.out.cell (p := ⟨w.heap.size + 1, 4, none⟩) hol).trans o4
      generalize us[t].1 = x at *
      generalize us[t].2 = y at *
      have hq := fun w' => attr_neq w' x y
      clear HC n0 n1 n2 n3 n4 o0 o1 o2 o3 o4 hi2 hp2 ht2 ht3 ht4
      go_upto_region 6 with (fail)
      go_quiet (fail)
      go_wp2
      exact ⟨⟨t + 1, htl, by go_num, hid_mk ⟨HB.out.os, HB.out.tape, HB.out.output, HB.out.size, HB.out.block⟩⟩, by simp only [intOf]; omega⟩
    · go_wp2
      go_ret
      exact ⟨rfl, HBW.out.trans (HB.out.mono HBW.out.size)⟩

end Go.Proofs.Ytecbgleidohjpaa.N
namespace Go.Proofs.Ytecbgleidohjpaa.N
open Go.RowKit
set_option maxRecDepth 100000

theorem RTree.cnt {w : World} {rp : Value} {L : List El} {m : M} {nx : Int} (h : RTree w rp L m nx) : Cnt m L.length := by
  refine ⟨L.map (·.id), h.2.2.1, by simp, fun n => ?_⟩
  constructor
  · intro hn
    obtain ⟨e, he, rfl⟩ := List.mem_map.1 hn
    rw [h.mem he]
    simp
  · intro hn
    obtain ⟨e, he⟩ := Option.ne_none_iff_exists'.1 hn
    rw [← h.2.1] at he
    obtain ⟨h1, h2⟩ := find_id he
    exact List.mem_map.2 ⟨e, h1, h2⟩
set_option maxHeartbeats 4000000 in
theorem rsame_yes {w : World} {dp : Value} {b : Nat} {L : List El} {m : M} {nx : Int} (h1 : Tree w dp m nx) (h2 : RTree w (.pointer (some ⟨b, 0, none⟩)) L m nx) : Calls Try.prog 15 #[dp, .pointer (some ⟨b, 0, none⟩)] w fun x w' => x = .returned (.bool true) ∧ Below w.heap.size w w' := by
  have HLE : Hid (∀ w', Below w.heap.size w w' → Calls Try.prog 23 #[dp] w' fun e w'' => e = .returned (.int .i64 (L.length : Nat)) ∧ w'' = w') := fun w' hw' => dom_len (h1.keep hw').1 h2.cnt
  have HNX : Hid (∀ w', Below w.heap.size w w' → Calls Try.prog 21 #[dp] w' fun e w'' => e = .returned (.int .i64 nx) ∧ w'' = w') := fun w' hw' => dom_next (h1.keep hw').1
  obtain ⟨bb, a, n, c, e0, hbl, hL, rfl, hnc, hcm, hcell⟩ := h2.1.cells
  cases e0
  have HCL : Hid (∀ W, Below w.heap.size w W → W.cell? ⟨b, 0, none⟩ = some (.slice a L.length c) ∧ W.cell? ⟨b, 1, none⟩ = some (.int .i64 nx)) := fun W hW => hcell W hW
  have HC : Hid (∀ w', Below w.heap.size w w' → ∀ i (hi : i < L.length), ∃ (s : N5) (ab ao : Nat), a = some ⟨ab, ao, none⟩ ∧ ElAt w' s L[i] ∧ w'.cell? ⟨ab, ao + i * 5, none⟩ = some (.int .i64 s.id) ∧ w'.cell? ⟨ab, ao + i * 5 + 1, none⟩ = some (.string s.tag) ∧ w'.cell? ⟨ab, ao + i * 5 + 2, none⟩ = some (.int .i64 s.par) ∧ w'.cell? ⟨ab, ao + i * 5 + 3, none⟩ = some (.slice s.ka s.kn s.kc) ∧ w'.cell? ⟨ab, ao + i * 5 + 4, none⟩ = some (.slice s.aa s.an s.ac)) := fun w' hw' i hi => by
    obtain ⟨s, ab, ao, e, _, hE, g0, g1, g2, g3, g4⟩ := (hL.keep hw').at hi
    exact ⟨s, ab, ao, e, hE, g0, g1, g2, g3, g4⟩
  have HND : Hid (∀ w' i (hi : i < L.length), Below w.heap.size w w' → Calls Try.prog 22 #[dp, .int .i64 L[i].id] w' fun x w'' => ∃ s : N5, x = .returned (.tuple #[.agg #[.int .i64 s.id, .string s.tag, .int .i64 s.par, .slice s.ka s.kn s.kc, .slice s.aa s.an s.ac], .bool true]) ∧ ElAt w'' s L[i] ∧ Below w'.heap.size w' w'') := fun w' i hi hw' => by
    have := tree_node (h1.keep hw') L[i].id
    rw [h2.mem (List.getElem_mem hi)] at this
    exact this
  have hlen : L.length ≤ 9223372036854775807 := by omega
  clear h1 h2 hL hcell
  go_enter Try.func15, Try.ntmps15
  go_upto_region 1 with (fail)
  have hll : ((L.length : Int) != (L.length : Int)) = false := by simp
  have hnn : (nx != nx) = false := by simp
  have gd : Below w.heap.size w w.drew := (Below.refl _ _).drew
  have hle := HLE.out _ gd
  have hnx := HNX.out _ gd
  go_region_held3 (fun w' => w'.cell? ⟨b, 0, none⟩ = some (.slice a L.length c) ∧ w'.cell? ⟨b, 1, none⟩ = some (.int .i64 nx))
    (first | with_reducible exact HCL.out _ gd)
    (first
      | (go_at_call 23; with_reducible refine hle.mono ?_; rintro e wa ⟨rfl, rfl⟩)
      | (go_at_call 21; with_reducible refine hnx.mono ?_; rintro e wa ⟨rfl, rfl⟩))
  all_goals
  obtain ⟨y0, _⟩ := HCL.out _ gd
  have HG := hid_mk gd
  clear hle hnx gd HLE HNX hll hnn
  generalize w.drew = w0 at *
  go_wp2
  go_loopw [31] (fun a31 wq => ∃ t : Nat, t ≤ L.length ∧ a31 = .int .i64 (t : Int) ∧ Hid (Below w.heap.size w wq)) (fun a31 _ => L.length + 1 - (intOf a31).toNat)
  case atStart => exact ⟨0, Nat.zero_le _, rfl, HG⟩
  case round =>
    clear y0 HG
    obtain ⟨t, ht, rfl, HB⟩ := hrel
    by_cases htl : t < L.length
    · obtain ⟨s1, ab, ao, rfl, hE1, g0, g1, g2, g3, g4⟩ := HC.out wr HB.out t htl
      obtain ⟨w3, hw3⟩ : ∃ w3, w3 = wr.alloc (.cells #[.int .i64 s1.id, .string s1.tag, .int .i64 s1.par, .slice s1.ka s1.kn s1.kc, .slice s1.aa s1.an s1.ac] 52) := ⟨_, rfl⟩
      have hB3 : Below wr.heap.size wr w3 := by rw [hw3]; exact (Below.refl _ _).alloc (Nat.le_refl _) _
      have hN3 : NodeAt w3 wr.heap.size s1 := by rw [hw3]; exact heap_alloc_last wr _
      obtain ⟨⟨n0, _, _, _, _⟩, _, _, _, _, _, hgl⟩ := hN3.cells
      rw [hE1.1] at n0
      have HE3 := hid_mk (hE1.keep hB3)
      have HN3 := hid_mk hN3
      have HB3 : Hid (Below w.heap.size w w3) := HB.out.trans (hB3.mono HB.out.size)
      have hnd := HND.out w3 t htl HB3.out
      have HW3 := hid_mk hw3
      generalize L[t] = el at *
      clear hE1 hB3 hN3 hw3 HC HND HB hgl HCL
      go_upto_region 6 with (fail)
      rw [← HW3.out]
      clear g0 g1 g2 g3 g4
      go_wp2_with (go_at_call 22; fail)
      refine hnd.mono ?_
      rintro x w4 ⟨s2, rfl, hE4, hB4⟩
      obtain ⟨w5, hw5⟩ : ∃ w5, w5 = w4.alloc (.cells #[.int .i64 s2.id, .string s2.tag, .int .i64 s2.par, .slice s2.ka s2.kn s2.kc, .slice s2.aa s2.an s2.ac] 52) := ⟨_, rfl⟩
      have hB45 : Below w4.heap.size w4 w5 := by rw [hw5]; exact (Below.refl _ _).alloc (Nat.le_refl _) _
      have hB35 : Below w3.heap.size w3 w5 := hB4.trans (hB45.mono hB4.size)
      have HN5 : Hid (NodeAt w5 w4.heap.size s2) := by rw [hw5]; exact heap_alloc_last w4 _
      have hS := same_yes (hE4.keep hB45) (HE3.out.keep hB35)
      have HB5 : Hid (Below w.heap.size w w5) := HB3.out.trans (hB35.mono HB3.out.size)
      have HN3' : Hid (NodeAt w5 wr.heap.size s1) := (hB35.block _ (Array.getElem?_eq_some_iff.1 HN3.out).1).trans HN3.out
      have HW5 := hid_mk hw5
      obtain ⟨⟨p0, p1, p2, p3, p4⟩, _⟩ := HN3'.out.cells
      obtain ⟨⟨o0, o1, o2, o3, o4⟩, _⟩ := HN5.out.cells
      clear hnd hE4 hB4 hB45 hB35 hw5 HE3 HB3 HW3 HN3 HN3' HN5 n0
      go_upto_region 7 with (fail)
      rw [← HW5.out]
      go_wp2_with (go_at_call 40; refine hS.mono ?_; clear hS; rintro e w6 ⟨rfl, hB6⟩)
      exact ⟨⟨t + 1, htl, by go_num, hid_mk (HB5.out.trans (hB6.mono HB5.out.size))⟩, by simp only [intOf]; omega⟩
    · go_wp2
      go_ret
      exact ⟨rfl, HB.out⟩

end Go.Proofs.Ytecbgleidohjpaa.N
