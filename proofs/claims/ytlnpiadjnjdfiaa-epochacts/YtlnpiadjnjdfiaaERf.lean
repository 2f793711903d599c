/- The document's Reclaim. -/
import Derived.Test.YtlnpiadjnjdfiaaERd
namespace Go.Proofs.Ytlnpiadjnjdfiaa.E
open Go.RowKit
set_option maxRecDepth 100000

/-- Does nobody see it? As a question. -/
def okB (p : Int × Bool) (r : It) : Bool := !p.2 || decide (r.2 < p.1)
theorem okB_iff (p : Int × Bool) (r : It) : okB p r = true ↔ okR p r := by
  unfold okB okR
  cases p.2 <;> simp
/-- What the document's Reclaim has done with the first k. -/
structure RcK (w wr : World) (p : Int × Bool) (L : List It) (k : Nat) (u3 u4 : Value) : Prop where
  ids : wr.ownsRow w.heap.size 3 1 u3 ((L.take k).filter (okB p)).length (((L.take k).filter (okB p)).map idV)
  left : OL wr w.heap.size u4 ((L.take k).filter (fun r => !okB p r))
  ne : ∀ g, u3.ownBlock = some g → u4.ownBlock ≠ some g
  below : Below w.heap.size w wr
def RRec (w : World) (b : Nat) (now : Int) (us : Value) (S : List Int) (L : List It) (e : Ending) (w' : World) : Prop := ∃ u u4, e = .returned u ∧ w'.ownsRow w.heap.size 3 1 u (L.filter (okB (leastZ S))).length ((L.filter (okB (leastZ S))).map idV) ∧ RS w' b now us S u4 (L.filter (fun r => !okB (leastZ S) r)) ∧ Kx b b w w' ∧ (∀ g, u4.ownBlock = some g → w.heap.size ≤ g)
theorem RcK.ids_step {w wr w4 : World} {p : Int × Bool} {L : List It} {k : Nat} {u3 u4 u : Value} {r : It} {z : Obj} (h : RcK w wr p L k u3 u4) (hr : L[k]? = some r) (hok : okB p r = true) (hu : w4.ownsRow w.heap.size 3 1 u (((L.take k).filter (okB p)).length + 1) (((L.take k).filter (okB p)).map idV ++ [idV r])) (hg : (wr.alloc z).grownBy w4 u3.ownBlock) (hat : u.ownBlock = u3.ownBlock ∨ u.ownBlock = some (wr.alloc z).heap.size) : RcK w w4 p L (k + 1) u u4 := by
  have hb1 : Below wr.heap.size wr (wr.alloc z) := (Below.refl _ _).alloc (Nat.le_refl _) _
  have hl1 : OL (wr.alloc z) w.heap.size u4 ((L.take k).filter (fun r => !okB p r)) := h.left.below hb1
  refine ⟨?_, ?_, fun g e => ?_, (h.below.trans (hb1.mono h.below.size)).grown hg (Nat.le_trans h.below.size hb1.size) (fun k e => (h.ids.lt k e).1)⟩
  · rw [List.take_add_one, hr, List.filter_append]
    simp only [Option.toList_some, List.filter_cons, hok, if_true, List.filter_nil, List.length_append, List.length_singleton, List.map_append, List.map_cons, List.map_nil]
    exact hu
  · rw [List.take_add_one, hr, List.filter_append]
    simp only [Option.toList_some, List.filter_cons, hok, Bool.not_true, Bool.false_eq_true, if_false, List.filter_nil, List.append_nil]
    exact ownsRow_keep hl1 (fun g hgl e => hg.block g hgl (fun e2 => h.ne g e2.symm e))
  · rcases hat with ha | ha
    · exact h.ne g (by rw [← ha]; exact e)
    · rw [e] at ha
      have ha : g = (wr.alloc z).heap.size := Option.some.inj ha
      intro e4
      have := (World.ownsRow.lt hl1 g e4).2
      omega
theorem RcK.left_step {w wr w4 : World} {p : Int × Bool} {L : List It} {k : Nat} {u3 u4 u : Value} {r : It} {z : Obj} (h : RcK w wr p L k u3 u4) (hr : L[k]? = some r) (hok : okB p r = false) (hu : w4.ownsRow w.heap.size 49 2 u (((L.take k).filter (fun r => !okB p r)).length + 1) (((L.take k).filter (fun r => !okB p r)).flatMap c2 ++ c2 r)) (hg : (wr.alloc z).grownBy w4 u4.ownBlock) (hat : u.ownBlock = u4.ownBlock ∨ u.ownBlock = some (wr.alloc z).heap.size) : RcK w w4 p L (k + 1) u3 u := by
  have hb1 : Below wr.heap.size wr (wr.alloc z) := (Below.refl _ _).alloc (Nat.le_refl _) _
  have hi1 := ownsRow_below h.ids hb1
  refine ⟨?_, ?_, fun g e e4 => ?_, (h.below.trans (hb1.mono h.below.size)).grown hg (Nat.le_trans h.below.size hb1.size) (fun k e => (World.ownsRow.lt h.left k e).1)⟩
  · rw [List.take_add_one, hr, List.filter_append]
    simp only [Option.toList_some, List.filter_cons, hok, Bool.false_eq_true, if_false, List.filter_nil, List.append_nil]
    exact ownsRow_keep hi1 (fun g hgl e => hg.block g hgl (fun e2 => h.ne g e e2.symm))
  · rw [List.take_add_one, hr, List.filter_append]
    unfold OL
    simp only [Option.toList_some, List.filter_cons, hok, Bool.not_false, if_true, List.filter_nil, List.length_append, List.length_singleton, List.flatMap_append]
    have e1 : [r].flatMap c2 = c2 r := by simp
    rw [e1]
    exact hu
  · rcases hat with ha | ha
    · exact h.ne g e (by rw [← ha]; exact e4)
    · rw [e4] at ha
      have ha : g = (wr.alloc z).heap.size := Option.some.inj ha
      have := (hi1.lt g e).2
      omega
theorem RcK.keep {w wr w' : World} {p : Int × Bool} {L : List It} {k : Nat} {u3 u4 : Value} (h : RcK w wr p L k u3 u4) (hb : Below wr.heap.size wr w') : RcK w w' p L k u3 u4 :=
  ⟨ownsRow_below h.ids hb, h.left.below hb, h.ne, h.below.trans (hb.mono h.below.size)⟩

set_option maxHeartbeats 8000000 in
theorem rreclaim_any {w : World} {b : Nat} {now : Int} {us ul : Value} {S : List Int} {L : List It} (h : RS w b now us S ul L) (h8 : S.length ≤ 8) (hL : L.length ≤ 100000) : Calls Try.prog 21 #[.pointer (some ⟨b, 0, none⟩)] w (RRec w b now us S L) := by
  obtain ⟨i3, hi3, hz3, hz31, hz32⟩ := info_parts Try.info3s
  obtain ⟨i4, hi4, hz4, hz41, hz42⟩ := info_parts Try.info49s
  have H := hid_mk h
  obtain ⟨va, vc, rfl⟩ := own_slice h.rl
  have HOL : Hid (OL w 0 (.slice va L.length vc) L) := h.rl
  obtain ⟨c0, c1, c2', hf⟩ := h.cells
  have HST : Hid (RcK w w (leastZ S) L 0 (.slice none 0 0) (.slice none 0 0)) := ⟨own_nil _ _ _ _, own_nil _ _ _ _, (fun g e => by cases e), Below.refl _ _⟩
  clear h
  generalize hn : L.length = n at *
  have HN := hid_mk hn
  clear hn
  go_enter Try.func21, Try.ntmps21
  go_wp2
  go_loopw [12, 3, 4] (fun q u3 u4 wr => ∃ k : Nat, k ≤ n ∧ q = .int .i64 (k : Int) ∧ Hid (RcK w wr (leastZ S) L k u3 u4)) (fun q _ _ _ => n + 1 - (intOf q).toNat)
  case atStart => exact ⟨0, by omega, rfl, HST⟩
  case round =>
    clear HST
    obtain ⟨k, hk, rfl, HI⟩ := hrel
    by_cases hkn : k < n
    · have hkL : k < L.length := by have := HN.out; omega
      have hd : (k : Int) < (n : Int) := by omega
      have HO := HOL.out.below HI.out.below
      obtain ⟨g, c, he, _, hcm, _, hgl, _⟩ := HO.form (by omega)
      rw [HN.out] at he
      cases he
      unfold maxLen at hcm
      obtain ⟨k0, k1⟩ := HO.at hkL
      obtain ⟨x, hx⟩ : ∃ x, x = L[k] := ⟨_, rfl⟩
      rw [← hx] at k0 k1
      have HX : Hid (L[k]? = some x) := by rw [Hid, hx]; exact List.getElem?_eq_getElem hkL
      obtain ⟨x1, x2⟩ := x
      dsimp only at k0 k1
      have hkb : (0 : Int) ≤ (k : Int) := by omega
      clear hx HO
      obtain ⟨w1, hw1⟩ : ∃ w1, w1 = wr.alloc (.cells #[.int .i64 x1, .int .i64 x2] 49) := ⟨_, rfl⟩
      have hb1 : Below wr.heap.size wr w1 := by rw [hw1]; exact (Below.refl _ _).alloc (Nat.le_refl _) _
      have hbx : w1.heap[wr.heap.size]? = some (.cells #[.int .i64 x1, .int .i64 x2] 49) := by rw [hw1]; exact heap_alloc_last wr _
      have HW1 := hid_mk hw1
      have HR1 := hid_mk (H.out.keep (HI.out.below.trans (hb1.mono HI.out.below.size)))
      have HI1 := hid_mk (HI.out.keep hb1)
      have HIq : Hid (∀ m, RcK w (w1.drewN m) (leastZ S) L k u3 u4) := fun m => HI1.out.keep (below_drewN (Below.refl w1.heap.size w1) m)
      have d0 : w1.cell? ⟨wr.heap.size, 0, none⟩ = some (.int .i64 x1) := by simp [World.cell?, hbx]
      have d1 : w1.cell? ⟨wr.heap.size, 1, none⟩ = some (.int .i64 x2) := by simp [World.cell?, hbx]
      have HD0 : Hid (∀ m, (w1.drewN m).cell? ⟨wr.heap.size, 0, none⟩ = some (.int .i64 x1)) := fun m => ((below_drewN (Below.refl w1.heap.size w1) m).cell (p := ⟨wr.heap.size, 0, none⟩) (lt_of_cell d0)).trans d0
      have HD1 : Hid (∀ m, (w1.drewN m).cell? ⟨wr.heap.size, 1, none⟩ = some (.int .i64 x2)) := fun m => ((below_drewN (Below.refl w1.heap.size w1) m).cell (p := ⟨wr.heap.size, 1, none⟩) (lt_of_cell d1)).trans d1
      have HHd : Hid (∀ m, Calls Try.prog 41 #[.pointer (some ⟨b, 0, none⟩)] (w1.drewN m) fun e w'' => e = .returned (.bool (leastZ S).2) ∧ ∃ q, w'' = w1.drewN q) := fun m => by
        have h1 := rheld_any (HR1.out.keep (below_drewN (Below.refl w1.heap.size w1) m))
        rw [held_least] at h1
        exact Calls.quiet_of_same h1
      have HMd : Hid (∀ m, Calls Try.prog 25 #[.pointer (some ⟨b, 0, none⟩)] (w1.drewN m) fun e w'' => e = .returned (.int .i64 (if (leastZ S).2 = true then (leastZ S).1 else now)) ∧ ∃ q, w'' = w1.drewN q) := fun m => Calls.quiet_of_same (rmin_any (HR1.out.keep (below_drewN (Below.refl w1.heap.size w1) m)) h8)
      have HOB : Hid (okB (leastZ S) (x1, x2) = (!(leastZ S).2 || decide (x2 < (leastZ S).1))) := rfl
      generalize leastZ S = pp at *
      obtain ⟨l, hd2⟩ := pp
      dsimp only at *
      clear hb1 hbx hw1
      have HF3 : Hid (((L.take k).filter (okB (l, hd2))).length ≤ 100000) := by
        have h1 := List.length_filter_le (okB (l, hd2)) (L.take k)
        rw [List.length_take] at h1
        show _ ≤ _
        omega
      have HF4 : Hid (((L.take k).filter (fun r => !okB (l, hd2) r)).length ≤ 100000) := by
        have h1 := List.length_filter_le (fun r => !okB (l, hd2) r) (L.take k)
        rw [List.length_take] at h1
        show _ ≤ _
        omega
      go_upto_region 6 with (fail)
      cases hd2
      · rw [← HW1.out]
        go_quiet (first | (go_at_call 41; with_reducible exact HHd.out _) | (go_at_call 25; with_reducible exact HMd.out _))
        have HI1d := hid_mk (HIq.out nq)
        have d0d := HD0.out nq
        have d1d := HD1.out nq
        clear d0 d1 HR1 HI1 HHd HMd HW1 HIq HD0 HD1
        generalize w1.drewN nq = w2 at *
        all_goals
          have HSZ : Hid (w.heap.size ≤ w2.heap.size) := HI1d.out.below.size
          obtain ⟨a3, c3, rfl⟩ := own_slice HI1d.out.ids
          go_wp2_with (at_builtin; refine wpList_append_own_at _ rfl _ _ 40 rfl w.heap.size 3 i3 (.int .i64 0) 1 8 Try.underlying40 hi3 hz3 hz31 hz32 rfl (by decide) _ _ _ rfl (HI1d.out.ids.alloc _) ⟨w2.heap.size, 0, none⟩ 1 1 [.int .i64 x1] rfl rfl (World.news_of_block (cs := #[.int .i64 x1]) (t := 3) (fr := (0, 0)) (heap_alloc_last w2 _)) (by simp [Value.oneCell']) (by unfold maxLen; have := HF3.out; omega) (by have := HF3.out; omega) (by have := HSZ.out; simp; omega) ?_; intro u6 w4 hu6 hg6 _ hat6; have HU6 := hid_mk hu6; have HG6 : Hid ((w2.alloc (.cells #[.int .i64 x1] 3)).grownBy w4 (Value.slice a3 ((L.take k).filter (okB (l, false))).length c3).ownBlock) := hg6; have HAT6 : Hid (u6.ownBlock = (Value.slice a3 ((L.take k).filter (okB (l, false))).length c3).ownBlock ∨ u6.ownBlock = some (w2.alloc (.cells #[.int .i64 x1] 3)).heap.size) := hat6; clear hu6 hg6 hat6)
          exact ⟨⟨k + 1, by omega, by simp, RcK.ids_step HI1d.out HX.out HOB.out HU6.out HG6.out HAT6.out⟩, by simp [intOf]; omega⟩
      · by_cases hxl : x2 < l
        · have HOB : Hid (okB (l, true) (x1, x2) = true) := by show _ = _; rw [HOB.out]; simp [hxl]
          rw [← HW1.out]
          go_quiet (first | (go_at_call 41; with_reducible exact HHd.out _) | (go_at_call 25; with_reducible exact HMd.out _))
          have HI1d := hid_mk (HIq.out nq)
          have d0d := HD0.out nq
          have d1d := HD1.out nq
          clear d0 d1 HR1 HI1 HHd HMd HW1 HIq HD0 HD1
          generalize w1.drewN nq = w2 at *
          all_goals
            have HSZ : Hid (w.heap.size ≤ w2.heap.size) := HI1d.out.below.size
            obtain ⟨a3, c3, rfl⟩ := own_slice HI1d.out.ids
            go_wp2_with (at_builtin; refine wpList_append_own_at _ rfl _ _ 40 rfl w.heap.size 3 i3 (.int .i64 0) 1 8 Try.underlying40 hi3 hz3 hz31 hz32 rfl (by decide) _ _ _ rfl (HI1d.out.ids.alloc _) ⟨w2.heap.size, 0, none⟩ 1 1 [.int .i64 x1] rfl rfl (World.news_of_block (cs := #[.int .i64 x1]) (t := 3) (fr := (0, 0)) (heap_alloc_last w2 _)) (by simp [Value.oneCell']) (by unfold maxLen; have := HF3.out; omega) (by have := HF3.out; omega) (by have := HSZ.out; simp; omega) ?_; intro u6 w4 hu6 hg6 _ hat6; have HU6 := hid_mk hu6; have HG6 : Hid ((w2.alloc (.cells #[.int .i64 x1] 3)).grownBy w4 (Value.slice a3 ((L.take k).filter (okB (l, true))).length c3).ownBlock) := hg6; have HAT6 : Hid (u6.ownBlock = (Value.slice a3 ((L.take k).filter (okB (l, true))).length c3).ownBlock ∨ u6.ownBlock = some (w2.alloc (.cells #[.int .i64 x1] 3)).heap.size) := hat6; clear hu6 hg6 hat6)
            exact ⟨⟨k + 1, by omega, by simp, RcK.ids_step HI1d.out HX.out HOB.out HU6.out HG6.out HAT6.out⟩, by simp [intOf]; omega⟩
        · have HOB : Hid (okB (l, true) (x1, x2) = false) := by show _ = _; rw [HOB.out]; simp; omega
          rw [← HW1.out]
          go_quiet (first | (go_at_call 41; with_reducible exact HHd.out _) | (go_at_call 25; with_reducible exact HMd.out _))
          have HI1d := hid_mk (HIq.out nq)
          have d0d := HD0.out nq
          have d1d := HD1.out nq
          clear d0 d1 HR1 HI1 HHd HMd HW1 HIq HD0 HD1
          generalize w1.drewN nq = w2 at *
          all_goals
            have HSZ : Hid (w.heap.size ≤ w2.heap.size) := HI1d.out.below.size
            obtain ⟨a4, c4, rfl⟩ := own_slice HI1d.out.left
            have HLW : Hid (w2.ownsRow w.heap.size 49 2 (.slice a4 ((L.take k).filter (fun r => !okB (l, true) r)).length c4) ((L.take k).filter (fun r => !okB (l, true) r)).length (((L.take k).filter (fun r => !okB (l, true) r)).flatMap c2)) := HI1d.out.left
            go_wp2_with (at_builtin; refine wpList_append_own_at _ rfl _ _ 44 rfl w.heap.size 49 i4 (.agg #[.int .i64 0, .int .i64 0]) 2 16 Try.underlying44 hi4 hz4 hz41 hz42 rfl (by decide) _ _ _ rfl (HLW.out.alloc _) ⟨w2.heap.size, 0, none⟩ 1 1 [.int .i64 x1, .int .i64 x2] rfl rfl (World.news_of_block (cs := #[.int .i64 x1, .int .i64 x2]) (t := 49) (fr := (0, 0)) (heap_alloc_last w2 _)) (by simp [Value.oneCell']) (by unfold maxLen; have := HF4.out; omega) (by have := HF4.out; omega) (by have := HSZ.out; simp; omega) ?_; intro u6 w4 hu6 hg6 _ hat6; have HU6 := hid_mk hu6; have HG6 : Hid ((w2.alloc (.cells #[.int .i64 x1, .int .i64 x2] 49)).grownBy w4 (Value.slice a4 ((L.take k).filter (fun r => !okB (l, true) r)).length c4).ownBlock) := hg6; have HAT6 : Hid (u6.ownBlock = (Value.slice a4 ((L.take k).filter (fun r => !okB (l, true) r)).length c4).ownBlock ∨ u6.ownBlock = some (w2.alloc (.cells #[.int .i64 x1, .int .i64 x2] 49)).heap.size) := hat6; clear hu6 hg6 hat6)
            exact ⟨⟨k + 1, by omega, by simp, RcK.left_step HI1d.out HX.out HOB.out HU6.out HG6.out HAT6.out⟩, by simp [intOf]; omega⟩
    · have hke : k = L.length := by have := HN.out; omega
      have hd : ¬ (k : Int) < (n : Int) := by omega
      have HI2 := HI.out
      rw [hke] at HI2
      have hids := HI2.ids
      have hleft := HI2.left
      rw [List.take_length] at hids hleft
      obtain ⟨a3, c3, rfl⟩ := own_slice hids
      obtain ⟨a4, c4, rfl⟩ := own_slice hleft
      have hr := (H.out.keep HI2.below).cells
      have e2 := hr.2.2.1
      have ef := hr.2.2.2 2
      have HP := hid_mk (H.out.wait HI2.below hleft)
      have HIDS := hid_mk hids
      have HLEFT := hid_mk hleft
      have HBL := hid_mk H.out.lt
      clear hr hids hleft HI2
      go_wp2
      refine bodyPost_ret (v := .slice a3 (L.filter (okB (leastZ S))).length c3) (by simp [results, Try.results21, go_sem]) rfl ⟨_, _, rfl, ?_, HP.out.1, HP.out.2, fun g e => (World.ownsRow.lt HLEFT.out g e).1⟩
      refine ownsRow_keep HIDS.out (fun g _ e => Below.heap_setCell wr ⟨b, 2, none⟩ _ g (fun e3 => ?_))
      have h1 := (HIDS.out.lt g e).1
      have h2 := HBL.out
      simp only [] at e3
      omega
end Go.Proofs.Ytlnpiadjnjdfiaa.E
