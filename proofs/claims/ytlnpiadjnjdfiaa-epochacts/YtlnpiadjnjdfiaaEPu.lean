/- The pile's Push; container/heap's Push. -/
import Derived.Test.YtlnpiadjnjdfiaaETk
import Derived.Deep.AppendLies
namespace Go.Proofs.Ytlnpiadjnjdfiaa.E
open Go.RowKit
set_option maxRecDepth 100000

theorem assert48 (cs : Array Value) (w : World) : (Instr.typeAssert (.iface 48 (.agg cs)) 20 48 true).run Try.prog w = .ok (.tuple #[.agg cs, .bool true]) w := by kernel_rfl
theorem Try.info48s : (Try.prog.info? 48).map (fun i => (i.zero, i.size, i.bytes)) = some (some (.agg #[.int .i64 0, .int .i64 0]), 2, 16) := by kernel_rfl
theorem info_parts {t : TypeId} {z : Value} {n b : Nat} (h : (Try.prog.info? t).map (fun i => (i.zero, i.size, i.bytes)) = some (some z, n, b)) : ∃ i, Try.prog.info? t = some i ∧ i.zero = some z ∧ i.size = n ∧ i.bytes = b := by
  cases hq : Try.prog.info? t with
  | none => simp [hq] at h
  | some i => simp [hq] at h; exact ⟨i, rfl, h.1, h.2.1, h.2.2⟩
theorem Kv.grown {b : Nat} {v v' : Value} {a w w' : World} (h : Kv b v a v' w) (hg : w.grownBy w' v'.ownBlock) {v'' : Value} (hv : v''.ownBlock = v'.ownBlock ∨ ∃ k, v''.ownBlock = some k ∧ a.heap.size ≤ k) : Kv b v a v'' w' := by
  refine ⟨hg.os.trans h.os, hg.tape.trans h.tape, hg.output.trans h.output, Nat.le_trans h.size hg.size, fun k hk h1 h2 => (hg.block k (Nat.lt_of_lt_of_le hk h.size) (fun e => by
    rcases h.own k e.symm with e | e
    · exact h2 e
    · omega)).trans (h.block k hk h1 h2), fun k e => ?_⟩
  rcases hv with hv | ⟨k', hv, hk'⟩
  · exact h.own k (by rw [← hv]; exact e)
  · rw [hv] at e
    cases e
    exact .inr hk'

set_option maxHeartbeats 4000000 in
theorem ppush_any {w : World} {X : EX} {v : Value} {L : List It} (h : ES w X v L) (hL : L.length ≤ 1000000) (r : It) : Calls Try.prog 113 #[.pointer (some ⟨X.b, 12, none⟩), .iface 48 (rv r)] w fun e w' => (∃ v, e = .returned v) ∧ ∃ g cap, PAt w' X g cap (L ++ [r]) ∧ Kv X.b v w (.slice (some ⟨g, 0, none⟩) (L ++ [r]).length cap) w' := by
  obtain ⟨i0, hi0, hz0, hz1, hz2⟩ := info_parts Try.info48s
  have hown := h.row
  have hne := h.ne
  have HBX := hid_mk h.bx
  have hBl : X.b < w.heap.size := h.bx.lt
  have d0 := h.bx.waits
  have hn63 : L.length + 1 ≤ maxLen := by unfold maxLen; omega
  have HF : Hid ((L ++ [r]).flatMap c2 = L.flatMap c2 ++ [.int .i64 r.1, .int .i64 r.2]) := by
    show _ = _
    rw [List.flatMap_append]
    simp [c2]
  have HFL : Hid ((L ++ [r]).length = L.length + 1) := by show _ = _; simp
  have hta := assert48
  obtain ⟨x1, x2⟩ := r
  unfold rv
  dsimp only at *
  obtain ⟨va, vc, rfl⟩ := own_slice hown
  clear h
  go_enter Try.func113, Try.ntmps113
  go_wp2_with fail
  go_region_law
    ((refine step_append_lies _ (by rfl) _ _ _ (by rfl) 0 48 i0 _ 2 16 Try.underlying67 hi0 hz0 hz1 hz2 rfl (by omega) (.slice va L.length vc) L.length (L.flatMap c2) (by rfl) (((hown.alloc _).alloc _).drew)
        ⟨w.heap.size + 1, 0, none⟩ 1 1 [.int .i64 x1, .int .i64 x2] (by rfl) (by rfl) (World.news_of_block (cs := #[.int .i64 x1, .int .i64 x2]) (t := 48) (fr := (0, 0)) (two_boxes w _ _).2.1) (by simp [Value.oneCell'])
        (by omega) hn63 (by omega) (by simp) (w.heap.size + 2) (by simp) ?_
      intro gg cap w1 hown1 hgrow hgat hglt
      have hbb : ((w.alloc (.cells #[.int .i64 x1, .int .i64 x2] 48)).alloc (.cells #[.int .i64 x1, .int .i64 x2] 48)).drew.heap[X.b]? = w.heap[X.b]? :=
        (Below.heap_alloc _ _ _ (by simp; omega)).trans (Below.heap_alloc _ _ _ hBl)
      have hb1 : Bx w1 X.b X.n X.now X.S X.m (.slice va L.length vc) := HBX.out.keep ((hgrow.block X.b (by simp; omega) (fun e => hne e.symm)).trans hbb)
      have d2 : w1.cell? ⟨X.b, 12, none⟩ = some (.slice va L.length vc) := hb1.waits
      have f2 : w1.frozen? ⟨X.b, 12, none⟩ = false := hb1.unfrozen 12
      have HB1 := hid_mk hb1
      have HO1 := hid_mk hown1
      have HG1 := hid_mk hgrow
      have HAT : Hid (gg ≠ X.b) := fun e => by
        rcases hgat with h | h
        · exact hne (h.trans (by rw [e]))
        · omega
      have HWH : Hid ((Value.slice (some ⟨gg, 0, none⟩) (L.length + 1) cap).ownBlock = (Value.slice va L.length vc).ownBlock ∨ ∃ k, (Value.slice (some ⟨gg, 0, none⟩) (L.length + 1) cap).ownBlock = some k ∧ w.heap.size ≤ k) := by
        rcases hgat with h | h
        · exact .inl h.symm
        · exact .inr ⟨gg, rfl, by omega⟩
      clear hb1 hown1 hgrow hgat hbb))
  all_goals go_wp2
  all_goals go_end0
  all_goals
    have hkb : Kv X.b (.slice va L.length vc) w (.slice va L.length vc) ((w.alloc (.cells #[.int .i64 x1, .int .i64 x2] 48)).alloc (.cells #[.int .i64 x1, .int .i64 x2] 48)).drew := Kv.of_below (two_boxes w _ _).2.2
    have hk1 := (hkb.grown HG1.out HWH.out).setB 12 (.slice (some ⟨gg, 0, none⟩) (L.length + 1) cap)
    refine ⟨⟨_, rfl⟩, gg, cap, ⟨?_, ?_, HAT.out.symm⟩, hk1.same (by rw [HFL.out])⟩
    · rw [HFL.out]
      exact HB1.out.setWaits _
    · unfold Pl
      rw [HFL.out, HF.out]
      exact ownsRow_keep HO1.out fun k _ e => Below.heap_setCell w1 ⟨X.b, 12, none⟩ _ k (by
        have e : gg = k := Option.some.inj e
        rw [← e]
        exact HAT.out)

theorem heap_push {L : List It} (h : HeapL bt L.length L) (r : It) : UpAt bt (L ++ [r]) L.length := by
  refine ⟨by simp, ?_, ?_⟩
  · intro c x y h0 hc hx hy
    have hcl : c < L.length + 1 := by
      have := (List.getElem?_eq_some_iff.1 hx).1
      simpa using this
    have hpc : par c < c := by unfold par; omega
    rw [List.getElem?_append_left (by omega)] at hx hy
    exact h c x y h0 (by omega) hx hy
  · intro c x y h0 hj hc hx hy
    have hcl : c < L.length + 1 := by
      have := (List.getElem?_eq_some_iff.1 hx).1
      simpa using this
    unfold par at hc
    omega

set_option maxHeartbeats 2000000 in
theorem hpush_any {w : World} {X : EX} {v : Value} {L : List It} (h : ES w X v L) (hh : HeapL bt L.length L) (hL : L.length ≤ 999999) (r : It) : Calls Try.prog 38 #[.iface 78 (.pointer (some ⟨X.b, 12, none⟩)), .iface 48 (rv r)] w fun e w' => (∃ v, e = .returned v) ∧ ∃ v' K, ES w' X v' K ∧ HeapL bt K.length K ∧ K.Perm (L ++ [r]) ∧ Kv X.b v w v' w' := by
  have hpp := ppush_any h (by omega) r
  have hmp := m_push w X.b
  have HU := heap_push hh r
  unfold rv at *
  have HU := hid_mk HU
  obtain ⟨n, hnl⟩ : ∃ n, n = L.length := ⟨_, rfl⟩
  have HNL := hid_mk hnl
  have hnb : n ≤ 999999 := by omega
  have e1 : ((n : Int) + 1 - 1) = (n : Int) := by omega
  clear h hh hnl
  go_enter Try.func38, Try.ntmps38
  go_wp2_with (go_at_call 113; fail)
  refine hpp.mono ?_
  rintro e w1 ⟨⟨v1, rfl⟩, g, cap, hP, hb⟩
  have hlen : (L ++ [r]).length = n + 1 := by rw [HNL.out]; simp
  have HP := hid_mk hP
  have HB := hid_mk hb
  have hm := m_len hP.cell
  have HLEN := hid_mk hlen
  rw [hlen] at hm
  have HUC := up_any bt_ord HP.out (by rw [hlen]; omega) HU.out
  rw [← HNL.out] at HUC
  clear hP hb hlen hmp hpp
  go_wp2_with (go_at_call 109; fail)
  refine (plen_any _ _ _ _).mono ?_
  rintro e w' ⟨rfl, hw⟩
  rw [hw]
  clear hw w'
  go_wp2_with (go_at_call 51; fail)
  refine HUC.mono ?_
  rintro e w2 ⟨⟨v2, rfl⟩, K, hH, hP2, hp, hx⟩
  have HE : Hid (∃ v' K, ES w2 X v' K ∧ HeapL bt K.length K ∧ K.Perm (L ++ [r]) ∧ Kv X.b v w v' w2) := ⟨_, K, hP2.es, hH, hp, (HB.out.trans (Kv.of_kx hx rfl)).same (by rfl)⟩
  clear hH hP2 hp hx HUC hm
  go_wp2
  go_end0
  exact ⟨⟨_, rfl⟩, HE.out⟩
end Go.Proofs.Ytlnpiadjnjdfiaa.E
