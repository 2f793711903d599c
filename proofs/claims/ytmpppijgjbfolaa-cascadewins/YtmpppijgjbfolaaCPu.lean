/- The pile's Push; container/heap's Push; put. -/
import Derived.Test.YtmpppijgjbfolaaCTk
import Derived.Deep.AppendLies
namespace Go.Proofs.Ytmpppijgjbfolaa.C
open Go.RowKit
set_option maxRecDepth 100000

theorem Try.info69s : (Try.prog.info? 69).map (fun i => (i.zero, i.size, i.bytes)) = some (some (.agg #[.string ⟨#[]⟩, .string ⟨#[]⟩, .int .i64 0, .bool false, .int .i64 0, .int .i64 0, .int .i64 0, .int .i64 0, .int .i64 0]), 9, 88) := by kernel_rfl
theorem info_parts {t : TypeId} {z : Value} {n b : Nat} (h : (Try.prog.info? t).map (fun i => (i.zero, i.size, i.bytes)) = some (some z, n, b)) : ∃ i, Try.prog.info? t = some i ∧ i.zero = some z ∧ i.size = n ∧ i.bytes = b := by
  cases hq : Try.prog.info? t with
  | none => simp [hq] at h
  | some i => simp [hq] at h; exact ⟨i, rfl, h.1, h.2.1, h.2.2⟩
/-- A pile, perhaps one that nothing was put into. -/
def PN (w : World) (n0 B : Nat) (L : List R9) : Prop := (L = [] ∧ w.heap[B]? = some (.cells #[.slice none 0 0] 51 (0, 0)) ∧ n0 ≤ B) ∨ ∃ g cap, PAt w n0 B g cap L
theorem PN.form {w : World} {n0 B : Nat} {L : List R9} (h : PN w n0 B L) : ∃ v, w.heap[B]? = some (.cells #[v] 51 (0, 0)) ∧ w.ownsRow n0 69 9 v L.length (L.flatMap c9) ∧ v.ownBlock ≠ some B ∧ n0 ≤ B := by
  rcases h with ⟨rfl, h1, h2⟩ | ⟨g, cap, h⟩
  · exact ⟨_, h1, own_nil _ _ _ _, by simp [Value.ownBlock], h2⟩
  · exact ⟨_, h.box, h.row, fun e => h.ne (Option.some.inj e).symm, h.lo⟩
theorem PAt.pn {w : World} {n0 B g cap : Nat} {L : List R9} (h : PAt w n0 B g cap L) : PN w n0 B L := .inr ⟨g, cap, h⟩
theorem PN.keep {w w' : World} {n0 B : Nat} {L : List R9} (h : PN w n0 B L) (hb : Below w.heap.size w w') : PN w' n0 B L := by
  rcases h with ⟨rfl, h1, h2⟩ | ⟨g, cap, h⟩
  · exact .inl ⟨rfl, (hb.block B (Array.getElem?_eq_some_iff.1 h1).1).trans h1, h2⟩
  · exact .inr ⟨g, cap, h.keep hb⟩
theorem PN.at {w : World} {n0 B : Nat} {L : List R9} (h : PN w n0 B L) (h0 : 0 < L.length) : ∃ g cap, PAt w n0 B g cap L := by
  rcases h with ⟨rfl, _⟩ | h
  · simp at h0
  · exact h

set_option maxHeartbeats 4000000 in
theorem ppush_any {w : World} {n0 B : Nat} {L : List R9} (h : PN w n0 B L) (hL : L.length ≤ 1000000) (r : R9) : Calls Try.prog 84 #[.pointer (some ⟨B, 0, none⟩), .iface 69 (rv r)] w fun e w' => (∃ v, e = .returned v) ∧ ∃ g cap, PAt w' n0 B g cap (L ++ [r]) ∧ Below n0 w w' := by
  obtain ⟨i0, hi0, hz0, hz1, hz2⟩ := info_parts Try.info69s
  obtain ⟨v, hbx, hown, hne, hlo⟩ := h.form
  clear h
  have hBl : B < w.heap.size := (Array.getElem?_eq_some_iff.1 hbx).1
  have hn63 : L.length + 1 ≤ maxLen := by unfold maxLen; omega
  have HF : Hid ((L ++ [r]).flatMap c9 = L.flatMap c9 ++ [.string r.1.n, .string r.1.v, .int .i64 r.1.o, .bool r.1.im, .int .i64 r.1.a, .int .i64 r.1.b, .int .i64 r.1.c, .int .i64 r.1.k, .int .i64 r.2]) := by
    show _ = _
    rw [List.flatMap_append]
    simp [c9]
  have HFL : Hid ((L ++ [r]).length = L.length + 1) := by show _ = _; simp
  have d0 : w.cell? ⟨B, 0, none⟩ = some v := by simp [World.cell?, hbx]
  have HBX := hid_mk hbx
  have hta := assert69
  obtain ⟨⟨xn, xv, xo, xi, xa, xb, xc, xk⟩, xp⟩ := r
  unfold rv
  dsimp only at *
  obtain ⟨va, vc, rfl⟩ := own_slice hown
  clear hbx
  go_enter Try.func84, Try.ntmps84
  go_wp2_with fail
  go_region_law
    ((refine step_append_lies _ (by rfl) _ _ _ (by rfl) n0 69 i0 _ 9 88 Try.underlying51 hi0 hz0 hz1 hz2 rfl (by omega) (.slice va L.length vc) L.length (L.flatMap c9) (by rfl) (((hown.alloc _).alloc _).drew)
        ⟨w.heap.size + 1, 0, none⟩ 1 1 [.string xn, .string xv, .int .i64 xo, .bool xi, .int .i64 xa, .int .i64 xb, .int .i64 xc, .int .i64 xk, .int .i64 xp] (by rfl) (by rfl) (World.news_of_block (cs := #[.string xn, .string xv, .int .i64 xo, .bool xi, .int .i64 xa, .int .i64 xb, .int .i64 xc, .int .i64 xk, .int .i64 xp]) (t := 69) (fr := (0, 0)) (two_boxes w _ _).2.1) (by simp [Value.oneCell'])
        (by omega) hn63 (by omega) (by simp; omega) (w.heap.size + 2) (by simp) ?_
      intro gg cap w1 hown1 hgrow hgat hglt
      have hb1 : w1.heap[B]? = some (.cells #[.slice va L.length vc] 51 (0, 0)) := by
        rw [hgrow.block B (by simp; omega) (fun e => hne e.symm)]
        exact (Below.heap_alloc _ _ _ (by simp; omega)).trans ((Below.heap_alloc _ _ _ hBl).trans HBX.out)
      have d2 : w1.cell? ⟨B, 0, none⟩ = some (.slice va L.length vc) := by simp [World.cell?, hb1]
      have f2 : w1.frozen? ⟨B, 0, none⟩ = false := by simp [World.frozen?, hb1]
      have HB1 := hid_mk hb1
      have HO1 := hid_mk hown1
      have HG1 := hid_mk hgrow
      have HAT : Hid (gg ≠ B) := fun e => by
        rcases hgat with h | h
        · exact hne (h.trans (by rw [e]))
        · omega
      clear hb1 hown1 hgrow hgat))
  all_goals go_wp2
  all_goals go_end0
  all_goals
    have HBel : Below n0 w w1 := ((((Below.refl n0 w).alloc (by omega) _).alloc (by simp; omega) _).drew).grown HG1.out (by simp; omega) (fun k hk => (hown.lt k hk).1)
    refine ⟨⟨_, rfl⟩, gg, cap, ⟨?_, ?_, HAT.out.symm, hlo⟩, HBel.setCell (p := ⟨B, 0, none⟩) hlo _⟩
    · rw [HFL.out]
      exact heap_setCell_same w1 B 0 _ 51 _ HB1.out
    · unfold Pl
      rw [HFL.out, HF.out]
      exact ownsRow_keep HO1.out fun k _ e => Below.heap_setCell w1 ⟨B, 0, none⟩ _ k (by
        have e : gg = k := Option.some.inj e
        rw [← e]
        exact HAT.out)

theorem heap_push {L : List R9} (h : HeapL bt L.length L) (r : R9) : UpAt bt (L ++ [r]) L.length := by
  refine ⟨by simp, ?_, ?_⟩
  · intro c x y h0 hc hx hy
    have hcl : c < L.length + 1 := by
      have := (List.getElem?_eq_some_iff.1 hx).1
      simpa using this
    have hpc : par c < c := by unfold par; omega
    rw [List.getElem?_append_left (by omega)] at hx hy
    exact h c x y h0 (by omega) hx hy
  · intro c x y h0 hj hc hx hy
    have hcl : c < L.length + 1 := by
      have := (List.getElem?_eq_some_iff.1 hx).1
      simpa using this
    unfold par at hc
    omega

set_option maxHeartbeats 2000000 in
theorem hpush_any (o : Ord bt) {w : World} {n0 B : Nat} {L : List R9} (h : PN w n0 B L) (hh : HeapL bt L.length L) (hL : L.length ≤ 999999) (hn : n0 ≤ w.heap.size) (r : R9) : Calls Try.prog 36 #[.iface 66 (.pointer (some ⟨B, 0, none⟩)), .iface 69 (rv r)] w fun e w' => (∃ v, e = .returned v) ∧ ∃ g cap K, PAt w' n0 B g cap K ∧ HeapL bt K.length K ∧ K.Perm (L ++ [r]) ∧ Below n0 w w' := by
  have hpp := ppush_any h (by omega) r
  have hmp := m_push w B
  have HU := heap_push hh r
  unfold rv at *
  have HO := hid_mk o
  have HU := hid_mk HU
  obtain ⟨n, hnl⟩ : ∃ n, n = L.length := ⟨_, rfl⟩
  have HNL := hid_mk hnl
  have hnb : n ≤ 999999 := by omega
  have e1 : ((n : Int) + 1 - 1) = (n : Int) := by omega
  clear h hh o hnl
  go_enter Try.func36, Try.ntmps36
  go_wp2_with (go_at_call 84; fail)
  refine hpp.mono ?_
  rintro e w1 ⟨⟨v1, rfl⟩, g, cap, hP, hb⟩
  have hlen : (L ++ [r]).length = n + 1 := by rw [HNL.out]; simp
  have HP := hid_mk hP
  have HB := hid_mk hb
  have hlo : n0 ≤ B ∧ n0 ≤ g := ⟨hP.lo, hP.row.cap_le.2.2.1⟩
  have HLO := hid_mk hlo
  have hm := m_len hP.cell
  have HLEN := hid_mk hlen
  rw [hlen] at hm
  have HUC := up_any HO.out HP.out (by rw [hlen]; omega) HU.out
  rw [← HNL.out] at HUC
  clear hP hb hlo hlen hmp hpp
  go_wp2_with (go_at_call 32; fail)
  refine (plen_any _ _ _ _).mono ?_
  rintro e w' ⟨rfl, hw⟩
  rw [hw]
  clear hw w'
  go_wp2_with (go_at_call 42; fail)
  refine HUC.mono ?_
  rintro e w2 ⟨⟨v2, rfl⟩, K, hH, hP2, hp, hx⟩
  have HE : Hid (∃ g cap K, PAt w2 n0 B g cap K ∧ HeapL bt K.length K ∧ K.Perm (L ++ [r]) ∧ Below n0 w w2) := ⟨g, cap, K, hP2, hH, hp, HB.out.trans (hx.below HLO.out.1 HLO.out.2 (Nat.le_trans hn HB.out.size))⟩
  clear hH hP2 hp hx HUC hm
  go_wp2
  go_end0
  exact ⟨⟨_, rfl⟩, HE.out⟩

set_option maxHeartbeats 4000000 in
theorem put_any (o : Ord bt) {w : World} {n0 B : Nat} {L : List R9} (h : PN w n0 B L) (hh : HeapL bt L.length L) (hL : L.length ≤ 999999) (hn : n0 ≤ w.heap.size) (x : E8) : Calls Try.prog 27 #[.pointer (some ⟨B, 0, none⟩), x.val] w fun e w' => (∃ v, e = .returned v) ∧ ∃ g cap K, PAt w' n0 B g cap K ∧ HeapL bt K.length K ∧ K.Perm (L ++ [(x, (L.length : Int))]) ∧ Below n0 w w' := by
  obtain ⟨w1, hw1⟩ : ∃ w1, w1 = w.alloc (.cells #[.string x.n, .string x.v, .int .i64 x.o, .bool x.im, .int .i64 x.a, .int .i64 x.b, .int .i64 x.c, .int .i64 x.k] 26) := ⟨_, rfl⟩
  have hb : Below w.heap.size w w1 := by rw [hw1]; exact (Below.refl _ _).alloc (Nat.le_refl _) _
  have hbox : BoxE w1 w.heap.size 26 x := by rw [hw1]; exact heap_alloc_last w _
  have h1 := h.keep hb
  have HPU : Hid (∀ w', w' = w1 ∨ w' = w1.drew → Calls Try.prog 36 #[.iface 66 (.pointer (some ⟨B, 0, none⟩)), .iface 69 (rv (x, (L.length : Int)))] w' fun e w'' => (∃ v, e = .returned v) ∧ ∃ g cap K, PAt w'' n0 B g cap K ∧ HeapL bt K.length K ∧ K.Perm (L ++ [(x, (L.length : Int))]) ∧ Below n0 w w'') := fun w' hw' => by
    have hb2 : Below w1.heap.size w1 w' := by
      rcases hw' with rfl | rfl
      · exact Below.refl _ _
      · exact (Below.refl _ _).drew
    refine (hpush_any o (h1.keep hb2) hh hL (Nat.le_trans hn (Nat.le_trans hb.size hb2.size)) (x, (L.length : Int))).mono fun e w'' hh => ⟨hh.1, ?_⟩
    obtain ⟨g, cap, K, a1, a2, a3, a4⟩ := hh.2
    exact ⟨g, cap, K, a1, a2, a3, ((hb.trans (hb2.mono hb.size)).mono hn).trans a4⟩
  obtain ⟨v, hbx, hown, _, _⟩ := h1.form
  clear h1
  have d0 : w1.cell? ⟨B, 0, none⟩ = some v := by simp [World.cell?, hbx]
  obtain ⟨c0, c1, c2, c3, c4, c5, c6, c7⟩ := hbox.cells
  obtain ⟨va, vc, rfl⟩ := own_slice hown
  have HW1 := hid_mk hw1
  unfold E8.val rv at *
  obtain ⟨xn, xv, xo, xi, xa, xb, xc, xk⟩ := x
  dsimp only at *
  generalize L.length = n at *
  clear hw1 hbx hown h hh o hbox hb
  go_enter Try.func27, Try.ntmps27
  go_upto_region 1 with (fail)
  rw [← HW1.out]
  go_region_with (go_at_call 36; refine (HPU.out _ (by first | exact .inl rfl | exact .inr rfl)).mono ?_; rintro e w2 ⟨⟨v2, rfl⟩, hE⟩)
  all_goals go_wp2
  all_goals go_end0
  all_goals exact ⟨⟨_, rfl⟩, hE⟩
end Go.Proofs.Ytmpppijgjbfolaa.C
