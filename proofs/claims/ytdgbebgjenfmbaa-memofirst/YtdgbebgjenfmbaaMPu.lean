/- Put. -/
import Derived.Test.YtdgbebgjenfmbaaMQu
namespace Go.Proofs.Ytdgbebgjenfmbaa.M
open Go.RowKit Go.Shelf
set_option maxRecDepth 100000

/-- What Put answers. -/
def PutP (P : Nat → Prop) (w : World) (c : Nat) (L : List (Option En)) (x : En) (s : Slot) (q : Ending) (w' : World) : Prop := match s with
  | .free j => q = .returned (.bool true) ∧ Ring P w' c (L.set j (some x)) ∧ Kb (fun k => k ≠ c) w w'
  | _ => q = .returned (.bool false) ∧ Below w.heap.size w w'
theorem put_end {A : World} {D b1 : Nat} {q : Bool} {ts : Array Value} {R : Ending → World → Prop} (d1 : A.heap[b1]? = some (.cells #[.bool q] 4 (0, 0))) (hK : A.heap[D]? = some (.deferred (some []))) (h4 : ts[4]?.getD undef = .pointer (some ⟨b1, 0, none⟩))
    (hR : R (.returned (.bool q)) (A.putObj D (.deferred none))) :
    bodyPostM Fence.wide 9 Try.prog Try.f12 R .ret { tmps := ts, defers := [{ target := .collected D, args := #[] }] } A := by
  refine ⟨by simp, .inl ⟨_, _, rfl, run_takeDeferred hK, ?_⟩⟩
  have k1 := (box_cell (cell_putO d1 hK rfl (.deferred none))).1
  generalize A.putObj D (.deferred none) = Y at *
  refine ⟨_, ?_, hR⟩
  simp [results, Try.results12, go_sem, h4, k1]
theorem PutP.keep {P : Nat → Prop} {w : World} {c : Nat} {L : List (Option En)} {x : En} {s : Slot} {q : Ending} {A B : World} (h : PutP P w c L x s q A) (hb : Below A.heap.size A B) : PutP P w c L x s q B := by
  cases s with
  | full => exact ⟨h.1, h.2.trans (hb.mono h.2.size)⟩
  | free j => exact ⟨h.1, h.2.1.keep (Kb.of_below hb) (hb.block c h.2.1.lt), h.2.2.trans (Kb.of_below hb)⟩
  | here y => exact ⟨h.1, h.2.trans (hb.mono h.2.size)⟩
theorem PutP.putO {P : Nat → Prop} {w : World} {c : Nat} {L : List (Option En)} {x : En} {s : Slot} {e : Ending} {A : World} (h : PutP P w c L x s e A) {q : Nat} {o : Obj} (hq : w.heap.size ≤ q) (ho : A.heap[q]? = some o) (hc : o.isCells = false) (o' : Obj) : PutP P w c L x s e (A.putObj q o') := by
  cases s with
  | full => exact ⟨h.1, below_putO h.2 hq o'⟩
  | free j => exact ⟨h.1, h.2.1.putO ho hc o', h.2.2.putO hq o'⟩
  | here y => exact ⟨h.1, below_putO h.2 hq o'⟩
/-- What a round of Put leaves where it ends. -/
def PutX (P : Nat → Prop) (w : World) (c : Nat) (L : List (Option En)) (x : En) (c' : Code) (A : World) : Prop :=
  c' = .ret ∧ ∃ q, A.heap[w.heap.size + 1]? = some (.cells #[.bool q] 4 (0, 0)) ∧ PutP P w c L x (find L x.e x.d) (.returned (.bool q)) A
attribute [local go_sem] Oper.semAt_some
theorem wide_fn (f : Nat) : Fence.wide.fn f = True := rfl
attribute [local simp] wide_fn
set_option maxHeartbeats 4000000 in
theorem put_any {P Q : Nat → Prop} {w : World} {p a : Option Addr} {c : Nat} {L : List (Option En)} (h : Src P w p a c L) (x : En) {sv : Value} (hS : SsAt Q w sv x.l) (hln : 0 < L.length → x.l.length ≤ 8796093021952) (hP : ∀ b, w.heap.size ≤ b → P b) : Calls Try.prog 12 #[.pointer p, .agg #[.int .i64 x.e, .int .i64 x.d, sv]] w (PutP P w c L x (find L x.e x.d)) := by
  obtain ⟨sa, scp, hsv⟩ : ∃ sa scp, sv = .slice sa x.l.length scp := by
    obtain ⟨sa, scp, sg0, so, hsv, _⟩ := hS
    exact ⟨sa, scp, hsv⟩
  obtain ⟨w2, hw2⟩ : ∃ w2, w2 = (w.alloc (.cells #[.int .i64 x.e, .int .i64 x.d, sv] 31)).alloc (.cells #[.bool false] 4) := ⟨_, rfl⟩
  have hs2 : w2.heap.size = w.heap.size + 2 := by rw [hw2]; simp
  have hb2 : Below w.heap.size w w2 := by rw [hw2]; exact ((Below.refl _ w).alloc (Nat.le_refl _) _).alloc (by simp) _
  have y0 : w2.heap[w.heap.size]? = some (.cells #[.int .i64 x.e, .int .i64 x.d, sv] 31) := by rw [hw2]; exact (at2 w _ _).1
  have y1 : w2.heap[w.heap.size + 1]? = some (.cells #[.bool false] 4) := by rw [hw2]; exact (at2 w _ _).2
  obtain ⟨w4, hw4⟩ : ∃ w4, w4 = (w2.alloc (.cells #[.slice a L.length L.length] 71)).alloc (.cells #[.int .i64 (homeN L.length x.e x.d : Int)] 3) := ⟨_, rfl⟩
  have hs4 : w4.heap.size = w.heap.size + 4 := by rw [hw4]; simp [hs2]
  have hb4 : Below w2.heap.size w2 w4 := by rw [hw4]; exact ((Below.refl _ w2).alloc (Nat.le_refl _) _).alloc (by simp) _
  have hVr : Vars w4 a (w2.heap.size) (w2.heap.size + 1) c L.length (homeN L.length x.e x.d) := by
    obtain ⟨z1, z2⟩ := at2 w2 (.cells #[.slice a L.length L.length] 71) (.cells #[.int .i64 (homeN L.length x.e x.d : Int)] 3)
    rw [hw4]
    exact ⟨z1, h.row, z2⟩
  have hc := h.cells w2 hb2
  have hh := home_any (w := w2) (a := a) x.e x.d h.small
  have har := around_any (w := w2) (a := a) (n := L.length) (homeN L.length x.e x.d : Int)
  rw [← hw4] at har
  have hsm := h.small
  have HB : Hid (Below w.heap.size w w4) := hb2.trans (hb4.mono hb2.size)
  have HT : Hid (∀ A, Below w.heap.size w A → 0 < L.length → Ring P A c L) := fun A hA h0 => (h.ring h0).keep (Kb.of_below hA) (hA.block c (h.ring h0).lt)
  have HCL : Hid (0 < L.length → c < w.heap.size) := fun h0 => (h.ring h0).lt
  have HS : Hid (∀ A, Below w.heap.size w A → SsAt Q A sv x.l) := fun A hA => hS.keep (Kb.of_below hA)
  have HP := hid_mk hP
  have HY : Hid (w4.heap[w.heap.size]? = some (.cells #[.int .i64 x.e, .int .i64 x.d, sv] 31) ∧ w4.heap[w.heap.size + 1]? = some (.cells #[.bool false] 4)) :=
    ⟨(hb4.block _ (by omega)).trans y0, (hb4.block _ (by omega)).trans y1⟩
  obtain ⟨c0, c1, c2⟩ := (box3 y0).1
  have HW2 := hid_mk hw2
  have HV := hid_mk hVr
  rw [hs2] at har HV
  clear hw2 hw4 hb2 hb4 h y0 y1 hVr hP hS
  obtain ⟨n, hn⟩ : ∃ n, n = L.length := ⟨_, rfl⟩
  obtain ⟨hm, hhm⟩ : ∃ hm, hm = homeN L.length x.e x.d := ⟨_, rfl⟩
  rw [← hhm] at hh har HV
  rw [← hn] at hc hh har HV hsm
  have HHM := hid_mk hhm
  have HN := hid_mk hn
  have hhl : hm ≤ 65536 := by rw [hhm]; exact home_le _ x.e x.d (by omega)
  clear hhm hn
  subst hsv
  obtain ⟨xe, hxe⟩ : ∃ xe, xe = x.e := ⟨_, rfl⟩
  obtain ⟨xd, hxd⟩ : ∃ xd, xd = x.d := ⟨_, rfl⟩
  obtain ⟨xn, hxn⟩ : ∃ xn, xn = x.l.length := ⟨_, rfl⟩
  rw [← hxe, ← hxd, ← hxn] at HW2 HY
  rw [← hxe, ← hxd] at hh
  rw [← hxe] at c0
  rw [← hxd] at c1
  rw [← hxn] at c2 HS
  have HXE := hid_mk hxe
  have HXD := hid_mk hxd
  have HXN := hid_mk hxn
  rw [show (Value.agg #[.int .i64 x.e, .int .i64 x.d, .slice sa x.l.length scp]) = .agg #[.int .i64 xe, .int .i64 xd, .slice sa xn scp] by rw [hxe, hxd, hxn]]
  clear hxe hxd hxn
  refine (callsIn_wide (n := 9)).1 ?_
  refine callsIn_of_wp_marks Try.func12 rfl trivial ?_ rfl
  refine wpIn_wide.2 ?_
  simp only [Try.ntmps12, List.size_toArray, List.length_cons, List.length_nil, Nat.reduceAdd, Nat.reduceSub, Array.replicate_succ, Array.replicate_zero, List.push_toArray, List.append_toArray, List.nil_append, List.cons_append]
  go_upto_region 1 with fail
  rw [← HW2.out]
  go_wp2_with (first
    | (go_at_call 31; refine hc.mono ?_; rintro e w' ⟨rfl, hw⟩; rw [hw]; clear hw w')
    | (go_at_call 33; refine hh.mono ?_; rintro e w' ⟨rfl, hw⟩; rw [hw]; clear hw w')
    | (go_at_call 32; refine har.mono ?_; rintro e w' ⟨rfl, hw⟩; rw [hw]; clear hw w'))
  refine (wpIn_wide (n := 9)).1 ?_
  have hAl : ∀ o, Below w4.heap.size w4 ((w4.alloc (.deferred (some []))).alloc o) := fun o => ((Below.refl _ _).alloc (Nat.le_refl _) _).alloc (by simp) _
  clear hc hh har c0 c1 c2
  refine range_ring (gf := 41) (lb := #[.pointer (some ⟨w.heap.size + 2, 0, none⟩), .pointer (some ⟨w.heap.size + 2 + 1, 0, none⟩)]) rfl (enters_of Try.func41 (by kernel_rfl) rfl)
    (fun o => around_told (HV.out.below (hAl o)) hsm hhl)
    (fun A A' A'' h k => h.trans k) (fun A l o o' hl ho hc => ⟨by simp [World.putObj], World.putObj_heap_other (by omega), World.putObj_heap_other (by omega)⟩)
    (fun i A => Below w4.heap.size w4 A ∧ Past L x.e x.d hm i) (PutX P w c L x)
    ?gI ?gX ?gIp ?gXp
    (fun o => ⟨hAl o, Past.zero _ _ _ _⟩)
    (fun i => { tmps := #[.pointer p, .agg #[.int .i64 xe, .int .i64 xd, .slice sa xn scp], undef, .pointer (some ⟨w.heap.size, 0, none⟩), .pointer (some ⟨w.heap.size + 1, 0, none⟩), .slice a n n, .pointer (some ⟨c, (hm + i) % n, none⟩), .pointer p, .slice a n n, .slice a n n, .slice a n n, .pointer (some ⟨w.heap.size, 0, none⟩), .int .i64 xe, .pointer (some ⟨w.heap.size, 1, none⟩), .int .i64 xd, .int .i64 (hm : Int), .func (.func 41) #[] #[.pointer (some ⟨w.heap.size + 2, 0, none⟩), .pointer (some ⟨w.heap.size + 2 + 1, 0, none⟩)], .pointer (some ⟨c, (hm + i) % n, none⟩), undef, undef, undef, undef, undef, undef, undef, undef, undef, undef, undef, undef], defers := [] })
    ?assign ?body ?done ?stop
  case gI => exact fun i A B h k => ⟨h.1.trans (k.mono h.1.size), h.2⟩
  case gX =>
    rintro c' A B ⟨rfl, q, h2, h3⟩ k
    exact ⟨rfl, q, (k.block _ (Array.getElem?_eq_some_iff.1 h2).1).trans h2, h3.keep k⟩
  case gIp => exact fun i A l o o' h hl ho hc => ⟨below_putO h.1 hl o', h.2⟩
  case gXp =>
    rintro c' A l o o' ⟨rfl, q, h2, h3⟩ hl ho hc
    exact ⟨rfl, q, cell_putO h2 ho hc o', h3.putO (by omega) ho hc o'⟩
  case assign =>
    intro kk l i A K hK
    gi_wp2
    exact hK
  case body =>
    rintro kk l i A ⟨hb, hp⟩ hi
    have hb2 : Below w.heap.size w A := HB.out.trans (hb.mono HB.out.size)
    have hnp : 0 < n := by omega
    obtain ⟨j, hj⟩ : ∃ j, j = (hm + i) % n := ⟨_, rfl⟩
    have hjn : j < n := by rw [hj]; exact Nat.mod_lt _ hnp
    have hjl : j < L.length := by rw [← HN.out]; exact hjn
    obtain ⟨o, ho⟩ : ∃ o, L[j]? = some o := ⟨_, List.getElem?_eq_getElem hjl⟩
    have hRA : Ring P A c L := HT.out A hb2 (by omega)
    have HO : Hid (L[(homeN L.length x.e x.d + i) % L.length]? = some o) := by
      rw [Hid, ← HHM.out, ← HN.out, ← hj]
      exact ho
    have hP : Past L x.e x.d (homeN L.length x.e x.d) i := by rw [← HHM.out]; exact hp
    have hi2 : i < L.length := by rw [← HN.out]; exact hi
    have hSA := HS.out A hb2
    obtain ⟨c0, c1, c2⟩ := (box3 ((hb.block _ (by omega)).trans HY.out.1)).1
    have hcw : c < w.heap.size := HCL.out (by omega)
    rw [← hj]
    have hwA := hb.size
    cases o with
    | none =>
      have hf := fill_free hRA ho hSA (hln (by omega)) (fun b hb => HP.out b (by omega))
      rw [← HXE.out, ← HXD.out] at hf
      have HG : Hid (∀ w5, Ring P w5 c (L.set j (some x)) → Kb (fun k => k ≠ c) A w5 → (w5.cell? ⟨w.heap.size + 1, 0, none⟩ = some (.bool false) ∧ w5.frozen? ⟨w.heap.size + 1, 0, none⟩ = false) ∧ KeepsUp w4.heap.size A (w5.setCell ⟨w.heap.size + 1, 0, none⟩ (.bool true)) ∧ PutX P w c L x .ret (w5.setCell ⟨w.heap.size + 1, 0, none⟩ (.bool true))) := fun w5 hr hk => by
        have d1 : w5.heap[w.heap.size + 1]? = some (.cells #[.bool false] 4 (0, 0)) := (hk.block _ (by omega) (by omega)).trans ((hb.block _ (by omega)).trans HY.out.2)
        refine ⟨box_cell d1, ⟨by simpa [World.setCell] using hk.size, fun k oo hk1 ho1 _ => ?_⟩, rfl, true, set_box d1, ?_⟩
        · exact (set_ne (by omega)).trans ((hk.block k (Array.getElem?_eq_some_iff.1 ho1).1 (by omega)).trans ho1)
        · rw [find_free hi2 hP HO.out, ← HHM.out, ← HN.out, ← hj]
          exact ⟨rfl, hr.setB (Odd.flag d1) _, ((Kb.of_below hb2).trans hk).set_new (p := ⟨w.heap.size + 1, 0, none⟩) (by show w.heap.size ≤ w.heap.size + 1; omega) _⟩
      clear hj hjl ho hRA hb hp hb2 HO hP hi2 hi hjn hSA
      gi_wp2_with (refine ⟨(fun h => by cases h), ?_⟩; gi_at_call 34; refine ((callsIn_wide.2 hf).inRound _).mono ?_; rintro e w5 ⟨rfl, hr5, hk5⟩; obtain ⟨⟨q1, f1⟩, h5⟩ := HG.out w5 hr5 hk5; have H5 := hid_mk h5; clear hr5 hk5 h5)
      exact H5.out
    | some y =>
      have hf := fill_taken (x := x) hRA ho hSA
      rw [← HXE.out, ← HXD.out] at hf
      have hmix : Try.prog.follows .mixedOrders = true := by kernel_rfl
      have HG : Hid (∀ w5, Below A.heap.size A w5 → ∃ g, (∀ k, CallsIn Fence.wide (kk - 1) Try.prog 35 #[.pointer (some ⟨c, j, none⟩)] (w5.drewN k) (fun e w' => e = .returned (.pointer (some ⟨g, 0, none⟩)) ∧ w' = w5.drewN k)) ∧ (∀ k, CallsIn Fence.wide (kk - 1) Try.prog 36 #[.pointer (some ⟨g, 0, none⟩), .int .i64 xe, .int .i64 xd] (w5.drewN k) (fun r w' => r = .returned (.bool (isE y xe xd)) ∧ w' = w5.drewN k)) ∧
          (w5.cell? ⟨w.heap.size, 0, none⟩ = some (.int .i64 xe) ∧ w5.cell? ⟨w.heap.size, 1, none⟩ = some (.int .i64 xd)) ∧ w5.heap[w.heap.size + 1]? = some (.cells #[.bool false] 4 (0, 0))) := fun w5 hb5 => by
        have hbd : ∀ k, Below w5.heap.size w5 (w5.drewN k) := fun k => ⟨rfl, rfl, rfl, Nat.le_refl _, fun _ _ => rfl⟩
        have hR5 : Ring P w5 c L := hRA.keep (Kb.of_below hb5) (hb5.block c hRA.lt)
        obtain ⟨v, hv, hV, _⟩ := hR5.cell ho
        obtain ⟨g, rfl, hE⟩ := hV
        obtain ⟨⟨q0, q1, _⟩, _⟩ := box3 ((hb5.block w.heap.size (by omega)).trans ((hb.block _ (by omega)).trans HY.out.1))
        refine ⟨g, fun k => callsIn_wide.2 (loadE_any (P := P) (o := some y) (w := w5.drewN k) hv ⟨g, rfl, hE.keep (Kb.of_below (hbd k))⟩), fun k => callsIn_wide.2 (is_any (hE.keep (Kb.of_below (hbd k))) xe xd), ⟨q0, q1⟩, (hb5.block _ (by omega)).trans ((hb.block _ (by omega)).trans HY.out.2)⟩
      have HFH : Hid (isE y xe xd = true → find L x.e x.d = .here y) := fun h => find_here hi2 hP HO.out (by rw [← HXE.out, ← HXD.out]; exact h)
      have HFS : Hid (isE y xe xd = false → Past L x.e x.d hm (i + 1)) := fun h => by
        have := hP.step HO.out (by rw [← HXE.out, ← HXD.out]; exact h)
        rw [← HHM.out] at this
        exact this
      have HBA := hid_mk hb
      have HB2 := hid_mk hb2
      clear hj hjl ho hRA hb hp hb2 HO hP hi2 hi hjn hSA
      generalize isE y xe xd = q at *
      gi_wp2_with (refine ⟨(fun h => by cases h), ?_⟩; gi_at_call 34; refine ((callsIn_wide.2 hf).inRound _).mono ?_; rintro e w5 ⟨rfl, hb5⟩; obtain ⟨g, hl5, his5, ⟨q0, q1⟩, d5⟩ := HG.out w5 hb5; have HB5 := hid_mk hb5; have D5 := hid_mk d5; clear hb5 d5)
      clear HG hf c0 c1 c2
      refine region_quiet_round (by kernel_rfl) (by kernel_rfl) (by kernel_rfl) ?_
      repeat (gi_big_quiet_step (first
        | (refine ⟨(fun h => by cases h), ?_⟩; with_reducible exact CallsIn.quiet_of_same (hl5 _))
        | (refine ⟨(fun h => by cases h), ?_⟩; with_reducible exact CallsIn.quiet_of_same (his5 _))))
      refine wpQuietIn_nil ?_
      intro _ hw'
      obtain ⟨nq, hw''⟩ := hw'
      subst hw''
      clear hl5 his5 q0 q1
      cases q with
      | false =>
        have HX : Hid (KeepsUp w4.heap.size A (w5.drewN nq) ∧ KpP (w.heap.size + 2) (w.heap.size + 2 + 1) A (w5.drewN nq) ∧ Below w4.heap.size w4 (w5.drewN nq) ∧ Past L x.e x.d hm (i + 1)) := by
          have hb5 := HB5.out
          have hs5 := HBA.out.size
          exact ⟨⟨hb5.size, fun k o _ h _ => (hb5.block k (Array.getElem?_eq_some_iff.1 h).1).trans h⟩, ⟨hb5.size, hb5.block _ (by omega), hb5.block _ (by omega)⟩, HBA.out.trans ((hb5.trans (c := w5.drewN nq) ⟨rfl, rfl, rfl, Nat.le_refl _, fun _ _ => rfl⟩).mono hs5), HFS.out rfl⟩
        clear HFH HFS HBA HB2 HB5 D5
        gi_wp2
        exact HX.out
      | true =>
        obtain ⟨k1, f1⟩ := box_cell (w := (w5.drewN nq)) D5.out
        have HX : Hid (KeepsUp w4.heap.size A ((w5.drewN nq).setCell ⟨w.heap.size + 1, 0, none⟩ (.bool false)) ∧ PutX P w c L x .ret ((w5.drewN nq).setCell ⟨w.heap.size + 1, 0, none⟩ (.bool false))) := by
          have hb5 := HB5.out
          have hs5 := HBA.out.size
          refine ⟨⟨by simpa [World.setCell] using hb5.size, fun k o hk h _ => (set_ne (by omega)).trans ((hb5.block k (Array.getElem?_eq_some_iff.1 h).1).trans h)⟩, rfl, false, set_box D5.out, ?_⟩
          rw [HFH.out rfl]
          exact ⟨rfl, ((HB2.out.trans (hb5.mono HB2.out.size)).trans (c := w5.drewN nq) ⟨rfl, rfl, rfl, Nat.le_refl _, fun _ _ => rfl⟩).setCell (p := ⟨w.heap.size + 1, 0, none⟩) (Nat.le_succ _) _⟩
        clear HFH HFS HBA HB2 HB5 D5
        gi_wp2
        exact HX.out
  case done =>
    rintro D A rfl ⟨hb, hp⟩ hK
    have hfd : find L x.e x.d = .full := by
      refine find_full ?_
      rw [← HHM.out, ← HN.out]
      exact hp
    have d1 : A.heap[w.heap.size + 1]? = some (.cells #[.bool false] 4 (0, 0)) := (hb.block _ (by omega)).trans HY.out.2
    obtain ⟨q1, f1⟩ := box_cell d1
    have HE := hid_mk (set_box (v := .bool false) d1)
    have HK : Hid ((A.setCell ⟨w.heap.size + 1, 0, none⟩ (.bool false)).heap[w4.heap.size]? = some (.deferred (some []))) := (set_ne (by omega)).trans hK
    have HR : Hid (PutP P w c L x (find L x.e x.d) (.returned (.bool false)) (A.setCell ⟨w.heap.size + 1, 0, none⟩ (.bool false))) := by
      rw [hfd]
      exact ⟨rfl, (HB.out.trans (hb.mono HB.out.size)).setCell (p := ⟨w.heap.size + 1, 0, none⟩) (Nat.le_succ _) _⟩
    clear hb hp hK hfd d1
    go_wp2
    exact put_end HE.out HK.out rfl (HR.out.putO (by omega) HK.out rfl _)
  case stop =>
    rintro D c' A rfl ⟨rfl, q, h2, h3⟩ hK
    have HE := hid_mk h2
    have HR := hid_mk h3
    have HK := hid_mk hK
    clear h2 h3 hK
    gi_wp2
    exact put_end HE.out HK.out rfl (HR.out.putO (by omega) HK.out rfl _)
end Go.Proofs.Ytdgbebgjenfmbaa.M
