/- The law's list: those that Under tells, as many as are wanted. -/
import Derived.Test.YtoncgmnccgegmaaGreatOrdN
namespace Go.Proofs.YtoncgmnccgegmaaGreat.N
open Go.RowKit Go.Shelf
attribute [local go_sem] Oper.semAt_some
set_option maxRecDepth 100000

theorem list_end {w0 w A : World} {l : List Int} {bl D : Nat} {xs : List Int} {v : Value} {ts : Array Value} (h0 : Below w0.heap.size w0 w) (hl : l = xs) (hb : Boxed A bl 29 v) (ho : A.ownsRow w.heap.size 3 1 v xs.length (intsV xs)) (hB : Below w.heap.size w A) (hK : A.heap[D]? = some (.deferred (some []))) (hD : w.heap.size ≤ D) (h2 : ts[6]?.getD undef = v) :
    bodyPostM Fence.wide 9 Tryz.prog Tryz.f11 (fun x w' => ∃ v, x = .returned v ∧ w'.ownsRow w0.heap.size 3 1 v l.length (intsV l) ∧ Below w0.heap.size w0 w') .ret { tmps := ts, defers := [{ target := .collected D, args := #[] }] } A := by
  subst hl
  refine ⟨by simp, .inl ⟨_, _, rfl, run_takeDeferred hK, ?_⟩⟩
  have hI : OrdI w bl l (A.putObj D (.deferred none)) := OrdI.put ⟨v, hb, ho, hB⟩ hD hK rfl _
  have hne : bl ≠ D := fun e => by
    have h7 : A.heap[bl]? = _ := hb
    rw [e, hK] at h7
    cases h7
  have hb' : Boxed (A.putObj D (.deferred none)) bl 29 v := (World.putObj_heap_other hne).trans hb
  obtain ⟨v', hb2, ho2, hB2⟩ := hI
  have e : v' = v := by
    have h1 := hb2.cell
    rw [hb'.cell] at h1
    exact (Option.some.inj h1).symm
  subst e
  generalize A.putObj D (.deferred none) = Y at *
  refine ⟨v', ?_, v', rfl, ownsRow_mono ho2 h0.size, h0.trans (hB2.mono h0.size)⟩
  simp [results, Tryz.results11, go_sem, h2]
theorem fn_eq0 (w : World) (d k : Nat) (lb : Array Value) : (Op.equalIn (d + 1) 64 (.func (.func k) #[] lb) .nilFunc).run Tryz.prog w = .ok false w := by
  simp [Op.equalIn, run_underlying Tryz.underlying64]
theorem fn_eq (w : World) (k : Nat) (lb : Array Value) : (binOp .eql 64 (.func (.func k) #[] lb) .nilFunc).run Tryz.prog w = .ok (.bool false) w := by
  have h := fn_eq0 w 9999 k lb
  simp only [binOp]
  simp [Op.equal, Op.maxDepth, h]
/-- So many of them, or all. -/
def mostL (l : List Int) (most : Int) : List Int := if 0 ≤ most ∧ most < (l.length : Int) then l.take most.toNat else l
/-- What stands behind a stop. -/
def LstX (w : World) (bl : Nat) (most : Int) (c : Code) (xs : List Int) (A : World) : Prop := c = .exit 0 ∧ ∃ pre x, xs = pre ++ [x] ∧ (pre.length : Int) = most ∧ OrdI w bl pre A
def LstI (w : World) (bl : Nat) (most : Int) (pre : List Int) (A : World) : Prop := OrdI w bl pre A ∧ (most < 0 ∨ (pre.length : Int) ≤ most)
set_option maxHeartbeats 1000000 in
theorem list_any {w : World} {dp : Value} {m : M} {nx : Int} (h : Tree w dp m nx) (top most : Int) (hlen : (preO m top).length ≤ 100000) : Calls Tryz.prog 11 #[dp, .int .i64 top, .int .i64 most] w fun x w' => ∃ v, x = .returned v ∧ w'.ownsRow w.heap.size 3 1 v (mostL (preO m top) most).length (intsV (mostL (preO m top) most)) ∧ Below w.heap.size w w' := by
  obtain ⟨d, I⟩ := h.2
  obtain ⟨b, pa, rfl, hb, hT⟩ := tree_ptr h
  obtain ⟨i3, z3, hi0, hz0, hz1, hz2, rfl⟩ := info3r
  have hbl : b < w.heap.size := (Array.getElem?_eq_some_iff.1 hb).1
  obtain ⟨wx, hwx⟩ : ∃ wx, wx = w.alloc (.cells #[.int .i64 most] 3) := ⟨_, rfl⟩
  have hBx : Below w.heap.size w wx := by rw [hwx]; exact (Below.refl _ _).alloc (Nat.le_refl _) _
  have hbm : wx.heap[w.heap.size]? = some (.cells #[.int .i64 most] 3 (0, 0)) := by rw [hwx]; exact heap_alloc_last w _
  have hml : w.heap.size < wx.heap.size := (Array.getElem?_eq_some_iff.1 hbm).1
  obtain ⟨w2, hw2⟩ : ∃ w2, w2 = wx.alloc (.cells #[.slice none 0 0] 29) := ⟨_, rfl⟩
  have hB12 : Below wx.heap.size wx w2 := by rw [hw2]; exact (Below.refl _ _).alloc (Nat.le_refl _) _
  have hB2 : Below w.heap.size w w2 := hBx.trans (hB12.mono hBx.size)
  have hbx : Boxed w2 wx.heap.size 29 (.slice none 0 0) := by rw [hw2]; exact heap_alloc_last wx _
  have hun := wunder_any (id := top) ((hB2.block _ hbl).trans hb)
  have HMC : Hid (∀ A, Below wx.heap.size wx A → A.cell? ⟨w.heap.size, 0, none⟩ = some (.int .i64 most)) := fun A hA => by
    have h7 := (hA.block _ hml).trans hbm
    simp [World.cell?, h7]
  refine (callsIn_wide (n := 9)).1 ?_
  refine callsIn_of_wp_marks Tryz.func11 rfl trivial ?_ rfl
  refine wpIn_wide.2 ?_
  simp only [Tryz.ntmps11, List.size_toArray, List.length_cons, List.length_nil, Nat.reduceAdd, Nat.reduceSub, Array.replicate_succ, Array.replicate_zero, List.push_toArray, List.append_toArray, List.nil_append, List.cons_append]
  have HW2 := hid_mk (hwx ▸ hw2)
  have HBX := hid_mk hbx
  have HB2 := hid_mk hB2
  have HBx := hid_mk hBx
  have HB12 := hid_mk hB12
  have HT := hid_mk (hT.keep hBx)
  have HI := hid_mk I
  clear h hb hT I hB12 hB2 hbx hBx hbm
  go_upto_region 2 with (fail)
  rw [← HW2.out]
  have hsx : w.heap.size + 1 = wx.heap.size := by rw [hwx]; simp
  rw [hsx]
  clear hwx hw2
  have hfq := fun w' => fn_eq w' 71 #[.pointer (some ⟨w2.heap.size, 0, none⟩), .pointer (some ⟨w2.heap.size + 1, 0, none⟩)]
  go_wp2_with (go_at_call 36; refine hun.mono ?_; clear hun; rintro e w3 ⟨rfl, rfl⟩)
  obtain ⟨w4, hw4⟩ : ∃ w4, w4 = (w2.alloc (.cells #[.int .i64 top] 3)).alloc (.cells #[.pointer pa, .int .i64 nx] 74) := ⟨_, rfl⟩
  have hs1 : (w2.alloc (.cells #[.int .i64 top] 3)).heap.size = w2.heap.size + 1 := by simp
  have hs4 : w4.heap.size = w2.heap.size + 2 := by rw [hw4]; simp
  have hB24 : Below w2.heap.size w2 w4 := by rw [hw4]; exact ((Below.refl _ _).alloc (Nat.le_refl _) _).alloc (by rw [hs1]; omega) _
  have hb1 : w4.heap[w2.heap.size]? = some (.cells #[.int .i64 top] 3 (0, 0)) := by
    rw [hw4, Below.heap_alloc _ _ _ (by rw [hs1]; omega)]
    exact heap_alloc_last w2 _
  have hb2 : w4.heap[w2.heap.size + 1]? = some (.cells #[.pointer pa, .int .i64 nx] 74 (0, 0)) := by
    rw [hw4, ← hs1]
    exact heap_alloc_last _ _
  have hl1 : wx.heap.size < w2.heap.size := HBX.out.lt
  have HI4 : Hid (OrdI wx wx.heap.size [] w4) := ⟨_, (hB24.block _ hl1).trans HBX.out, ⟨rfl, .inl ⟨rfl, rfl⟩⟩, HB12.out.trans (hB24.mono HB12.out.size)⟩
  have HB24 := hid_mk hB24
  rw [← hw4]
  clear hw4 hs1 hB24 hfq hsx
  refine (wpIn_wide (n := 9)).1 ?_
  have HUW : Hid (∀ A, Below w4.heap.size w4 A → Uw wx wx.heap.size (w2.heap.size + 1) (.pointer pa) nx A) := fun A hA => by
    obtain ⟨v, hb, ho, hB⟩ := HI4.out
    have hb' : Boxed A wx.heap.size 29 v := (hA.block _ hb.lt).trans hb
    have ho' := ownsRow_below ho hA
    refine ⟨⟨by omega, hb'.lt, fun j hj => ?_⟩, hB.trans (hA.mono hB.size), (hA.block _ (Array.getElem?_eq_some_iff.1 hb2).1).trans hb2, ⟨by omega, fun hj => ?_⟩⟩
    · exact ho'.lt j ((owned_iff hb' ho').1 hj)
    · have hv := (owned_iff hb' ho').1 hj
      rcases ho'.2 with ⟨e, _⟩ | ⟨g, cap, cur, e, _, h2, _⟩
      · rw [e] at hv
        cases hv
      · rw [e] at hv
        have hg : g = w2.heap.size + 1 := Option.some.inj hv
        rw [hg, (hA.block _ (Array.getElem?_eq_some_iff.1 hb2).1).trans hb2] at h2
        injection h2 with h2
        injection h2 with _ h2
        cases h2
  have hAl : ∀ o, Below w4.heap.size w4 ((w4.alloc (.deferred (some []))).alloc o) := fun o => ((Below.refl _ _).alloc (Nat.le_refl _) _).alloc (by simp) _
  refine range_told (P := Tryz.prog) (gf := 71) (lb := #[.pointer (some ⟨w2.heap.size, 0, none⟩), .pointer (some ⟨w2.heap.size + 1, 0, none⟩)]) rfl (enters_of Tryz.func71 (by kernel_rfl) rfl)
    (fun o => under_told HT.out HI.out (HUW.out _ (hAl o)) (((hAl o).block _ (Array.getElem?_eq_some_iff.1 hb1).1).trans hb1) hlen)
    (fun A B C h k => h.trans k) (fun A l o o' hl ho hc => ?kput) (fun A B h k o hk ho => h.same k o hk (.inl ho))
    (LstI wx wx.heap.size most) (LstX wx wx.heap.size most) (fun xs A B h k => ⟨h.1.it k, h.2⟩) (fun c xs A B h k => ?xit) (fun xs A l o o' h hl ho hc => ⟨h.1.put (by omega) ho hc o', h.2⟩) (fun c xs A l o o' h hl ho hc => ?xput)
    (fun o => ?start)
    (fun x => { tmps := #[.pointer (some ⟨b, 0, none⟩), .int .i64 top, .int .i64 most, undef, undef, .pointer (some ⟨w.heap.size, 0, none⟩), .slice none 0 0, .pointer (some ⟨wx.heap.size, 0, none⟩), .func (.func 71) #[] #[.pointer (some ⟨w2.heap.size, 0, none⟩), .pointer (some ⟨w2.heap.size + 1, 0, none⟩)], .int .i64 x, .pointer (some ⟨b, 0, none⟩), .int .i64 top, .func (.func 71) #[] #[.pointer (some ⟨w2.heap.size, 0, none⟩), .pointer (some ⟨w2.heap.size + 1, 0, none⟩)], .func (.func 71) #[] #[.pointer (some ⟨w2.heap.size, 0, none⟩), .pointer (some ⟨w2.heap.size + 1, 0, none⟩)], .bool false, undef, .func (.func 71) #[] #[.pointer (some ⟨w2.heap.size, 0, none⟩), .pointer (some ⟨w2.heap.size + 1, 0, none⟩)], .int .i64 x, undef, undef, undef, undef, undef, undef, undef, undef, undef], defers := [] })
    ?assign ?body ?done ?stop
  case kput => exact kp_put (by omega) (by omega) ho hc o'
  case xit =>
    obtain ⟨hc, pre, x, h1, h2, h3⟩ := h
    exact ⟨hc, pre, x, h1, h2, h3.it k⟩
  case xput =>
    obtain ⟨hcc, pre, x, h1, h2, h3⟩ := h
    exact ⟨hcc, pre, x, h1, h2, h3.put (by omega) ho hc o'⟩
  case start =>
    obtain ⟨v, hb, ho, hB⟩ := HI4.out
    refine ⟨⟨v, ((hAl o).block _ hb.lt).trans hb, ownsRow_below ho (hAl o), hB.trans ((hAl o).mono hB.size)⟩, ?_⟩
    simp only [List.length_nil]
    omega
  case assign =>
    intro kk l x A K hK
    gi_wp2
    exact hK
  case body =>
    rintro kk l pre x A ⟨⟨v, hv, hrow, hB⟩, hmo⟩ hlt
    have hvc := hv.cell
    have hmc := HMC.out A hB
    have hpl : pre.length ≤ 100000 := by omega
    have hle : wx.heap.size ≤ wx.heap.size := Nat.le_refl _
    by_cases heq : (pre.length : Int) = most
    · have HX : Hid (KeepsOthers A A ∧ LstX wx wx.heap.size most (.exit 0) (pre ++ [x]) A) := ⟨KeepsOthers.refl A, rfl, pre, x, rfl, heq, v, hv, hrow, hB⟩
      obtain ⟨av, cv, rfl⟩ := own_slice hrow
      rw [heq.symm] at hmc
      clear hv hrow hB hmo
      gi_wp2
      exact HX.out
    · have hne : ((pre.length : Int) == most) = false := beq_eq_false_iff_ne.2 heq
      obtain ⟨av, cv, rfl⟩ := own_slice hrow
      gi_wp2_with (gi_at_builtin; go_must (refine wpListIn_append_own_at _ rfl _ _ 29 rfl wx.heap.size 3 i3 (.int .i64 0) 1 8 Tryz.underlying29 hi0 hz0 hz1 hz2 rfl (by decide) _ _ _ rfl (hrow.alloc _) ⟨A.heap.size, 0, none⟩ 1 1 [.int .i64 x] rfl rfl (cell_one_new _ _ _) (by simp [Value.oneCell']) (by unfold maxLen; omega) (by omega) (by have := hB.size; simp; omega) ?_); intro v' w5 hown' hgrow _ hat; obtain ⟨g', cap', rfl⟩ := ownsRow_succ hown'; obtain ⟨hv1, hv2, hr2, hk2, hb2'⟩ := hv.appended (by decide) hrow hB.size hle hown' hgrow; have hc1 := hv1.cell; have hf1 := hv1.frozen)
      refine ⟨hk2, fun _ => kp_append hv hrow hgrow hat hb2' hv2 hr2, ⟨_, hv2, ?_, hB.trans hb2'⟩, ?_⟩
      · rw [List.length_append, intsV_app]
        exact hr2
      · rw [List.length_append, List.length_singleton]
        omega
  case done =>
    rintro D xs A rfl rfl ⟨⟨v, hv, hrow, hB⟩, hmo⟩ hK
    have hvc := hv.cell
    have HE : Hid (mostL (preO m top) most = preO m top) := by
      rw [Hid]
      unfold mostL
      rw [if_neg (by omega)]
    have HV := hid_mk hv
    have HR := hid_mk hrow
    have HB := hid_mk hB
    have HK := hid_mk hK
    clear hv hrow hB hK hmo
    go_wp2
    exact list_end HBx.out HE.out HV.out HR.out HB.out HK.out (by omega) rfl
  case stop =>
    rintro D c pre A rfl hpre ⟨rfl, pr, x, rfl, hm, v, hv, hrow, hB⟩ hK
    have HE : Hid (mostL (preO m top) most = pr) := by
      obtain ⟨t, ht⟩ := hpre
      have hl : (preO m top).length = pr.length + 1 + t.length := by rw [← ht]; simp; omega
      rw [Hid]
      unfold mostL
      rw [if_pos ⟨by omega, by omega⟩, ← ht, show most.toNat = pr.length by omega, List.append_assoc, List.take_left]
    have hvc := hv.cell
    have HV := hid_mk hv
    have HR := hid_mk hrow
    have HB := hid_mk hB
    have HK := hid_mk hK
    clear hv hrow hB hK hm hpre
    gi_wp2
    go_wp2
    exact list_end HBx.out HE.out HV.out HR.out HB.out HK.out (by omega) rfl

end Go.Proofs.YtoncgmnccgegmaaGreat.N
