/- walk's Under and Order. -/
import Derived.Test.YtoncgmnccgegmaaGreatIteN
import Derived.Laws.MakeOwn
import Derived.Maps.AppendAt
import Derived.Maps.OwnIn
namespace Go.Proofs.YtoncgmnccgegmaaGreat.N
open Go.RowKit Go.Shelf
set_option maxRecDepth 100000
attribute [local go_sem] Oper.semAt_some

set_option maxHeartbeats 400000 in
theorem wunder_any {w : World} {b : Nat} {pa : Option Addr} {nx : Int} (h : w.heap[b]? = some (.cells #[.pointer pa, .int .i64 nx] 74 (0, 0))) (id : Int) : Calls Tryz.prog 36 #[.pointer (some ⟨b, 0, none⟩), .int .i64 id] w fun x w' => x = .returned (.func (.func 71) #[] #[.pointer (some ⟨w.heap.size, 0, none⟩), .pointer (some ⟨w.heap.size + 1, 0, none⟩)]) ∧ w' = (w.alloc (.cells #[.int .i64 id] 3)).alloc (.cells #[.pointer pa, .int .i64 nx] 74) := by
  have hl := (Array.getElem?_eq_some_iff.1 h).1
  have c0 : (w.alloc (.cells #[.int .i64 id] 3)).cell? ⟨b, 0, none⟩ = some (.pointer pa) := by simp [World.cell?, (Below.heap_alloc w (.cells #[.int .i64 id] 3) b hl).trans h]
  have c1 : (w.alloc (.cells #[.int .i64 id] 3)).cell? ⟨b, 1, none⟩ = some (.int .i64 nx) := by simp [World.cell?, (Below.heap_alloc w (.cells #[.int .i64 id] 3) b hl).trans h]
  clear h
  go_enter Tryz.func36, Tryz.ntmps36
  go_wp2
  go_ret
  exact ⟨by simp, rfl⟩
/-- The caller's list, in a variable of its own. -/
def OrdI (w : World) (bl : Nat) (pre : List Int) (A : World) : Prop := ∃ v, Boxed A bl 29 v ∧ A.ownsRow w.heap.size 3 1 v pre.length (intsV pre) ∧ Below w.heap.size w A
theorem owned_iff {A : World} {bl B n k : Nat} {v : Value} {xs : List Value} (hb : Boxed A bl 29 v) (ho : A.ownsRow B 3 1 v n xs) : ownedBy bl A k ↔ v.ownBlock = some k := by
  unfold ownedBy
  rw [hb.cell]
  rcases ho.2 with ⟨rfl, _⟩ | ⟨g, cap, cur, rfl, _⟩
  · constructor
    · rintro ⟨x, n, c, e, _⟩
      cases e
    · intro e
      cases e
  · constructor
    · rintro ⟨x, n, c, e, hx⟩
      cases e
      rw [← hx]
      rfl
    · intro e
      exact ⟨⟨g, 0, none⟩, n, cap, rfl, Option.some.inj e⟩
theorem OrdI.it {w : World} {bl : Nat} {pre : List Int} {A B : World} (h : OrdI w bl pre A) (k : ItS w.heap.size bl A B) : OrdI w bl pre B := by
  obtain ⟨v, hb, ho, hB⟩ := h
  refine ⟨v, k.same _ _ hb (.inr (.inl rfl)), ownsRow_keep ho (fun g hg hv => ?_), hB.trans k.below⟩
  obtain ⟨o, ho2⟩ : ∃ o, A.heap[g]? = some o := ⟨_, Array.getElem?_eq_getElem hg⟩
  exact (k.same g o ho2 (.inr (.inr ((owned_iff hb ho).2 hv)))).trans ho2.symm
theorem OrdI.put {w : World} {bl l : Nat} {pre : List Int} {A : World} {o : Obj} (h : OrdI w bl pre A) (hl : w.heap.size ≤ l) (ho : A.heap[l]? = some o) (hc : o.isCells = false) (o' : Obj) : OrdI w bl pre (A.putObj l o') := by
  obtain ⟨v, hb, hr, hB⟩ := h
  have hne : ∀ (g : Nat) (ob : Obj), A.heap[g]? = some ob → ob.isCells = true → (A.putObj l o').heap[g]? = A.heap[g]? := fun g ob hg hi => World.putObj_heap_other (fun e => by
    subst e
    rw [hg] at ho
    injection ho with ho
    subst ho
    rw [hc] at hi
    cases hi)
  refine ⟨v, (hne bl _ hb rfl).trans hb, ownsRow_keep hr (fun g hg hv => ?_), hB.trans ⟨rfl, rfl, rfl, by simp [World.putObj], fun j hj => World.putObj_heap_other (by omega)⟩⟩
  rcases hr.2 with ⟨rfl, _⟩ | ⟨g', cap, cur, rfl, _, h2, _⟩
  · cases hv
  · have e : g' = g := Option.some.inj hv
    subst e
    exact hne g' _ h2 rfl
theorem kp_append {A w5 : World} {n0 bl n m : Nat} {v v' : Value} {xs ys : List Value} {tmp : Obj} (hv : Boxed A bl 29 v) (hrow : A.ownsRow n0 3 1 v n xs) (hgrow : (A.alloc tmp).grownBy w5 v.ownBlock) (hat : v'.ownBlock = v.ownBlock ∨ v'.ownBlock = some (A.alloc tmp).heap.size) (hb2 : Below n0 A (w5.setCell ⟨bl, 0, none⟩ v')) (hv2 : Boxed (w5.setCell ⟨bl, 0, none⟩ v') bl 29 v') (hr2 : (w5.setCell ⟨bl, 0, none⟩ v').ownsRow n0 3 1 v' m ys) : KpS n0 bl A (w5.setCell ⟨bl, 0, none⟩ v') := by
  refine ⟨hb2, fun k o hk _ hne hno => ?_, fun _ k hk => ?_⟩
  · have hl := (Array.getElem?_eq_some_iff.1 hk).1
    rw [Below.heap_setCell w5 ⟨bl, 0, none⟩ v' k hne, hgrow.block k (by simp; omega) (fun e => hno ((owned_iff hv hrow).2 e.symm)), Below.heap_alloc A tmp k hl]
    exact hk
  · have h1 := (owned_iff hv2 hr2).1 hk
    refine ⟨?_, (hr2.lt k h1).2⟩
    rcases hat with e | e
    · exact .inl ((owned_iff hv hrow).2 (by rw [← e]; exact h1))
    · rw [e] at h1
      have h1 : (A.alloc tmp).heap.size = k := Option.some.inj h1
      rw [World.size_alloc] at h1
      exact .inr (by omega)
theorem kp_put {A : World} {n0 bl l : Nat} {o : Obj} (hn : n0 ≤ l) (hb : bl ≠ l) (ho : A.heap[l]? = some o) (hc : o.isCells = false) (o' : Obj) : KpB n0 bl A (A.putObj l o') := fun hlow => by
  have hcell : ∀ k, ownedBy bl (A.putObj l o') k ↔ ownedBy bl A k := fun k => by
    unfold ownedBy
    rw [World.cell?_of_block (a := ⟨bl, 0, none⟩) (World.putObj_heap_other (w := A) (o := o') hb)]
  have hsz : (A.putObj l o').heap.size = A.heap.size := by simp [World.putObj]
  refine ⟨⟨rfl, rfl, rfl, by rw [hsz]; exact Nat.le_refl _, fun j hj => World.putObj_heap_other (by omega)⟩, fun k ob hk hi _ _ => ?_, fun _ k hk => ?_⟩
  · refine (World.putObj_heap_other (fun e => ?_)).trans hk
    subst e
    rw [hk] at ho
    injection ho with ho
    subst ho
    rw [hc] at hi
    cases hi
  · have := (hcell k).1 hk
    rw [hsz]
    exact ⟨.inl this, hlow k this⟩
theorem order_end {w A : World} {bl D : Nat} {xs : List Int} {v : Value} {ts : Array Value} (hb : Boxed A bl 29 v) (ho : A.ownsRow w.heap.size 3 1 v xs.length (intsV xs)) (hB : Below w.heap.size w A) (hK : A.heap[D]? = some (.deferred (some []))) (hD : w.heap.size ≤ D) (h2 : ts[2]?.getD undef = v) :
    bodyPostM Fence.wide 9 Tryz.prog Tryz.f12 (fun x w' => ∃ v, x = .returned v ∧ w'.ownsRow w.heap.size 3 1 v xs.length (intsV xs) ∧ Below w.heap.size w w') .ret { tmps := ts, defers := [{ target := .collected D, args := #[] }] } A := by
  refine ⟨by simp, .inl ⟨_, _, rfl, run_takeDeferred hK, ?_⟩⟩
  have hI : OrdI w bl xs (A.putObj D (.deferred none)) := OrdI.put ⟨v, hb, ho, hB⟩ hD hK rfl _
  have hne : bl ≠ D := fun e => by
    have h7 : A.heap[bl]? = _ := hb
    rw [e, hK] at h7
    cases h7
  have hb' : Boxed (A.putObj D (.deferred none)) bl 29 v := (World.putObj_heap_other hne).trans hb
  obtain ⟨v', hb2, ho2, hB2⟩ := hI
  have e : v' = v := by
    have h1 := hb2.cell
    rw [hb'.cell] at h1
    exact (Option.some.inj h1).symm
  subst e
  generalize A.putObj D (.deferred none) = Y at *
  refine ⟨v', ?_, v', rfl, ho2, hB2⟩
  simp [results, Tryz.results12, go_sem, h2]
theorem tree_ptr {w : World} {dp : Value} {m : M} {nx : Int} (h : Tree w dp m nx) : ∃ b pa, dp = .pointer (some ⟨b, 0, none⟩) ∧ w.heap[b]? = some (.cells #[.pointer pa, .int .i64 nx] 74 (0, 0)) ∧ TrM w (.pointer pa) m := by
  obtain ⟨⟨b, tp, e, hb, hT⟩, _⟩ := h
  have hT2 := hT
  obtain ⟨t, hA, _⟩ := hT2
  rcases hA.lies with ⟨e1, _⟩ | ⟨b1, e1, _⟩
  · exact ⟨b, none, e, by rw [← e1]; exact hb, by rw [← e1]; exact hT⟩
  · exact ⟨b, some ⟨b1, 0, none⟩, e, by rw [← e1]; exact hb, by rw [← e1]; exact hT⟩
set_option maxHeartbeats 1000000 in
theorem order_any {w : World} {dp : Value} {m : M} {nx : Int} (h : Tree w dp m nx) {k : Nat} (hc : Cnt m k) (hk : k ≤ 100000) (hlen : (preO m 1).length ≤ 100000) : Calls Tryz.prog 12 #[dp] w fun x w' => ∃ v, x = .returned v ∧ w'.ownsRow w.heap.size 3 1 v (preO m 1).length (intsV (preO m 1)) ∧ Below w.heap.size w w' := by
  have hln := dom_len h.1 hc
  obtain ⟨d, I⟩ := h.2
  obtain ⟨b, pa, rfl, hb, hT⟩ := tree_ptr h
  obtain ⟨i3, z3, hi0, hz0, hz1, hz2, rfl⟩ := info3r
  obtain ⟨w1, hm1, hm2, hm3⟩ := run_makeSlice_owned (P := Tryz.prog) (w := w) w.heap.size 29 3 i3 (.int .i64 0) 1 Tryz.underlying29 hi0 hz0 hz1 .i64 .i64 k (by omega) (by rw [hz2]; omega) (by unfold maxLen; omega) (Nat.le_refl _)
  have hB1 : Below w.heap.size w w1 := (Below.refl _ w).grown hm3 (Nat.le_refl _) (fun j e => by cases e)
  have hbl : b < w.heap.size := (Array.getElem?_eq_some_iff.1 hb).1
  obtain ⟨w2, hw2⟩ : ∃ w2, w2 = w1.alloc (.cells #[.slice (some ⟨w.heap.size, 0, none⟩) 0 k] 29) := ⟨_, rfl⟩
  have hB12 : Below w1.heap.size w1 w2 := by rw [hw2]; exact (Below.refl _ _).alloc (Nat.le_refl _) _
  have hB2 : Below w.heap.size w w2 := hB1.trans (hB12.mono hB1.size)
  have hbx : Boxed w2 w1.heap.size 29 (.slice (some ⟨w.heap.size, 0, none⟩) 0 k) := by rw [hw2]; exact heap_alloc_last w1 _
  have hun := wunder_any (id := 1) ((hB2.block _ hbl).trans hb)
  have hI1 := ownsRow_below hm2 hB12
  refine (callsIn_wide (n := 9)).1 ?_
  refine callsIn_of_wp_marks Tryz.func12 rfl trivial ?_ rfl
  refine wpIn_wide.2 ?_
  simp only [Tryz.ntmps12, List.size_toArray, List.length_cons, List.length_nil, Nat.reduceAdd, Nat.reduceSub, Array.replicate_succ, Array.replicate_zero, List.push_toArray, List.append_toArray, List.nil_append, List.cons_append]
  have HW2 := hid_mk hw2
  have HBX := hid_mk hbx
  have HI1 := hid_mk hI1
  have HB2 := hid_mk hB2
  have HB1 := hid_mk hB1
  have HT := hid_mk hT
  have HI := hid_mk I
  have HM2 := hid_mk hm2
  clear h hb hT I hm2 hm3 hB1 hB12 hB2 hbx hI1 hw2 hc
  go_upto_region 2 with (go_at_call 25; refine hln.mono ?_; clear hln; rintro e wx ⟨rfl, rfl⟩)
  rw [← HW2.out]
  go_wp2_with (go_at_call 36; refine hun.mono ?_; clear hun; rintro e w3 ⟨rfl, rfl⟩)
  obtain ⟨w4, hw4⟩ : ∃ w4, w4 = (w2.alloc (.cells #[.int .i64 1] 3)).alloc (.cells #[.pointer pa, .int .i64 nx] 74) := ⟨_, rfl⟩
  have hs1 : (w2.alloc (.cells #[.int .i64 1] 3)).heap.size = w2.heap.size + 1 := by simp
  have hs4 : w4.heap.size = w2.heap.size + 2 := by rw [hw4]; simp
  have hB24 : Below w2.heap.size w2 w4 := by rw [hw4]; exact ((Below.refl _ _).alloc (Nat.le_refl _) _).alloc (by rw [hs1]; omega) _
  have hb1 : w4.heap[w2.heap.size]? = some (.cells #[.int .i64 1] 3 (0, 0)) := by
    rw [hw4, Below.heap_alloc _ _ _ (by rw [hs1]; omega)]
    exact heap_alloc_last w2 _
  have hb2 : w4.heap[w2.heap.size + 1]? = some (.cells #[.pointer pa, .int .i64 nx] 74 (0, 0)) := by
    rw [hw4, ← hs1]
    exact heap_alloc_last _ _
  have hl1 : w1.heap.size < w2.heap.size := HBX.out.lt
  have hl0 : wx.heap.size < w1.heap.size := by
    rcases HM2.out.2 with ⟨e, _⟩ | ⟨g, cap, cur, e, _, h2, _⟩
    · cases e
    · cases e
      exact (Array.getElem?_eq_some_iff.1 h2).1
  have HI4 : Hid (OrdI wx w1.heap.size [] w4) := ⟨_, (hB24.block _ hl1).trans HBX.out, ownsRow_below HI1.out hB24, HB2.out.trans (hB24.mono HB2.out.size)⟩
  have HB24 := hid_mk hB24
  rw [← hw4]
  clear hw4 hs1 hB24
  refine (wpIn_wide (n := 9)).1 ?_
  have HUW : Hid (∀ A, Below w4.heap.size w4 A → Uw wx w1.heap.size (w2.heap.size + 1) (.pointer pa) nx A) := fun A hA => by
    obtain ⟨v, hb, ho, hB⟩ := HI4.out
    have hb' : Boxed A w1.heap.size 29 v := (hA.block _ hb.lt).trans hb
    have ho' := ownsRow_below ho hA
    refine ⟨⟨by omega, hb'.lt, fun j hj => ?_⟩, hB.trans (hA.mono hB.size), (hA.block _ (Array.getElem?_eq_some_iff.1 hb2).1).trans hb2, ⟨by omega, fun hj => ?_⟩⟩
    · exact ho'.lt j ((owned_iff hb' ho').1 hj)
    · have hv := (owned_iff hb' ho').1 hj
      rcases ho'.2 with ⟨e, _⟩ | ⟨g, cap, cur, e, _, h2, _⟩
      · rw [e] at hv
        cases hv
      · rw [e] at hv
        have hg : g = w2.heap.size + 1 := Option.some.inj hv
        rw [hg, (hA.block _ (Array.getElem?_eq_some_iff.1 hb2).1).trans hb2] at h2
        injection h2 with h2
        injection h2 with _ h2
        cases h2
  have hAl : ∀ o, Below w4.heap.size w4 ((w4.alloc (.deferred (some []))).alloc o) := fun o => ((Below.refl _ _).alloc (Nat.le_refl _) _).alloc (by simp) _
  refine range_told (P := Tryz.prog) (gf := 71) (lb := #[.pointer (some ⟨w2.heap.size, 0, none⟩), .pointer (some ⟨w2.heap.size + 1, 0, none⟩)]) rfl (enters_of Tryz.func71 (by kernel_rfl) rfl)
    (fun o => under_told HT.out HI.out (HUW.out _ (hAl o)) (((hAl o).block _ (Array.getElem?_eq_some_iff.1 hb1).1).trans hb1) hlen)
    (fun A B C h k => h.trans k) (fun A l o o' hl ho hc => ?kput) (fun A B h k o hk ho => h.same k o hk (.inl ho))
    (OrdI wx w1.heap.size) (fun _ _ _ => False) (fun xs A B h k => h.it k) (fun c xs A B h _ => h) (fun xs A l o o' h hl ho hc => h.put (by omega) ho hc o') (fun c xs A l o o' h _ _ _ => h)
    (fun o => ?start)
    (fun x => { tmps := #[.pointer (some ⟨b, 0, none⟩), undef, .slice none 0 0, .pointer (some ⟨w1.heap.size, 0, none⟩), .int .i64 x, .pointer (some ⟨b, 0, none⟩), .int .i64 (k : Int), .slice (some ⟨wx.heap.size, 0, none⟩) 0 k, .pointer (some ⟨b, 0, none⟩), .func (.func 71) #[] #[.pointer (some ⟨w2.heap.size, 0, none⟩), .pointer (some ⟨w2.heap.size + 1, 0, none⟩)], .int .i64 x, undef, undef, undef, undef, undef], defers := [] })
    ?assign ?body ?done ?stop
  case kput => exact kp_put (by omega) (by omega) ho hc o'
  case start =>
    obtain ⟨v, hb, ho, hB⟩ := HI4.out
    exact ⟨v, ((hAl o).block _ hb.lt).trans hb, ownsRow_below ho (hAl o), hB.trans ((hAl o).mono hB.size)⟩
  case assign =>
    intro kk l x A K hK
    gi_wp2
    exact hK
  case body =>
    rintro kk l pre x A ⟨v, hv, hrow, hB⟩ hlt
    have hvc := hv.cell
    have hpl : pre.length ≤ 100000 := by omega
    have hle : wx.heap.size ≤ w1.heap.size := by omega
    gi_wp2_with (gi_at_builtin; go_must (refine wpListIn_append_own_at _ rfl _ _ 29 rfl wx.heap.size 3 i3 (.int .i64 0) 1 8 Tryz.underlying29 hi0 hz0 hz1 hz2 rfl (by decide) _ _ _ rfl (hrow.alloc _) ⟨A.heap.size, 0, none⟩ 1 1 [.int .i64 x] rfl rfl (cell_one_new _ _ _) (by simp [Value.oneCell']) (by unfold maxLen; omega) (by omega) (by have := hB.size; simp; omega) ?_); intro v' w5 hown' hgrow _ hat; obtain ⟨g', cap', rfl⟩ := ownsRow_succ hown'; obtain ⟨hv1, hv2, hr2, hk2, hb2'⟩ := hv.appended (by decide) hrow hB.size hle hown' hgrow; have hc1 := hv1.cell; have hf1 := hv1.frozen)
    refine ⟨hk2, fun _ => kp_append hv hrow hgrow hat hb2' hv2 hr2, _, hv2, ?_, hB.trans hb2'⟩
    rw [List.length_append, intsV_app]
    exact hr2
  case done =>
    rintro D xs A rfl rfl ⟨v, hv, hrow, hB⟩ hK
    have hvc := hv.cell
    have HV := hid_mk hv
    have HR := hid_mk hrow
    have HB := hid_mk hB
    have HK := hid_mk hK
    clear hv hrow hB hK
    go_wp2
    exact order_end HV.out HR.out HB.out HK.out (by omega) rfl
  case stop =>
    rintro D c pre A _ _ h _
    exact h.elim

end Go.Proofs.YtoncgmnccgegmaaGreat.N
