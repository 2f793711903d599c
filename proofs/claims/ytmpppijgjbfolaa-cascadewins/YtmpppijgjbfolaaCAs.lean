/- slices.AppendSeq and slices.Collect of the pile. -/
import Derived.Test.YtmpppijgjbfolaaCCo
namespace Go.Proofs.Ytmpppijgjbfolaa.C
open Go.RowKit Go.Shelf
set_option maxRecDepth 100000
attribute [local go_sem] Oper.semAt_some

theorem own_mono {w : World} {B B' : Nat} {e : TypeId} {s : Nat} {v : Value} {n : Nat} {xs : List Value} (h : w.ownsRow B e s v n xs) (hb : B' ≤ B) : w.ownsRow B' e s v n xs := by
  obtain ⟨hl, hc⟩ := h
  refine ⟨hl, ?_⟩
  rcases hc with h | ⟨g, cap, cur, rfl, h1, h2, h3, h4, h5, h6⟩
  · exact .inl h
  · exact .inr ⟨g, cap, cur, rfl, Nat.le_trans hb h1, h2, h3, h4, h5, h6⟩
theorem co_end {w A : World} {n0 S D : Nat} {L : List R9} {xs : List E8} {v : Value} {ts : Array Value} (hI : CoI n0 (S + 1) S w xs A) (hv : A.cell? ⟨S, 0, none⟩ = some v) (hF : Fall L xs) (hK : A.heap[D]? = some (.deferred (some []))) (hD : n0 ≤ D) {B : Nat} (_hB : B < S) (h4 : ts[4]?.getD undef = v) :
    bodyPostM Fence.wide 9 Try.prog Try.f37 (fun e w' => ∃ v es, e = .returned v ∧ w'.ownsRow S 26 8 v es.length (es.flatMap c8) ∧ Fall L es ∧ Below n0 w w') .ret { tmps := ts, defers := [{ target := .collected D, args := #[] }] } A := by
  refine ⟨by simp, .inl ⟨_, _, rfl, run_takeDeferred hK, ?_⟩⟩
  have hI2 : CoI n0 (S + 1) S w xs (A.putObj D (.deferred none)) := hI.putO hD hK rfl _
  have hv2 : (A.putObj D (.deferred none)).cell? ⟨S, 0, none⟩ = some v := by
    have hne : S ≠ D := fun e => by
      obtain ⟨u, h1, _⟩ := hI
      rw [e, hK] at h1
      cases h1
    exact (World.cell?_of_block (a := ⟨S, 0, none⟩) (World.putObj_heap_other hne)).trans hv
  generalize A.putObj D (.deferred none) = Y at *
  obtain ⟨u, h1, h2, h3, _, h5⟩ := hI2
  have e : u = v := by
    have h6 : Y.cell? ⟨S, 0, none⟩ = some u := by simp [World.cell?, h1]
    rw [h6] at hv2
    exact Option.some.inj hv2
  subst e
  refine ⟨u, ?_, u, xs, rfl, own_mono h2 (Nat.le_succ S), hF, h5⟩
  simp [results, Try.results37, go_sem, h4]
set_option maxHeartbeats 4000000 in
theorem collect_any {w : World} {n0 B g : Nat} {L : List R9} (hP : PE w n0 B g L) (hH : HeapL bt L.length L) (hL : L.length ≤ 900000) (hg : n0 ≤ g ∧ g < w.heap.size) (hB : n0 ≤ B ∧ B < w.heap.size) : Calls Try.prog 37 #[.slice none 0 0, .func (.func 29) #[.pointer (some ⟨B, 0, none⟩)] #[]] w fun e w' => ∃ v es, e = .returned v ∧ w'.ownsRow w.heap.size 26 8 v es.length (es.flatMap c8) ∧ Fall L es ∧ Below n0 w w' := by
  obtain ⟨i0, hi0, hz0, hz1, hz2⟩ := info_parts Try.info26s
  obtain ⟨w1, hw1⟩ : ∃ w1, w1 = w.alloc (.cells #[.slice none 0 0] 22) := ⟨_, rfl⟩
  have hb1 : Below w.heap.size w w1 := by rw [hw1]; exact (Below.refl _ _).alloc (Nat.le_refl _) _
  have hx1 : w1.heap[w.heap.size]? = some (.cells #[.slice none 0 0] 22 (0, 0)) := by rw [hw1]; exact heap_alloc_last w _
  have hs1 : w1.heap.size = w.heap.size + 1 := by rw [hw1]; simp
  have HC1 : Hid (∀ A, Below w1.heap.size w1 A → CoI n0 (w.heap.size + 1) w.heap.size w [] A) := fun A hA => ⟨_, (hA.block _ (by omega)).trans hx1, own_nil _ _ _ _, by omega, by have := hA.size; omega, (hb1.trans (hA.mono hb1.size)).mono (by omega)⟩
  have HPE : Hid (∀ A, Below w1.heap.size w1 A → PE A n0 B g L) := fun A hA => by
    have hb : Below w.heap.size w A := hb1.trans (hA.mono hb1.size)
    exact hP.kp ⟨hb.size, hb.block _ hB.2, hb.block _ hg.2⟩
  have HH := hid_mk hH
  have HW1 := hid_mk hw1
  have hgw : g < w1.heap.size := by omega
  have hBw : B < w1.heap.size := by omega
  clear hP hH hb1 hx1
  refine (callsIn_wide (n := 9)).1 ?_
  refine callsIn_of_wp_marks Try.func37 rfl trivial ?_ rfl
  refine wpIn_wide.2 ?_
  simp only [Try.ntmps37, List.size_toArray, List.length_cons, List.length_nil, Nat.reduceAdd, Nat.reduceSub, Array.replicate_succ, Array.replicate_zero, List.push_toArray, List.append_toArray, List.nil_append, List.cons_append]
  go_wp2
  rw [← HW1.out]
  refine (wpIn_wide (n := 9)).1 ?_
  have hAl : ∀ o, Below w1.heap.size w1 ((w1.alloc (.deferred (some []))).alloc o) := fun o => ((Below.refl _ _).alloc (Nat.le_refl _) _).alloc (by simp) _
  refine range_told (P := Try.prog) (gf := 29) (fa := #[.pointer (some ⟨B, 0, none⟩)]) (lb := #[]) rfl (enters_of Try.func29 (by kernel_rfl) rfl)
    (fun o => each_told (HPE.out _ (hAl o)) HH.out hL)
    (fun A A' A'' h k => ⟨Nat.le_trans h.1 k.1, k.2.1.trans h.2.1, k.2.2.trans h.2.2⟩) (fun A l o o' hl ho hc => ⟨by simp [World.putObj], World.putObj_heap_other (by omega), World.putObj_heap_other (by omega)⟩) (fun A A' h k o hk ho => h.2.same k o hk ho)
    (CoI n0 (w.heap.size + 1) w.heap.size w) (fun _ _ _ => False) (fun xs A A' h k => h.it k hB hg) (fun c xs A A' h _ => h) (fun xs A l o o' h hl ho hc => h.putO (by omega) ho hc o') (fun c xs A l o o' h _ _ _ => h)
    (fun A o => ⟨Kx.of_below ((Below.refl _ _).alloc (Nat.le_refl _) _), KeepsOthers.alloc A o⟩) (fun A o hs => ⟨by simp, Below.heap_alloc A o B (by omega), Below.heap_alloc A o g (by omega)⟩)
    (fun o => HC1.out _ (hAl o))
    (fun x q => { tmps := #[.slice none 0 0, .func (.func 29) #[.pointer (some ⟨B, 0, none⟩)] #[], .pointer (some ⟨w.heap.size, 0, none⟩), undef, .slice none 0 0, .pointer (some ⟨q, 0, none⟩), .func (.func 29) #[.pointer (some ⟨B, 0, none⟩)] #[], x.val, undef, undef, undef, undef, undef], defers := [] })
    ?assign ?body ?done ?stop
  case assign =>
    intro kk l x A K hK
    unfold E8.val at *
    gi_wp2
    exact hK
  case body =>
    rintro kk l pre x q A ⟨v, h1, h2, h3, h4, h5⟩ hbx hlt
    obtain ⟨c0, c1, c2, c3, c4, c5, c6, c7⟩ := hbx.cells
    have hS := (Array.getElem?_eq_some_iff.1 h1).1
    have d0 : A.cell? ⟨w.heap.size, 0, none⟩ = some v := by simp [World.cell?, h1]
    obtain ⟨va, vc, rfl⟩ := own_slice h2
    have hpl : pre.length ≤ 900000 := by omega
    have HST : Hid (∀ w5 v' tmp, w5.ownsRow (w.heap.size + 1) 26 8 v' (pre.length + 1) (pre.flatMap c8 ++ c8 x) → (A.alloc tmp).grownBy w5 (Value.slice va pre.length vc).ownBlock → KeepsOthers A (w5.setCell ⟨w.heap.size, 0, none⟩ v') ∧ KpP B g A (w5.setCell ⟨w.heap.size, 0, none⟩ v') ∧ CoI n0 (w.heap.size + 1) w.heap.size w (pre ++ [x]) (w5.setCell ⟨w.heap.size, 0, none⟩ v')) := fun w5 v' tmp ha hb => col_step h1 h2 h3 h4 h5 hB hg ha hb
    have HC8 : Hid (c8 x = [.string x.n, .string x.v, .int .i64 x.o, .bool x.im, .int .i64 x.a, .int .i64 x.b, .int .i64 x.c, .int .i64 x.k]) := rfl
    have HS5 : Hid (∀ w5 tmp, (A.alloc tmp).grownBy w5 (Value.slice va pre.length vc).ownBlock → w5.heap[w.heap.size]? = some (.cells #[.slice va pre.length vc] 22 (0, 0))) := fun w5 tmp hgr => by
      rw [hgr.block _ (by simp; omega) (fun e => by have := (h2.lt _ e.symm).1; omega), Below.heap_alloc A tmp _ hS]
      exact h1

    obtain ⟨xn, xv, xo, xi, xa, xb, xc, xk⟩ := x
    unfold E8.val at *
    dsimp only at *
    clear h1 hbx h5
    gi_wp2_with (gi_at_builtin; go_must (refine wpListIn_append_own_at _ rfl _ _ 22 rfl (w.heap.size + 1) 26 i0 _ 8 80 Try.underlying22 hi0 hz0 hz1 hz2 rfl (by decide) _ _ _ rfl (h2.alloc _) ⟨A.heap.size, 0, none⟩ 1 1 [.string xn, .string xv, .int .i64 xo, .bool xi, .int .i64 xa, .int .i64 xb, .int .i64 xc, .int .i64 xk] rfl rfl (World.news_of_block (cs := #[.string xn, .string xv, .int .i64 xo, .bool xi, .int .i64 xa, .int .i64 xb, .int .i64 xc, .int .i64 xk]) (t := 26) (fr := (0, 0)) (heap_alloc_last A _)) (by simp [Value.oneCell']) (by unfold maxLen; omega) (by omega) (by simp; omega) ?_); intro v' w5 hown' hgrow _ hat; have hS5 := HS5.out w5 _ hgrow; have hc1 : w5.cell? ⟨w.heap.size, 0, none⟩ = some (.slice va pre.length vc) := (by simp [World.cell?, hS5]); have hf1 : w5.frozen? ⟨w.heap.size, 0, none⟩ = false := (by simp [World.frozen?, hS5]); have HFIN := hid_mk (HST.out w5 v' _ hown' hgrow); obtain ⟨va', vc', rfl⟩ := own_slice hown'; clear hS5 hown' hgrow hat)
    exact HFIN.out
  case done =>
    rintro D xs A rfl hF ⟨v, h1, h2, h3, h4, h5⟩ hK
    have d0 : A.cell? ⟨w.heap.size, 0, none⟩ = some v := by simp [World.cell?, h1]
    have HI : Hid (CoI n0 (w.heap.size + 1) w.heap.size w xs A) := ⟨v, h1, h2, h3, h4, h5⟩
    obtain ⟨va, vc, rfl⟩ := own_slice h2
    have HK := hid_mk hK
    have HF := hid_mk hF
    clear h1 h2 h3 h4 h5 hK hF
    go_wp2
    exact co_end HI.out d0 HF.out HK.out (by omega) hB.2 rfl
  case stop =>
    rintro D c pre A _ _ h _
    exact h.elim
end Go.Proofs.Ytmpppijgjbfolaa.C
