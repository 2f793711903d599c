/- Used. -/
import Derived.Test.YtdgbebgjenfmbaaMOd
namespace Go.Proofs.Ytdgbebgjenfmbaa.M
open Go.RowKit Go.Shelf
set_option maxRecDepth 100000

/-- How many cells are not empty. -/
def usedN (L : List (Option En)) : Nat := (L.filter Option.isSome).length
theorem used_step {L : List (Option En)} {i : Nat} {o : Option En} (h : L[i]? = some o) : usedN (L.take (i + 1)) = usedN (L.take i) + (if o.isSome then 1 else 0) := by
  unfold usedN
  rw [List.take_add_one, h, Option.toList_some, List.filter_append, List.length_append]
  cases o <;> simp
theorem used_le (L : List (Option En)) : usedN L ≤ L.length := List.length_filter_le _ _
theorem used_end {A : World} {D : Nat} {q : Int} {ts : Array Value} {R : Ending → World → Prop} (hK : A.heap[D]? = some (.deferred (some []))) (h2 : ts[2]?.getD undef = .int .i64 q)
    (hR : R (.returned (.int .i64 q)) (A.putObj D (.deferred none))) :
    bodyPostM Fence.wide 9 Try.prog Try.f24 R .ret { tmps := ts, defers := [{ target := .collected D, args := #[] }] } A := by
  refine ⟨by simp, .inl ⟨_, _, rfl, run_takeDeferred hK, ?_⟩⟩
  generalize A.putObj D (.deferred none) = Y at *
  refine ⟨_, ?_, hR⟩
  simp [results, Try.results24, go_sem, h2]
/-- What a round of Used keeps. -/
def UsI (P : Nat → Prop) (w : World) (c : Nat) (L : List (Option En)) (i : Nat) (A : World) : Prop := Below w.heap.size w A ∧ w.heap.size + 3 ≤ A.heap.size ∧ A.heap[w.heap.size]? = some (.cells #[.int .i64 (usedN (L.take i) : Int)] 3 (0, 0)) ∧ (0 < L.length → Ring P A c L)
attribute [local go_sem] Oper.semAt_some
set_option maxHeartbeats 4000000 in
theorem used_any {P : Nat → Prop} {w : World} {p a : Option Addr} {c : Nat} {L : List (Option En)} (h : Src P w p a c L) : Calls Try.prog 24 #[.pointer p] w fun q w' => q = .returned (.int .i64 (usedN L : Int)) ∧ Below w.heap.size w w' := by
  obtain ⟨w1, hw1⟩ : ∃ w1, w1 = w.alloc (.cells #[.int .i64 0] 3) := ⟨_, rfl⟩
  have hs1 : w1.heap.size = w.heap.size + 1 := by rw [hw1]; simp
  have hb1 : Below w.heap.size w w1 := by rw [hw1]; exact (Below.refl _ w).alloc (Nat.le_refl _) _
  have y0 : w1.heap[w.heap.size]? = some (.cells #[.int .i64 0] 3) := by rw [hw1]; exact heap_alloc_last w _
  obtain ⟨w3, hw3⟩ : ∃ w3, w3 = (w1.alloc (.cells #[.slice a L.length L.length] 71)).alloc (.cells #[.int .i64 0] 3) := ⟨_, rfl⟩
  have hs3 : w3.heap.size = w.heap.size + 3 := by rw [hw3]; simp [hs1]
  have hb3 : Below w1.heap.size w1 w3 := by rw [hw3]; exact ((Below.refl _ w1).alloc (Nat.le_refl _) _).alloc (by simp) _
  have hVr : Vars w3 a (w1.heap.size) (w1.heap.size + 1) c L.length 0 := by
    rw [hw3]
    exact ⟨(at2 w1 _ _).1, h.row, (at2 w1 _ _).2⟩
  have hc := h.cells w1 hb1
  have har := around_any (w := w1) (a := a) (n := L.length) 0
  rw [← hw3] at har
  have hsm := h.small
  have HB : Hid (Below w.heap.size w w3) := hb1.trans (hb3.mono hb1.size)
  have HI0 : Hid (∀ A, Below w3.heap.size w3 A → UsI P w c L 0 A) := fun A hA => by
    have hb : Below w.heap.size w A := HB.out.trans (hA.mono HB.out.size)
    have := hA.size
    exact ⟨hb, by omega, (hA.block _ (by omega)).trans ((hb3.block _ (by omega)).trans y0), fun h0 => (h.ring h0).keep (Kb.of_below hb) (hb.block c (h.ring h0).lt)⟩
  have HW1 := hid_mk hw1
  have HV := hid_mk hVr
  rw [hs1] at har HV
  clear hw1 hw3 hb1 hb3 h y0 hVr
  obtain ⟨n, hn⟩ : ∃ n, n = L.length := ⟨_, rfl⟩
  rw [← hn] at hc har HV hsm
  have HN := hid_mk hn
  obtain ⟨U, hU⟩ : ∃ U, U = usedN L := ⟨_, rfl⟩
  have HU := hid_mk hU
  rw [← hU]
  clear hn hU
  refine (callsIn_wide (n := 9)).1 ?_
  refine callsIn_of_wp_marks Try.func24 rfl trivial ?_ rfl
  refine wpIn_wide.2 ?_
  simp only [Try.ntmps24, List.size_toArray, List.length_cons, List.length_nil, Nat.reduceAdd, Nat.reduceSub, Array.replicate_succ, Array.replicate_zero, List.push_toArray, List.append_toArray, List.nil_append, List.cons_append]
  go_wp2_with (first
    | (go_at_call 31; rw [← HW1.out]; refine hc.mono ?_; rintro e w' ⟨rfl, hw⟩; rw [hw]; clear hw w')
    | (go_at_call 32; refine har.mono ?_; rintro e w' ⟨rfl, hw⟩; rw [hw]; clear hw w'))
  refine (wpIn_wide (n := 9)).1 ?_
  have hAl : ∀ o, Below w3.heap.size w3 ((w3.alloc (.deferred (some []))).alloc o) := fun o => ((Below.refl _ _).alloc (Nat.le_refl _) _).alloc (by simp) _
  clear hc har
  refine range_ring (gf := 41) (lb := #[.pointer (some ⟨w.heap.size + 1, 0, none⟩), .pointer (some ⟨w.heap.size + 1 + 1, 0, none⟩)]) rfl (enters_of Try.func41 (by kernel_rfl) rfl)
    (fun o => around_told (HV.out.below (hAl o)) hsm (by omega))
    (fun A A' A'' h k => h.trans k) (fun A l o o' hl ho hc => ⟨by simp [World.putObj], World.putObj_heap_other (by omega), World.putObj_heap_other (by omega)⟩)
    (UsI P w c L) (fun _ _ => False)
    ?gI (fun c A B h _ => h) ?gIp (fun c A l o o' h _ _ _ => h)
    (fun o => HI0.out _ (hAl o))
    (fun i => { tmps := #[.pointer p, undef, .int .i64 0, .pointer (some ⟨w.heap.size, 0, none⟩), .pointer (some ⟨c, (0 + i) % n, none⟩), .pointer p, .slice a n n, .func (.func 41) #[] #[.pointer (some ⟨w.heap.size + 1, 0, none⟩), .pointer (some ⟨w.heap.size + 1 + 1, 0, none⟩)], .pointer (some ⟨c, (0 + i) % n, none⟩), undef, undef, undef, undef, undef, undef, undef, undef], defers := [] })
    ?assign ?body ?done ?stop
  case gI =>
    rintro i A B ⟨h1, h2, h3, h4⟩ k
    have := k.size
    exact ⟨h1.trans (k.mono h1.size), by omega, (k.block _ (by omega)).trans h3, fun h0 => (h4 h0).keep (Kb.of_below k) (k.block c (h4 h0).lt)⟩
  case gIp =>
    rintro i A l o o' ⟨h1, h2, h3, h4⟩ hl ho hc
    exact ⟨below_putO h1 (by omega) o', by simpa [World.putObj] using h2, cell_putO h3 ho hc o', fun h0 => (h4 h0).putO ho hc o'⟩
  case assign =>
    intro kk l i A K hK
    simp only [Nat.zero_add] at hK
    gi_wp2
    exact hK
  case body =>
    rintro kk l i A ⟨h1, h2, h3, h4⟩ hi
    have hil : i < L.length := by rw [← HN.out]; exact hi
    obtain ⟨o, ho⟩ : ∃ o, L[i]? = some o := ⟨_, List.getElem?_eq_getElem hil⟩
    have hR := h4 (by omega)
    obtain ⟨v, hv, hV, _⟩ := hR.cell ho
    have hld := loadE_any hv hV
    have hmd : (0 + i) % n = i := by rw [Nat.zero_add]; exact Nat.mod_eq_of_lt hi
    rw [hmd]
    obtain ⟨q0, f0⟩ := box_cell h3
    have HK : Hid (UsI P w c L i A) := ⟨h1, h2, h3, h4⟩
    have HS := hid_mk (used_step ho)
    have hun : usedN (L.take i) ≤ 65536 := by
      have := used_le (L.take i)
      rw [List.length_take] at this
      omega
    cases o with
    | none =>
      have hV : v = .pointer none := hV
      subst hV
      have HX : Hid (KeepsUp w3.heap.size A A ∧ KpP (w.heap.size + 1) (w.heap.size + 1 + 1) A A ∧ UsI P w c L (i + 1) A) := by
        refine ⟨⟨Nat.le_refl _, fun k o _ h _ => h⟩, ⟨Nat.le_refl _, rfl, rfl⟩, h1, h2, ?_, h4⟩
        rw [HS.out]
        exact h3
      clear hmd ho hv hR h1 h2 h3 h4 HS HK hil
      gi_wp2_with (refine ⟨trivial, (fun h => by cases h), ?_⟩; gi_at_call 35; refine ((callsIn_wide.2 hld).inRound _).mono ?_; rintro e w' ⟨rfl, hw⟩; rw [hw]; clear hw w')
      exact HX.out
    | some x =>
      obtain ⟨g, rfl, hE⟩ := hV
      have HX : Hid (KeepsUp w3.heap.size A (A.setCell ⟨w.heap.size, 0, none⟩ (.int .i64 (((usedN (L.take i) + 1 : Nat)) : Int))) ∧ KpP (w.heap.size + 1) (w.heap.size + 1 + 1) A (A.setCell ⟨w.heap.size, 0, none⟩ (.int .i64 (((usedN (L.take i) + 1 : Nat)) : Int))) ∧ UsI P w c L (i + 1) (A.setCell ⟨w.heap.size, 0, none⟩ (.int .i64 (((usedN (L.take i) + 1 : Nat)) : Int)))) := by
        refine ⟨⟨by simp [World.setCell], fun k o hk h _ => (set_ne (by omega)).trans h⟩, ⟨by simp [World.setCell], set_ne (by omega), set_ne (by omega)⟩, h1.setCell (p := ⟨w.heap.size, 0, none⟩) (Nat.le_refl _) _, by simpa [World.setCell] using h2, ?_, fun h0 => (h4 h0).setB (Odd.count h3) _⟩
        rw [HS.out]
        exact set_box h3
      clear hmd ho hv hR h1 h2 h3 h4 HS HK hil hE
      generalize usedN (L.take i) = u at *
      have hadd : IntKind.i64.wrap ((u : Int) + 1) = ((u + 1 : Nat) : Int) := by rw [IntKind.wrap_i64]; omega
      gi_wp2_with (refine ⟨trivial, (fun h => by cases h), ?_⟩; gi_at_call 35; refine ((callsIn_wide.2 hld).inRound _).mono ?_; rintro e w' ⟨rfl, hw⟩; rw [hw]; clear hw w')
      exact HX.out
  case done =>
    rintro D A rfl ⟨h1, h2, h3, h4⟩ hK
    rw [HN.out, List.take_length, ← HU.out] at h3
    obtain ⟨q0, f0⟩ := box_cell h3
    have HR : Hid (Below w.heap.size w (A.putObj w3.heap.size (.deferred none))) := below_putO h1 (by omega) _
    have HK := hid_mk hK
    clear h1 h2 h3 h4 hK
    go_wp2
    exact used_end HK.out rfl ⟨rfl, HR.out⟩
  case stop =>
    rintro D c' A rfl h _
    exact h.elim
end Go.Proofs.Ytdgbebgjenfmbaa.M
