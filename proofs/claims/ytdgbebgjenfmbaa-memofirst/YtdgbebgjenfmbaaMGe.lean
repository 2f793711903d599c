/- Get. -/
import Derived.Test.YtdgbebgjenfmbaaMPl
namespace Go.Proofs.Ytdgbebgjenfmbaa.M
open Go.RowKit Go.Shelf
set_option maxRecDepth 100000

/-- All lists are short. -/
def Short (L : List (Option En)) : Prop := ∀ (j : Nat) (x : En), L[j]? = some (some x) → x.l.length ≤ 8796093021952
/-- What Get answers. -/
def GetP (w : World) (s : Slot) (q : Ending) (w' : World) : Prop := Below w.heap.size w w' ∧ match s with
  | .here x => ∃ v, q = .returned (.tuple #[v, .bool true]) ∧ StO w.heap.size w' v x.l
  | _ => q = .returned (.tuple #[.slice none 0 0, .bool false])
theorem get_end {A : World} {D b2 b3 : Nat} {v : Value} {q : Bool} {ts : Array Value} {R : Ending → World → Prop} (d2 : A.heap[b2]? = some (.cells #[v] 29 (0, 0))) (d3 : A.heap[b3]? = some (.cells #[.bool q] 4 (0, 0))) (hK : A.heap[D]? = some (.deferred (some []))) (h6 : ts[6]?.getD undef = .pointer (some ⟨b2, 0, none⟩)) (h7 : ts[7]?.getD undef = .pointer (some ⟨b3, 0, none⟩))
    (hR : R (.returned (.tuple #[v, .bool q])) (A.putObj D (.deferred none))) :
    bodyPostM Fence.wide 9 Try.prog Try.f14 R .ret { tmps := ts, defers := [{ target := .collected D, args := #[] }] } A := by
  refine ⟨by simp, .inl ⟨_, _, rfl, run_takeDeferred hK, ?_⟩⟩
  have k2 := (box_cell (cell_putO d2 hK rfl (.deferred none))).1
  have k3 := (box_cell (cell_putO d3 hK rfl (.deferred none))).1
  generalize A.putObj D (.deferred none) = Y at *
  refine ⟨_, ?_, hR⟩
  simp [results, Try.results14, go_sem, h6, h7, k2, k3]
theorem set_box {w : World} {b : Nat} {u v : Value} {t : TypeId} (h : w.heap[b]? = some (.cells #[u] t (0, 0))) : (w.setCell ⟨b, 0, none⟩ v).heap[b]? = some (.cells #[v] t (0, 0)) := by
  simp only [World.setCell, Array.getElem?_modify, h]
  simp
theorem set_ne {w : World} {b q : Nat} {v : Value} (h : b ≠ q) : (w.setCell ⟨q, 0, none⟩ v).heap[b]? = w.heap[b]? := Below.heap_setCell w ⟨q, 0, none⟩ v b h
/-- Two variables are written: a list and a bool. -/
theorem two_set {w : World} {b2 b3 : Nat} {u2 u3 v2 v3 : Value} (d2 : w.heap[b2]? = some (.cells #[u2] 29 (0, 0))) (d3 : w.heap[b3]? = some (.cells #[u3] 4 (0, 0))) (hne : b2 ≠ b3) : ((w.setCell ⟨b2, 0, none⟩ v2).setCell ⟨b3, 0, none⟩ v3).heap[b2]? = some (.cells #[v2] 29 (0, 0)) ∧ ((w.setCell ⟨b2, 0, none⟩ v2).setCell ⟨b3, 0, none⟩ v3).heap[b3]? = some (.cells #[v3] 4 (0, 0)) ∧ (∀ k, k ≠ b2 → k ≠ b3 → ((w.setCell ⟨b2, 0, none⟩ v2).setCell ⟨b3, 0, none⟩ v3).heap[k]? = w.heap[k]?) ∧ ((w.setCell ⟨b2, 0, none⟩ v2).setCell ⟨b3, 0, none⟩ v3).heap.size = w.heap.size :=
  ⟨(set_ne hne).trans (set_box d2), set_box ((set_ne (Ne.symm hne)).trans d3), fun k h1 h2 => (set_ne h2).trans (set_ne h1), by simp [World.setCell]⟩
theorem below_two {n : Nat} {w A : World} (h : Below n w A) {b2 b3 : Nat} (h2 : n ≤ b2) (h3 : n ≤ b3) (v2 v3 : Value) : Below n w ((A.setCell ⟨b2, 0, none⟩ v2).setCell ⟨b3, 0, none⟩ v3) := (h.setCell (p := ⟨b2, 0, none⟩) h2 _).setCell (p := ⟨b3, 0, none⟩) h3 _
theorem field2 (w : World) (xe xd : Int) (pa : Option Addr) (m pc : Nat) : (Instr.field 31 (.agg #[.int .i64 xe, .int .i64 xd, .slice pa m pc]) 2).run Try.prog w = .ok (.slice pa m pc) w := by kernel_rfl
/-- What a round of Get leaves where it ends. -/
def GetX (w6 w : World) (L : List (Option En)) (e d : Int) (c : Code) (A : World) : Prop :=
  (c = .exit 0 ∧ Below w6.heap.size w6 A ∧ ∃ j, find L e d = .free j) ∨
  (c = .ret ∧ Below w.heap.size w A ∧ ∃ x v, find L e d = .here x ∧ A.heap[w.heap.size + 2]? = some (.cells #[v] 29 (0, 0)) ∧ A.heap[w.heap.size + 3]? = some (.cells #[.bool true] 4 (0, 0)) ∧ StO w.heap.size A v x.l)
/-- Where the cells of a table are: of one that no call made there are none. -/
structure Src (P : Nat → Prop) (w : World) (p a : Option Addr) (c : Nat) (L : List (Option En)) : Prop where
  cells : ∀ w', Below w.heap.size w w' → Calls Try.prog 31 #[.pointer p] w' fun e w'' => e = .returned (.slice a L.length L.length) ∧ w'' = w'
  small : L.length ≤ 65536
  row : 0 < L.length → a = some ⟨c, 0, none⟩
  ring : 0 < L.length → Ring P w c L
theorem Src.of {P : Nat → Prop} {w : World} {t r c : Nat} {L : List (Option En)} (h : Tab P w t r c L) : Src P w (some ⟨t, 0, none⟩) (some ⟨c, 0, none⟩) c L :=
  ⟨fun _ hb => cells_any (h.below hb), h.small, fun _ => rfl, fun _ => h.ring⟩
theorem Src.un {P : Nat → Prop} {w : World} {p : Option Addr} (h : p = none ∨ ∃ t, p = some ⟨t, 0, none⟩ ∧ w.cell? ⟨t, 0, none⟩ = some (.pointer none)) : Src P w p none 0 [] :=
  ⟨fun w' hb => by
    rcases h with rfl | ⟨t, rfl, h⟩
    · exact cells_nil
    · exact cells_zero ((hb.cell (p := ⟨t, 0, none⟩) (lt_of_cell h)).trans h), by simp, fun h => absurd h (Nat.lt_irrefl 0), fun h => absurd h (Nat.lt_irrefl 0)⟩
attribute [local go_sem] Oper.semAt_some
set_option maxHeartbeats 4000000 in
theorem get_any {P : Nat → Prop} {w : World} {p a : Option Addr} {c : Nat} {L : List (Option En)} (h : Src P w p a c L) (hl : Short L) (e d : Int) : Calls Try.prog 14 #[.pointer p, .int .i64 e, .int .i64 d] w (GetP w (find L e d)) := by
  obtain ⟨w4, hw4⟩ : ∃ w4, w4 = (((w.alloc (.cells #[.int .i64 e] 3)).alloc (.cells #[.int .i64 d] 3)).alloc (.cells #[.slice none 0 0] 29)).alloc (.cells #[.bool false] 4) := ⟨_, rfl⟩
  have hs4 : w4.heap.size = w.heap.size + 4 := by rw [hw4]; simp
  have hb4 : Below w.heap.size w w4 := by rw [hw4]; exact ((((Below.refl _ w).alloc (Nat.le_refl _) _).alloc (by simp) _).alloc (by simp; omega) _).alloc (by simp; omega) _
  obtain ⟨x0, x1, x2⟩ := at3 w (.cells #[.int .i64 e] 3) (.cells #[.int .i64 d] 3) (.cells #[.slice none 0 0] 29)
  have x3 := heap_alloc_last (((w.alloc (.cells #[.int .i64 e] 3)).alloc (.cells #[.int .i64 d] 3)).alloc (.cells #[.slice none 0 0] 29)) (.cells #[.bool false] 4)
  have y0 : w4.heap[w.heap.size]? = some (.cells #[.int .i64 e] 3) := by rw [hw4]; exact (Below.heap_alloc _ _ _ (by simp; omega)).trans x0
  have y1 : w4.heap[w.heap.size + 1]? = some (.cells #[.int .i64 d] 3) := by rw [hw4]; exact (Below.heap_alloc _ _ _ (by simp)).trans x1
  have y2 : w4.heap[w.heap.size + 2]? = some (.cells #[.slice none 0 0] 29) := by rw [hw4]; exact (Below.heap_alloc _ _ _ (by simp)).trans x2
  have y3 : w4.heap[w.heap.size + 3]? = some (.cells #[.bool false] 4) := by
    rw [hw4]
    simp only [World.size_alloc] at x3
    exact x3
  obtain ⟨w6, hw6⟩ : ∃ w6, w6 = (w4.alloc (.cells #[.slice a L.length L.length] 71)).alloc (.cells #[.int .i64 (homeN L.length e d : Int)] 3) := ⟨_, rfl⟩
  have hs6 : w6.heap.size = w.heap.size + 6 := by rw [hw6]; simp [hs4]
  have hb6 : Below w4.heap.size w4 w6 := by rw [hw6]; exact ((Below.refl _ w4).alloc (Nat.le_refl _) _).alloc (by simp) _
  have hVr : Vars w6 a (w4.heap.size) (w4.heap.size + 1) c L.length (homeN L.length e d) := by
    obtain ⟨z1, z2⟩ := at2 w4 (.cells #[.slice a L.length L.length] 71) (.cells #[.int .i64 (homeN L.length e d : Int)] 3)
    rw [hw6]
    exact ⟨z1, h.row, z2⟩
  have hc := h.cells w4 hb4
  have hh := home_any (w := w4) (a := a) e d h.small
  have har := around_any (w := w4) (a := a) (n := L.length) (homeN L.length e d : Int)
  rw [← hw6] at har
  have hsm := h.small
  have HB : Hid (Below w.heap.size w w6) := hb4.trans (hb6.mono hb4.size)
  have HT : Hid (∀ A, Below w.heap.size w A → 0 < L.length → Ring P A c L) := fun A hA h0 => (h.ring h0).keep (Kb.of_below hA) (hA.block c (h.ring h0).lt)
  have HRW : Hid (0 < L.length → a = some ⟨c, 0, none⟩) := h.row
  have HY : Hid (w6.heap[w.heap.size]? = some (.cells #[.int .i64 e] 3) ∧ w6.heap[w.heap.size + 1]? = some (.cells #[.int .i64 d] 3) ∧ w6.heap[w.heap.size + 2]? = some (.cells #[.slice none 0 0] 29) ∧ w6.heap[w.heap.size + 3]? = some (.cells #[.bool false] 4)) :=
    ⟨(hb6.block _ (by omega)).trans y0, (hb6.block _ (by omega)).trans y1, (hb6.block _ (by omega)).trans y2, (hb6.block _ (by omega)).trans y3⟩
  have c0 := (box_cell y0).1
  have c1 := (box_cell y1).1
  have HW4 := hid_mk hw4
  have HV := hid_mk hVr
  have HL := hid_mk hl
  rw [hs4] at har HV
  clear hw4 hw6 hb4 hb6 h y0 y1 y2 y3 x0 x1 x2 x3 hVr hl
  obtain ⟨n, hn⟩ : ∃ n, n = L.length := ⟨_, rfl⟩
  obtain ⟨hm, hhm⟩ : ∃ hm, hm = homeN L.length e d := ⟨_, rfl⟩
  rw [← hhm] at hh har HV
  rw [← hn] at hc hh har HV hsm
  have HHM := hid_mk hhm
  have HN := hid_mk hn
  have hhl : hm ≤ 65536 := by rw [hhm]; exact home_le _ e d (by omega)
  clear hhm hn
  refine (callsIn_wide (n := 9)).1 ?_
  refine callsIn_of_wp_marks Try.func14 rfl trivial ?_ rfl
  refine wpIn_wide.2 ?_
  simp only [Try.ntmps14, List.size_toArray, List.length_cons, List.length_nil, Nat.reduceAdd, Nat.reduceSub, Array.replicate_succ, Array.replicate_zero, List.push_toArray, List.append_toArray, List.nil_append, List.cons_append]
  go_upto_region 1 with fail
  rw [← HW4.out]
  go_wp2_with (first
    | (go_at_call 31; refine hc.mono ?_; rintro e w' ⟨rfl, hw⟩; rw [hw]; clear hw w')
    | (go_at_call 33; refine hh.mono ?_; rintro e w' ⟨rfl, hw⟩; rw [hw]; clear hw w')
    | (go_at_call 32; refine har.mono ?_; rintro e w' ⟨rfl, hw⟩; rw [hw]; clear hw w'))
  refine (wpIn_wide (n := 9)).1 ?_
  have hAl : ∀ o, Below w6.heap.size w6 ((w6.alloc (.deferred (some []))).alloc o) := fun o => ((Below.refl _ _).alloc (Nat.le_refl _) _).alloc (by simp) _
  clear hc hh har c0 c1
  refine range_ring (gf := 41) (lb := #[.pointer (some ⟨w.heap.size + 4, 0, none⟩), .pointer (some ⟨w.heap.size + 4 + 1, 0, none⟩)]) rfl (enters_of Try.func41 (by kernel_rfl) rfl)
    (fun o => around_told (HV.out.below (hAl o)) hsm hhl)
    (fun A A' A'' h k => h.trans k) (fun A l o o' hl ho hc => ⟨by simp [World.putObj], World.putObj_heap_other (by omega), World.putObj_heap_other (by omega)⟩)
    (fun i A => Below w6.heap.size w6 A ∧ Past L e d hm i) (GetX w6 w L e d)
    ?gI ?gX ?gIp ?gXp
    (fun o => ⟨hAl o, Past.zero _ _ _ _⟩)
    (fun i => { tmps := #[.pointer p, .int .i64 e, .int .i64 d, undef, .pointer (some ⟨w.heap.size, 0, none⟩), .pointer (some ⟨w.heap.size + 1, 0, none⟩), .pointer (some ⟨w.heap.size + 1 + 1, 0, none⟩), .pointer (some ⟨w.heap.size + 1 + 1 + 1, 0, none⟩), .slice a n n, .pointer (some ⟨c, (hm + i) % n, none⟩), undef, .pointer p, .slice a n n, .slice a n n, .slice a n n, .int .i64 e, .int .i64 d, .int .i64 (hm : Int), .func (.func 41) #[] #[.pointer (some ⟨w.heap.size + 4, 0, none⟩), .pointer (some ⟨w.heap.size + 4 + 1, 0, none⟩)], .pointer (some ⟨c, (hm + i) % n, none⟩), undef, undef, undef, undef, undef, undef, undef, undef, undef, undef, undef, undef, undef], defers := [] })
    ?assign ?body ?done ?stop
  case gI => exact fun i A B h k => ⟨h.1.trans (k.mono h.1.size), h.2⟩
  case gX =>
    rintro c A B (⟨rfl, h1, h2⟩ | ⟨rfl, h1, x, v, h2, h3, h4, h5⟩) k
    · exact .inl ⟨rfl, h1.trans (k.mono h1.size), h2⟩
    · exact .inr ⟨rfl, h1.trans (k.mono h1.size), x, v, h2, (k.block _ (Array.getElem?_eq_some_iff.1 h3).1).trans h3, (k.block _ (Array.getElem?_eq_some_iff.1 h4).1).trans h4, h5.keep fun g hg _ => k.block g hg⟩
  case gIp => exact fun i A l o o' h hl ho hc => ⟨below_putO h.1 hl o', h.2⟩
  case gXp =>
    rintro c A l o o' (⟨rfl, h1, h2⟩ | ⟨rfl, h1, x, v, h2, h3, h4, h5⟩) hl ho hc
    · exact .inl ⟨rfl, below_putO h1 hl o', h2⟩
    · exact .inr ⟨rfl, below_putO h1 (by omega) o', x, v, h2, cell_putO h3 ho hc o', cell_putO h4 ho hc o', h5.putO ho hc o'⟩
  case assign =>
    intro kk l i A K hK
    gi_wp2
    exact hK
  case body =>
    rintro kk l i A ⟨hb, hp⟩ hi
    have hb2 : Below w.heap.size w A := HB.out.trans (hb.mono HB.out.size)
    have hnp : 0 < n := by omega
    obtain ⟨j, hj⟩ : ∃ j, j = (hm + i) % n := ⟨_, rfl⟩
    have hjn : j < n := by rw [hj]; exact Nat.mod_lt _ hnp
    have hjl : j < L.length := by rw [← HN.out]; exact hjn
    obtain ⟨o, ho⟩ : ∃ o, L[j]? = some o := ⟨_, List.getElem?_eq_getElem hjl⟩
    have hRA : Ring P A c L := HT.out A hb2 (by omega)
    obtain ⟨v, hv, hV, _⟩ := hRA.cell ho
    have hld := loadE_any hv hV
    have HO : Hid (L[(homeN L.length e d + i) % L.length]? = some o) := by
      rw [Hid, ← HHM.out, ← HN.out, ← hj]
      exact ho
    have hP : Past L e d (homeN L.length e d) i := by rw [← HHM.out]; exact hp
    have hi2 : i < L.length := by rw [← HN.out]; exact hi
    have HKU : Hid (∀ B, Below w6.heap.size A B → A.heap.size ≤ B.heap.size → KeepsUp w6.heap.size A B ∨ True) := fun _ _ _ => .inr trivial
    rw [← hj]
    cases o with
    | none =>
      have hV : v = .pointer none := hV
      subst hV
      have HX : Hid (KeepsUp w6.heap.size A A ∧ GetX w6 w L e d (.exit 0) A) := ⟨⟨Nat.le_refl _, fun k o _ h _ => h⟩, .inl ⟨rfl, hb, _, find_free hi2 hP HO.out⟩⟩
      clear hj hjl ho hv hRA hb hp hb2 HO hP hi2 HKU hi hjn
      gi_wp2_with (refine ⟨trivial, (fun h => by cases h), ?_⟩; gi_at_call 35; refine ((callsIn_wide.2 hld).inRound _).mono ?_; rintro e w' ⟨rfl, hw⟩; rw [hw]; clear hw w')
      exact HX.out
    | some x =>
      obtain ⟨g, rfl, hE⟩ := hV
      have his := is_any hE e d
      have hxl := HL.out j x ho
      have hcp := copied_any hE hxl
      have HFH : Hid (isE x e d = true → find L e d = .here x) := fun h => find_here hi2 hP HO.out h
      have HFS : Hid (isE x e d = false → Past L e d hm (i + 1)) := fun h => by
        have := hP.step HO.out h
        rw [← HHM.out] at this
        exact this
      have r0 : A.cell? ⟨w.heap.size, 0, none⟩ = some (.int .i64 e) := (box_cell ((hb.block _ (by omega)).trans HY.out.1)).1
      have r1 : A.cell? ⟨w.heap.size + 1, 0, none⟩ = some (.int .i64 d) := (box_cell ((hb.block _ (by omega)).trans HY.out.2.1)).1
      have HBA := hid_mk hb
      clear hj hjl ho hv hRA hb hp hb2 HO hP hi2 HKU hi hjn hE
      generalize isE x e d = q at *
      cases q with
      | false =>
        have HX : Hid (KeepsUp w6.heap.size A A ∧ KpP (w.heap.size + 4) (w.heap.size + 4 + 1) A A ∧ Below w6.heap.size w6 A ∧ Past L e d hm (i + 1)) := ⟨⟨Nat.le_refl _, fun k o _ h _ => h⟩, ⟨Nat.le_refl _, rfl, rfl⟩, HBA.out, HFS.out rfl⟩
        clear hcp HFH HFS HBA
        gi_wp2_with (first
          | (refine ⟨trivial, (fun h => by cases h), ?_⟩; gi_at_call 35; refine ((callsIn_wide.2 hld).inRound _).mono ?_; rintro e w' ⟨rfl, hw⟩; rw [hw]; clear hw w')
          | (refine ⟨trivial, (fun h => by cases h), ?_⟩; gi_at_call 36; refine ((callsIn_wide.2 his).inRound _).mono ?_; rintro e w' ⟨rfl, hw⟩; rw [hw]; clear hw w'))
        exact HX.out
      | true =>
        have HFH2 : Hid (find L e d = .here x) := HFH.out rfl
        have HG : Hid (∀ w5 v5, StO A.heap.size w5 v5 x.l → Below A.heap.size A w5 → (w5.cell? ⟨w.heap.size + 1 + 1, 0, none⟩ = some (.slice none 0 0) ∧ w5.cell? ⟨w.heap.size + 1 + 1 + 1, 0, none⟩ = some (.bool false) ∧ w5.frozen? ⟨w.heap.size + 1 + 1, 0, none⟩ = false ∧ w5.frozen? ⟨w.heap.size + 1 + 1 + 1, 0, none⟩ = false) ∧
            KeepsUp w6.heap.size A ((w5.setCell ⟨w.heap.size + 1 + 1, 0, none⟩ v5).setCell ⟨w.heap.size + 1 + 1 + 1, 0, none⟩ (.bool true)) ∧ GetX w6 w L e d .ret ((w5.setCell ⟨w.heap.size + 1 + 1, 0, none⟩ v5).setCell ⟨w.heap.size + 1 + 1 + 1, 0, none⟩ (.bool true))) := fun w5 v5 hs hb5 => by
          have hb65 : Below w6.heap.size w6 w5 := HBA.out.trans (hb5.mono HBA.out.size)
          have d2 : w5.heap[w.heap.size + 1 + 1]? = some (.cells #[.slice none 0 0] 29 (0, 0)) := (hb65.block _ (by omega)).trans HY.out.2.2.1
          have d3 : w5.heap[w.heap.size + 1 + 1 + 1]? = some (.cells #[.bool false] 4 (0, 0)) := (hb65.block _ (by omega)).trans HY.out.2.2.2
          obtain ⟨q2, f2⟩ := box_cell d2
          obtain ⟨q3, f3⟩ := box_cell d3
          obtain ⟨z1, z2, z3, z4⟩ := two_set (v2 := v5) (v3 := .bool true) d2 d3 (by omega)
          have hsA := HBA.out.size
          refine ⟨⟨q2, q3, f2, f3⟩, ⟨by rw [z4]; exact hb5.size, fun k o hk ho _ => ?_⟩, .inr ⟨rfl, ?_, x, v5, HFH2.out, z1, z2, ?_⟩⟩
          · exact (z3 k (by omega) (by omega)).trans ((hb5.block k (Array.getElem?_eq_some_iff.1 ho).1).trans ho)
          · exact below_two (HB.out.trans (hb65.mono HB.out.size)) (by omega) (by omega) _ _
          · exact (hs.keep fun g hg hg2 => z3 g (by omega) (by omega)).mono (by omega)
        have hfld := field2
        clear HFH HFS
        gi_wp2_with (first
          | (refine ⟨trivial, (fun h => by cases h), ?_⟩; gi_at_call 35; refine ((callsIn_wide.2 hld).inRound _).mono ?_; rintro e w' ⟨rfl, hw⟩; rw [hw]; clear hw w')
          | (refine ⟨trivial, (fun h => by cases h), ?_⟩; gi_at_call 36; refine ((callsIn_wide.2 his).inRound _).mono ?_; rintro e w' ⟨rfl, hw⟩; rw [hw]; clear hw w')
          | (refine ⟨trivial, (fun h => by cases h), ?_⟩; gi_at_call 37; refine ((callsIn_wide.2 hcp).inRound _).mono ?_; rintro e w5 ⟨v5, rfl, hs5, hb5⟩; obtain ⟨⟨q2, q3, f2, f3⟩, h5⟩ := HG.out w5 v5 hs5 hb5; have H5 := hid_mk h5; obtain ⟨pa, pc, rfl⟩ := hs5.form; clear hs5 hb5 h5))
        exact H5.out
  case done =>
    rintro D A rfl ⟨hb, hp⟩ hK
    have hfd : find L e d = .full := by
      refine find_full ?_
      rw [← HHM.out, ← HN.out]
      exact hp
    have HFD := hid_mk hfd
    have d2 : A.heap[w.heap.size + 1 + 1]? = some (.cells #[.slice none 0 0] 29 (0, 0)) := (hb.block _ (by omega)).trans HY.out.2.2.1
    have d3 : A.heap[w.heap.size + 1 + 1 + 1]? = some (.cells #[.bool false] 4 (0, 0)) := (hb.block _ (by omega)).trans HY.out.2.2.2
    obtain ⟨q2, f2⟩ := box_cell d2
    obtain ⟨q3, f3⟩ := box_cell d3
    have HE := hid_mk (two_set (v2 := .slice none 0 0) (v3 := .bool false) d2 d3 (by omega))
    have HBW : Hid (Below w.heap.size w ((A.setCell ⟨w.heap.size + 1 + 1, 0, none⟩ (.slice none 0 0)).setCell ⟨w.heap.size + 1 + 1 + 1, 0, none⟩ (.bool false))) := below_two (HB.out.trans (hb.mono HB.out.size)) (by omega) (by omega) _ _
    have HK := hid_mk hK
    clear hb hp hK hfd d2 d3
    go_wp2
    refine get_end HE.out.1 HE.out.2.1 ((HE.out.2.2.1 _ (by omega) (by omega)).trans HK.out) rfl rfl ?_
    rw [HFD.out]
    exact ⟨below_putO HBW.out (by omega) _, rfl⟩
  case stop =>
    rintro D c' A rfl h hK
    have HK := hid_mk hK
    rcases h with ⟨rfl, hb, j, hfd⟩ | ⟨rfl, hb, x, v, hfd, d2, d3, hs⟩
    · have HFD := hid_mk hfd
      have d2 : A.heap[w.heap.size + 1 + 1]? = some (.cells #[.slice none 0 0] 29 (0, 0)) := (hb.block _ (by omega)).trans HY.out.2.2.1
      have d3 : A.heap[w.heap.size + 1 + 1 + 1]? = some (.cells #[.bool false] 4 (0, 0)) := (hb.block _ (by omega)).trans HY.out.2.2.2
      obtain ⟨q2, f2⟩ := box_cell d2
      obtain ⟨q3, f3⟩ := box_cell d3
      have HE := hid_mk (two_set (v2 := .slice none 0 0) (v3 := .bool false) d2 d3 (by omega))
      have HBW : Hid (Below w.heap.size w ((A.setCell ⟨w.heap.size + 1 + 1, 0, none⟩ (.slice none 0 0)).setCell ⟨w.heap.size + 1 + 1 + 1, 0, none⟩ (.bool false))) := below_two (HB.out.trans (hb.mono HB.out.size)) (by omega) (by omega) _ _
      clear hb hK hfd d2 d3
      gi_wp2
      go_wp2
      refine get_end HE.out.1 HE.out.2.1 ((HE.out.2.2.1 _ (by omega) (by omega)).trans HK.out) rfl rfl ?_
      rw [HFD.out]
      exact ⟨below_putO HBW.out (by omega) _, rfl⟩
    · have HR : Hid (GetP w (find L e d) (.returned (.tuple #[v, .bool true])) (A.putObj w6.heap.size (.deferred none))) := by
        rw [hfd]
        exact ⟨below_putO hb (by omega) _, v, rfl, hs.putO hK rfl _⟩
      have HD := hid_mk d2
      have HE := hid_mk d3
      clear hb hK hfd d2 d3 hs
      gi_wp2
      exact get_end HD.out HE.out HK.out rfl rfl HR.out
end Go.Proofs.Ytdgbebgjenfmbaa.M
