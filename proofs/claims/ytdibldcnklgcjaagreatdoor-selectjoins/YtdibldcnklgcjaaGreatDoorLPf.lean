/- The reader of selectors: what is still to be read. selector.Parse: the mathematics of lists whose Lists come later. selector.Parse: a list in memory, with its Lists. -/
import Derived.Test.YtdibldcnklgcjaaGreatDoorLWi
namespace Go.Proofs.YtdibldcnklgcjaaGreatDoor.L
open Go.RowKit
set_option maxRecDepth 100000

/-- Tasks in a row of its own: the values' slice, and where their list belongs. -/
def tsC (ts : List (Value × Addr)) : List Value := ts.flatMap fun x => [x.1, .pointer (some x.2)]
def TsR (B : Nat) (W : World) (v : Value) (ts : List (Value × Addr)) : Prop := W.ownsRow B 59 2 v ts.length (tsC ts)
theorem info71 : ∃ i z, Tryz.prog.info? 59 = some i ∧ i.zero = some z ∧ i.size = 2 ∧ i.bytes = 32 ∧ z.cells.size = 2 := ⟨_, _, by rfl, by rfl, by rfl, by rfl, by rfl⟩
theorem tsC_append (a b : List (Value × Addr)) : tsC (a ++ b) = tsC a ++ tsC b := by simp [tsC]
theorem own_cell {W : World} {B : Nat} {T : TypeId} {n i : Nat} {v : Value} {xs : List Value} (h : W.ownsRow B T 1 v n xs) (hi : i < n) : ∃ g c x, v = .slice (some ⟨g, 0, none⟩) n c ∧ g < W.heap.size ∧ B ≤ g ∧ n ≤ c ∧ c ≤ 9223372036854775807 ∧ xs[i]? = some x ∧ W.cell? ⟨g, i, none⟩ = some x := by
  rcases h.2 with ⟨_, e⟩ | ⟨g, cap, cur, rfl, h1, h2, h3, h4, h5, h6⟩
  · omega
  · have hl : i < xs.length := by have := h.1; omega
    refine ⟨g, cap, xs[i], rfl, (Array.getElem?_eq_some_iff.1 h2).1, h1, h3, h4, List.getElem?_eq_getElem hl, ?_⟩
    have := own_news h i _ (List.getElem?_eq_getElem hl)
    rw [Addr.add_mid, Nat.zero_add] at this
    exact this

set_option maxHeartbeats 1000000 in
theorem tasks_any {W0 W : World} {lo b : Nat} {ks : List (List V)} {us : List V} {va : Option Addr} {vn vc : Nat} {A : List Addr} (hk : Rk lo W0 b ks us W)
    (hw : Calls Tryz.prog 39 #[.slice va vn vc, .func (.func 40) #[] #[]] W fun e w' => ∃ v', e = .returned v' ∧ PsAt W.heap.size w' v' A ∧ Below W.heap.size W w') (hlen : A.length = ks.length) (hn : ks.length ≤ 1000000) :
    Calls Tryz.prog 16 #[.pointer (some ⟨b, 0, none⟩), .slice va vn vc] W fun e w' => ∃ v' ts, e = .returned v' ∧ (ks = [] → v' = .slice none 0 0) ∧ TsR W.heap.size w' v' ts ∧ ts.length = ks.length ∧ (∀ i (h : i < ts.length) (h' : i < A.length) (h'' : i < ks.length), (ts[i]'h).2 = (A[i]'h').add 6 ∧ VsAt (· < min lo b) W (ts[i]'h).1 (ks[i]'h'')) ∧ Below W.heap.size W w' := by
  obtain ⟨i0, z0, hi0, hz0, hz1, hz2, hz3⟩ := info71
  obtain ⟨kids, cs, hrd, hown, hks⟩ := hk.rd
  obtain ⟨a, n, cap, _, _, _, h1, _, _⟩ := hrd.see
  have hbl := hrd.lt
  have hcl : cs.length = ks.length := by have := hown.1; omega
  obtain ⟨ts, hts⟩ : ∃ ts : List (Value × Addr), ts = cs.zip (A.map fun x => x.add 6) := ⟨_, rfl⟩
  have htl : ts.length = ks.length := by rw [hts, List.length_zip, List.length_map, hcl, hlen, Nat.min_self]
  have hti : ∀ i (h : i < ts.length) (h' : i < A.length) (h'' : i < cs.length), ts[i]'h = (cs[i]'h'', (A[i]'h').add 6) := fun i h h' h'' => by
    simp [hts, List.getElem_zip]
  have HFIN : Hid (∀ i (h : i < ts.length) (h' : i < A.length) (h'' : i < ks.length), (ts[i]'h).2 = (A[i]'h').add 6 ∧ VsAt (· < min lo b) W (ts[i]'h).1 (ks[i]'h'')) := fun i h h' h'' => by
    have hic : i < cs.length := by omega
    obtain ⟨v, e, hv⟩ := hks i h''
    rw [List.getElem?_eq_getElem hic] at e
    cases e
    rw [hti i h h' hic]
    exact ⟨rfl, hv⟩
  have HCELL : Hid (∀ w', Below W.heap.size W w' → w'.cell? ⟨b, 1, none⟩ = some kids ∧ ∀ i (h : i < ks.length), ∃ g c x, kids = .slice (some ⟨g, 0, none⟩) ks.length c ∧ ks.length ≤ c ∧ c ≤ 9223372036854775807 ∧ cs[i]? = some x ∧ w'.cell? ⟨g, i, none⟩ = some x ∧ ∃ sa sn sc, x = .slice sa sn sc) := fun w' hB => by
    refine ⟨(hB.cell (p := ⟨b, 1, none⟩) hbl).trans (cellAt h1 1), fun i hi => ?_⟩
    obtain ⟨g, c, x, e1, e2, _, e3, e4, e5, e6⟩ := own_cell hown hi
    obtain ⟨v, e7, hv⟩ := hks i hi
    rw [e5] at e7
    cases e7
    obtain ⟨sa, sc, rfl, _, _⟩ := hv.slice
    exact ⟨g, c, _, e1, e3, e4, e5, (hB.cell (p := ⟨g, i, none⟩) e2).trans e6, _, _, _, rfl⟩
  obtain ⟨N, hN⟩ : ∃ N, N = ks.length := ⟨_, rfl⟩
  have HN := hid_mk hN
  have HTL : Hid (ts.length = N) := by rw [Hid, hN]; exact htl
  have HTI := hid_mk hti
  have HCL : Hid (cs.length = N) := by rw [Hid, hN]; exact hcl
  have HAL : Hid (A.length = N) := by rw [Hid, hN]; exact hlen
  rw [← hN] at hn HCELL
  clear hk hrd hown hks h1 hcl hts htl hti hlen hN
  go_enter Tryz.func16, Tryz.ntmps16
  go_wp2_with (go_at_call 39; fail)
  refine hw.mono ?_
  rintro e w1 ⟨v1, rfl, hps, hB1⟩
  have hps' : w1.ownsRow W.heap.size 94 1 v1 N (A.map fun a => Value.pointer (some a)) := by
    have := hps
    unfold PsAt at this
    rw [HAL.out] at this
    exact this
  have hsl : ∃ pa pc, v1 = .slice pa N pc := by
    rcases hps'.2 with ⟨rfl, e⟩ | ⟨g, cap, cur, rfl, _⟩
    · exact ⟨none, 0, by rw [e]⟩
    · exact ⟨_, _, rfl⟩
  obtain ⟨pa, pc, rfl⟩ := hsl
  have HPC : Hid (∀ i, i < N → ∃ g x, pa = some ⟨g, 0, none⟩ ∧ A[i]? = some x ∧ g < w1.heap.size ∧ w1.cell? ⟨g, i, none⟩ = some (.pointer (some x))) := fun i hi => by
    obtain ⟨g, c, x, e1, e2, _, _, _, e5, e6⟩ := own_cell hps' hi
    cases e1
    rw [List.getElem?_map] at e5
    cases hx : A[i]? with
    | none => rw [hx] at e5; cases e5
    | some y =>
      rw [hx] at e5
      cases e5
      exact ⟨g, y, rfl, rfl, e2, e6⟩
  have HB1 := hid_mk hB1
  have HT0 : Hid (TsR w1.heap.size w1 (.slice none 0 0) (ts.take 0)) := ⟨rfl, .inl ⟨rfl, rfl⟩⟩
  have hN9 : N ≤ 9223372036854775807 := by omega
  clear hw hps hps' hB1
  go_wp2
  go_loopw [5, 11] (fun a5 a11 wq => ∃ (i : Nat) (va : Option Addr) (vn vc : Nat), i ≤ N ∧ a11 = .int .i64 (i : Int) ∧ a5 = .slice va vn vc ∧ Hid (i = 0 → Value.slice va vn vc = .slice none 0 0) ∧ Hid (TsR w1.heap.size wq (.slice va vn vc) (ts.take i)) ∧ Hid (Below w1.heap.size w1 wq)) (fun _ a11 _ => N + 1 - (intOf a11).toNat)
  case atStart => exact ⟨0, _, _, _, Nat.zero_le _, rfl, rfl, fun _ => rfl, HT0, Below.refl _ _⟩
  case round =>
    obtain ⟨i, ta, tn, tc, hi, rfl, rfl, HNL, HT, HB⟩ := hrel
    clear HT0
    by_cases hil : i < N
    · obtain ⟨pg, x, rfl, hx, hpg, hpc⟩ := HPC.out i hil
      have p1 := (HB.out.cell (p := ⟨pg, i, none⟩) hpg).trans hpc
      have hBW : Below W.heap.size W wr := HB1.out.trans (HB.out.mono HB1.out.size)
      obtain ⟨c1, hcc⟩ := HCELL.out wr hBW
      obtain ⟨kg, kc, y, e1, hkc1, hkc2, hy, c2, sa, sn, sc, rfl⟩ := hcc i hil
      rw [e1] at c1
      have HTS : Hid (ts.take (i + 1) = ts.take i ++ [(.slice sa sn sc, x.add 6)]) := by
        have h1 : i < ts.length := by rw [HTL.out]; exact hil
        have h2 : i < A.length := by rw [HAL.out]; exact hil
        have h3 : i < cs.length := by rw [HCL.out]; exact hil
        rw [List.getElem?_eq_getElem h2] at hx
        rw [List.getElem?_eq_getElem h3] at hy
        rw [Hid, List.take_add_one, List.getElem?_eq_getElem h1, Option.toList_some, HTI.out i h1 h2 h3, Option.some.inj hx, Option.some.inj hy]
      have htl : (ts.take i).length = i := by rw [List.length_take, HTL.out]; omega
      have hown : wr.ownsRow w1.heap.size 59 2 (.slice ta tn tc) i (tsC (ts.take i)) := by
        have := HT.out
        unfold TsR at this
        rw [htl] at this
        exact this
      have HNX : Hid (∀ w3 v3 z, z = Value.slice sa sn sc → (wr.alloc (.cells #[z, .pointer (some (x.add 6))] 59)).drew.grownBy w3 (Value.slice ta tn tc).ownBlock → w3.ownsRow w1.heap.size 59 2 v3 (i + 1) (tsC (ts.take i) ++ [z, .pointer (some (x.add 6))]) → TsR w1.heap.size w3 v3 (ts.take (i + 1)) ∧ Below w1.heap.size w1 w3) := fun w3 v3 z hz hgr ho => by
        subst hz
        refine ⟨?_, ?_⟩
        · have hl2 : (ts.take (i + 1)).length = i + 1 := by rw [List.length_take, HTL.out]; omega
          unfold TsR
          rw [hl2, HTS.out, tsC_append]
          exact ho
        · have hB2 : Below w1.heap.size w1 (wr.alloc (.cells #[.slice sa sn sc, .pointer (some (x.add 6))] 59)).drew := (HB.out.alloc HB.out.size _).drew
          exact hB2.grown hgr hB2.size fun k hk => (hown.lt k hk).1
      have hd1 : (i : Int) < (N : Int) := by omega
      have hsz := HB.out.size
      obtain ⟨xb, xo, xs⟩ := x
      clear HT hcc e1 hx hy hpc htl
      go_upto_region 5 with (fail)
      go_region_law
        ((refine step_append_lies _ (by rfl) _ _ _ (by rfl) w1.heap.size 59 i0 z0 2 32 Tryz.underlying60 hi0 hz0 hz1 hz2 hz3 (by omega) (.slice ta tn tc) i (tsC (ts.take i)) (by rfl) ((hown.alloc _).drew)
            ⟨wr.heap.size, 0, none⟩ 1 1 [.slice sa sn sc, .pointer (some (Addr.add ⟨xb, xo, xs⟩ 6))] (by rfl) (by rfl) (World.news_of_block (cs := #[.slice sa sn sc, .pointer (some (Addr.add ⟨xb, xo, xs⟩ 6))]) (t := 59) (fr := (0, 0)) (heap_alloc_last wr _)) (by simp [Value.oneCell'])
            (by omega) (by unfold maxLen; omega) (by omega) (by simp; omega) (wr.heap.size + 1) (by simp) ?_
          intro gg cap5 w5 hown5 hgrow hgat hglt
          obtain ⟨hT5, hB5⟩ := HNX.out w5 _ _ rfl hgrow hown5
          have HT5 := hid_mk hT5
          have HB5 := hid_mk hB5
          clear hown5 hgrow hgat hglt hT5 hB5))
      all_goals go_wp2
      all_goals exact ⟨⟨i + 1, _, _, _, by omega, by go_num, rfl, (fun h => absurd h (by omega)), HT5, HB5⟩, by simp only [intOf]; omega⟩
    · have hie : i = N := by omega
      subst hie
      have HZ : Hid (TsR W.heap.size wr (.slice ta tn tc) ts ∧ Below W.heap.size W wr) := by
        have h1 := HT.out
        rw [List.take_of_length_le (by rw [HTL.out]; exact Nat.le_refl _)] at h1
        exact ⟨own_from h1 HB1.out.size, HB1.out.trans (HB.out.mono HB1.out.size)⟩
      clear HT hil
      go_wp2
      go_ret
      exact ⟨_, ts, rfl, (fun h => HNL.out (by rw [HN.out, h]; rfl)), HZ.out.1, by rw [HTL.out]; exact HN.out, HFIN.out, HZ.out.2⟩
end Go.Proofs.YtdibldcnklgcjaaGreatDoor.L
namespace Go.Proofs.YtdibldcnklgcjaaGreatDoor.L
open Go.RowKit
set_option maxRecDepth 100000

/-- The compound selectors of a list, each with its slice. -/
def prs (l : List Cv) (xs : List (Value × Value × List Value)) : List (List Sv × Value) := (l.zip xs).flatMap fun y => y.1.1.zip y.2.2.2
/-- Those with a List: the List's values, and where the simple selector stands. -/
def tkF (g : Nat) : Nat → List Sv → List (List V × Addr)
  | _, [] => []
  | t, s :: r => (if lstB s.1.k = true then [(s.2, ⟨g, t * 7, none⟩)] else []) ++ tkF g (t + 1) r
def tks (l : List Cv) (xs : List (Value × Value × List Value)) : List (List V × Addr) := (prs l xs).flatMap fun z => tkF (blk z.2) 0 z.1
/-- Kinds and addresses. -/
def kaF (g : Nat) : Nat → List Sv → List (Int × Addr)
  | _, [] => []
  | t, s :: r => (s.1.k, ⟨g, t * 7, none⟩) :: kaF g (t + 1) r
def see (l : List Cv) (xs : List (Value × Value × List Value)) : List (List (List (Int × Addr))) := (l.zip xs).map fun y => (y.1.1.zip y.2.2.2).map fun z => kaF (blk z.2) 0 z.1
theorem kaF_len (g : Nat) : ∀ (t : Nat) (p : List Sv), (kaF g t p).length = p.length
  | _, [] => rfl
  | t, s :: r => by rw [kaF, List.length_cons, kaF_len g (t + 1) r, List.length_cons]
theorem kaF_get (g : Nat) : ∀ (t : Nat) (p : List Sv) (i : Nat) (h : i < (kaF g t p).length) (h' : i < p.length), (kaF g t p)[i]'h = ((p[i]'h').1.k, ⟨g, (t + i) * 7, none⟩)
  | t, s :: r, 0, h, h' => by simp [kaF]
  | t, s :: r, i + 1, h, h' => by
    simp only [kaF, List.getElem_cons_succ]
    rw [kaF_get g (t + 1) r i (by rw [kaF_len]; simp at h'; omega) (by simp at h'; omega)]
    rw [show t + 1 + i = t + (i + 1) by omega]
theorem kaF_sel (g : Nat) : ∀ (t : Nat) (p : List Sv), selP lstB (kaF g t p) = (tkF g t p).map Prod.snd
  | _, [] => rfl
  | t, s :: r => by
    have ih := kaF_sel g (t + 1) r
    unfold selP at ih ⊢
    rw [kaF, tkF, List.map_append, ← ih]
    by_cases h : lstB s.1.k = true
    · simp [h]
    · simp [h]
theorem tkF_kids (g : Nat) : ∀ (t : Nat) (p : List Sv), (tkF g t p).map Prod.fst = kidsOf p
  | _, [] => rfl
  | t, s :: r => by
    rw [tkF, List.map_append, tkF_kids g (t + 1) r]
    unfold kidsOf
    by_cases h : lstB s.1.k = true
    · simp [h]
    · simp [h]
theorem see_sel (l : List Cv) (xs : List (Value × Value × List Value)) : selL lstB (see l xs) = (tks l xs).map Prod.snd := by
  unfold selL see tks prs
  rw [List.flatMap_map, List.flatMap_assoc, List.map_flatMap]
  congr 1
  funext y
  unfold selC
  rw [List.flatMap_map, List.map_flatMap]
  congr 1
  funext z
  exact kaF_sel _ 0 _
/-- Each part has its slice. -/
def Lens (l : List Cv) (xs : List (Value × Value × List Value)) : Prop := xs.length = l.length ∧ ∀ i (h : i < l.length) (h' : i < xs.length), (xs[i]'h').2.2.length = (l[i]'h).1.length
theorem Lens.cons {c : Cv} {l : List Cv} {x : Value × Value × List Value} {xs : List (Value × Value × List Value)} (h : Lens (c :: l) (x :: xs)) : x.2.2.length = c.1.length ∧ Lens l xs :=
  ⟨h.2 0 (by simp) (by simp), by have := h.1; simpa using this, fun i hi hi' => by have := h.2 (i + 1) (by simpa using hi) (by simpa using hi'); simpa using this⟩
theorem zip_flat {α β γ : Type} (f : α → List γ) : ∀ (a : List α) (b : List β), b.length = a.length → (a.zip b).flatMap (fun z => f z.1) = a.flatMap f
  | [], _, _ => by simp
  | x :: r, [], h => by simp at h
  | x :: r, y :: s, h => by
    rw [List.zip_cons_cons, List.flatMap_cons, List.flatMap_cons, zip_flat f r s (by simpa using h)]
theorem tks_kids : ∀ (l : List Cv) (xs : List (Value × Value × List Value)), Lens l xs → (tks l xs).map Prod.fst = kidsL l
  | [], _, _ => by simp [tks, prs, kidsL]
  | c :: l, [], h => by have := h.1; simp at this
  | c :: l, x :: xs, h => by
    obtain ⟨h1, h2⟩ := h.cons
    have ih := tks_kids l xs h2
    have e1 : tks (c :: l) (x :: xs) = ((c.1.zip x.2.2).flatMap fun z => tkF (blk z.2) 0 z.1) ++ tks l xs := by
      unfold tks prs
      rw [List.zip_cons_cons, List.flatMap_cons, List.flatMap_append]
    rw [e1, List.map_append, ih, List.map_flatMap, show kidsL (c :: l) = kidsC c ++ kidsL l by simp [kidsL]]
    congr 1
    have e2 : (fun z : List Sv × Value => (tkF (blk z.2) 0 z.1).map Prod.fst) = fun z => kidsOf z.1 := by
      funext z
      exact tkF_kids _ 0 _
    rw [e2, zip_flat kidsOf c.1 x.2.2 h1]
    rfl
theorem tkF_mem {g : Nat} : ∀ {t : Nat} {p : List Sv} {x : List V × Addr}, x ∈ tkF g t p → ∃ i, ∃ h : i < p.length, lstB (p[i]'h).1.k = true ∧ x = ((p[i]'h).2, ⟨g, (t + i) * 7, none⟩)
  | _, [], _, h => by cases h
  | t, s :: r, x, h => by
    rw [tkF] at h
    rcases List.mem_append.1 h with h | h
    · by_cases hl : lstB s.1.k = true
      · rw [if_pos hl] at h
        exact ⟨0, by simp, hl, List.mem_singleton.1 h⟩
      · rw [if_neg hl] at h
        cases h
    · obtain ⟨i, hi, h1, h2⟩ := tkF_mem h
      exact ⟨i + 1, by simpa using hi, h1, by rw [h2, show t + 1 + i = t + (i + 1) by omega]; rfl⟩
theorem tkF_in {g : Nat} : ∀ {t : Nat} {p : List Sv} {i : Nat} (h : i < p.length), lstB (p[i]'h).1.k = true → ((p[i]'h).2, (⟨g, (t + i) * 7, none⟩ : Addr)) ∈ tkF g t p
  | t, s :: r, 0, h, hl => by
    rw [tkF]
    refine List.mem_append.2 (.inl ?_)
    have hl' : lstB s.1.k = true := hl
    rw [if_pos hl']
    exact List.mem_singleton.2 rfl
  | t, s :: r, i + 1, h, hl => by
    rw [tkF]
    refine List.mem_append.2 (.inr ?_)
    have := tkF_in (g := g) (t := t + 1) (p := r) (i := i) (by simpa using h) hl
    rw [show t + 1 + i = t + (i + 1) by omega] at this
    exact this
theorem prs_mem {l : List Cv} {xs : List (Value × Value × List Value)} {z : List Sv × Value} (h : z ∈ prs l xs) : ∃ i, ∃ hi : i < l.length, ∃ hi' : i < xs.length, ∃ j, ∃ hj : j < (l[i]'hi).1.length, ∃ hj' : j < (xs[i]'hi').2.2.length, z = ((l[i]'hi).1[j]'hj, (xs[i]'hi').2.2[j]'hj') := by
  obtain ⟨y, hy, hz⟩ := List.mem_flatMap.1 h
  obtain ⟨i, hi, rfl⟩ := List.mem_iff_getElem.1 hy
  obtain ⟨j, hj, rfl⟩ := List.mem_iff_getElem.1 hz
  have hi1 : i < l.length := by rw [List.length_zip] at hi; omega
  have hi2 : i < xs.length := by rw [List.length_zip] at hi; omega
  simp only [List.getElem_zip] at hj ⊢
  have hj1 : j < (l[i]'hi1).1.length := by rw [List.length_zip] at hj; omega
  have hj2 : j < (xs[i]'hi2).2.2.length := by rw [List.length_zip] at hj; omega
  exact ⟨i, hi1, hi2, j, hj1, hj2, rfl⟩
theorem prs_in {l : List Cv} {xs : List (Value × Value × List Value)} {i j : Nat} (hi : i < l.length) (hi' : i < xs.length) (hj : j < (l[i]'hi).1.length) (hj' : j < (xs[i]'hi').2.2.length) : ((l[i]'hi).1[j]'hj, (xs[i]'hi').2.2[j]'hj') ∈ prs l xs := by
  refine List.mem_flatMap.2 ⟨(l[i]'hi, xs[i]'hi'), ?_, ?_⟩
  · rw [List.mem_iff_getElem]
    exact ⟨i, by rw [List.length_zip]; omega, by simp [List.getElem_zip]⟩
  · rw [List.mem_iff_getElem]
    exact ⟨j, by simp only []; rw [List.length_zip]; omega, by simp [List.getElem_zip]⟩
theorem prs_snd : ∀ (l : List Cv) (xs : List (Value × Value × List Value)), Lens l xs → (prs l xs).map Prod.snd = xs.flatMap fun x => x.2.2
  | [], xs, h => by
    have : xs = [] := List.length_eq_zero_iff.1 h.1
    subst this
    rfl
  | c :: l, [], h => by have := h.1; simp at this
  | c :: l, x :: xs, h => by
    obtain ⟨h1, h2⟩ := h.cons
    have ih := prs_snd l xs h2
    unfold prs at ih ⊢
    rw [List.zip_cons_cons, List.flatMap_cons, List.map_append, ih, List.flatMap_cons]
    congr 1
    exact List.map_snd_zip (Nat.le_of_eq h1)
theorem tkF_off {g : Nat} : ∀ (t : Nat) (p : List Sv), (tkF g t p).Pairwise fun x y => x.2 ≠ y.2
  | _, [] => List.Pairwise.nil
  | t, s :: r => by
    rw [tkF]
    refine List.pairwise_append.2 ⟨by split <;> simp, tkF_off (t + 1) r, fun x hx y hy => ?_⟩
    by_cases hl : lstB s.1.k = true
    · rw [if_pos hl] at hx
      rw [List.mem_singleton.1 hx]
      obtain ⟨i, hi, _, rfl⟩ := tkF_mem hy
      intro e
      have : t * 7 = (t + 1 + i) * 7 := congrArg Addr.off e
      omega
    · rw [if_neg hl] at hx
      cases hx
/-- No two of them stand at one place. -/
theorem tks_apart {l : List Cv} {xs : List (Value × Value × List Value)} (hl : Lens l xs) (hu : (xs.flatMap fun x => x.2.2).Pairwise fun x y => blk x < blk y) : (tks l xs).Pairwise fun x y => x.2 ≠ y.2 := by
  rw [← prs_snd l xs hl, List.pairwise_map] at hu
  unfold tks
  refine List.pairwise_flatMap.2 ⟨fun z _ => tkF_off 0 _, hu.imp fun {a b} hab x hx y hy => ?_⟩
  obtain ⟨i, _, _, rfl⟩ := tkF_mem hx
  obtain ⟨j, _, _, rfl⟩ := tkF_mem hy
  intro e
  have : blk a.2 = blk b.2 := congrArg Addr.block e
  omega
theorem allO_get {α β : Type} {f : α → Option β} : ∀ {l : List α} {R : List β}, allO f l = some R → R.length = l.length ∧ ∀ i (h : i < l.length) (h' : i < R.length), f (l[i]'h) = some (R[i]'h')
  | [], R, h => by
    cases h
    exact ⟨rfl, fun i h => absurd h (by simp)⟩
  | a :: r, R, h => by
    unfold allO at h
    cases ha : f a with
    | none => rw [ha] at h; cases h
    | some b =>
      rw [ha] at h
      cases hr : allO f r with
      | none => rw [hr] at h; cases h
      | some L =>
        rw [hr] at h
        cases h
        obtain ⟨h1, h2⟩ := allO_get hr
        refine ⟨by simp [h1], fun i hi hi' => ?_⟩
        cases i with
        | zero => exact ha
        | succ i => exact h2 i (by simpa using hi) (by simpa using hi')
theorem allO_none {α β : Type} {f : α → Option β} : ∀ {l : List α}, allO f l = none → ∃ a ∈ l, f a = none
  | [], h => by cases h
  | a :: r, h => by
    unfold allO at h
    cases ha : f a with
    | none => exact ⟨a, by simp, ha⟩
    | some b =>
      rw [ha] at h
      cases hr : allO f r with
      | none =>
        obtain ⟨x, hx, e⟩ := allO_none hr
        exact ⟨x, by simp [hx], e⟩
      | some L => rw [hr] at h; cases h
theorem fC_get {f : List V → Option (List Cx)} {c : Cv} {x : Cx} (h : fC f c = some x) : x.combs = c.2 ∧ allO (allO (fS f)) c.1 = some x.parts := by
  unfold fC at h
  cases hp : allO (allO (fS f)) c.1 with
  | none => rw [hp] at h; cases h
  | some ps =>
    rw [hp] at h
    cases h
    exact ⟨rfl, rfl⟩
theorem fS_get {f : List V → Option (List Cx)} {s : Sv} {x : S6 × List Cx} (h : fS f s = some x) : x.1 = s.1 ∧ ((lstB s.1.k = true ∧ f s.2 = some x.2) ∨ (lstB s.1.k = false ∧ x.2 = [])) := by
  unfold fS at h
  by_cases hl : lstB s.1.k = true
  · rw [if_pos hl] at h
    cases hf : f s.2 with
    | none => rw [hf] at h; cases h
    | some l =>
      rw [hf] at h
      cases h
      exact ⟨rfl, .inl ⟨hl, rfl⟩⟩
  · rw [if_neg hl] at h
    cases h
    exact ⟨rfl, .inr ⟨by simpa using hl, rfl⟩⟩
/-- A list that is read whole has Lists that are; one that is not, has one that is not. -/
theorem all_some {l : List Cv} {xs : List (Value × Value × List Value)} {R : List Cx} (h : allO (fC parseZ) l = some R) : ∀ x ∈ tks l xs, ∃ L, parseZ x.1 = some L := fun x hx => by
  obtain ⟨z, hz, hx⟩ := List.mem_flatMap.1 hx
  obtain ⟨i, hi, hi', j, hj, hj', rfl⟩ := prs_mem hz
  obtain ⟨t, ht, hls, rfl⟩ := tkF_mem hx
  simp only [] at ht hls ⊢
  obtain ⟨h1, h2⟩ := allO_get h
  obtain ⟨_, h4⟩ := fC_get (h2 i hi (by omega))
  obtain ⟨h5, h6⟩ := allO_get h4
  obtain ⟨h7, h8⟩ := allO_get (h6 j hj (by omega))
  rcases (fS_get (h8 t ht (by omega))).2 with ⟨_, e⟩ | ⟨e, _⟩
  · exact ⟨_, e⟩
  · rw [e] at hls
    cases hls
theorem some_none {l : List Cv} {xs : List (Value × Value × List Value)} (hl : Lens l xs) (h : allO (fC parseZ) l = none) : ∃ x ∈ tks l xs, parseZ x.1 = none := by
  obtain ⟨c, hc, e⟩ := allO_none h
  obtain ⟨i, hi, rfl⟩ := List.mem_iff_getElem.1 hc
  have hi' : i < xs.length := by rw [hl.1]; exact hi
  unfold fC at e
  cases hp : allO (allO (fS parseZ)) (l[i]'hi).1 with
  | some ps => rw [hp] at e; cases e
  | none =>
    obtain ⟨p, hp, e⟩ := allO_none hp
    obtain ⟨j, hj, rfl⟩ := List.mem_iff_getElem.1 hp
    obtain ⟨s, hs, e⟩ := allO_none e
    obtain ⟨t, ht, rfl⟩ := List.mem_iff_getElem.1 hs
    have hj' : j < (xs[i]'hi').2.2.length := by rw [hl.2 i hi hi']; exact hj
    unfold fS at e
    by_cases hls : lstB (((l[i]'hi).1[j]'hj)[t]'ht).1.k = true
    · rw [if_pos hls] at e
      cases hf : parseZ (((l[i]'hi).1[j]'hj)[t]'ht).2 with
      | some L => rw [hf] at e; cases e
      | none => exact ⟨_, List.mem_flatMap.2 ⟨_, prs_in hi hi' hj hj', tkF_in ht hls⟩, hf⟩
    · rw [if_neg hls] at e
      cases e
end Go.Proofs.YtdibldcnklgcjaaGreatDoor.L
namespace Go.Proofs.YtdibldcnklgcjaaGreatDoor.L
open Go.RowKit
set_option maxRecDepth 100000

theorem own_Sl {W : World} {B : Nat} {T : TypeId} {s n : Nat} {v : Value} {xs : List Value} (h : W.ownsRow B T s v n xs) : Sl W v n (blk v) 0 ∧ (0 < n → B ≤ blk v ∧ blk v < W.heap.size ∧ ∃ c, W.heap[blk v]? = some (.cells c T (0, 0))) ∧ ∀ j u, xs[j]? = some u → W.cell? ⟨blk v, 0 + j, none⟩ = some u := by
  rcases h.2 with ⟨rfl, e⟩ | ⟨g, cap, cur, rfl, h1, h2, h3, h4, h5, h6⟩
  · have hx : xs = [] := List.length_eq_zero_iff.1 (by rw [h.1, e, Nat.zero_mul])
    exact ⟨⟨none, 0, by rw [e], by omega, by decide, fun h0 => by omega⟩, fun h0 => by omega, fun j u hu => by rw [hx] at hu; cases hu⟩
  · refine ⟨⟨_, cap, rfl, h3, h4, fun _ => ⟨rfl, (Array.getElem?_eq_some_iff.1 h2).1⟩⟩, fun _ => ⟨h1, (Array.getElem?_eq_some_iff.1 h2).1, cur, h2⟩, fun j u hu => ?_⟩
    have := own_news h j u hu
    rw [Addr.add_mid] at this
    exact this
theorem LvAt.lens {B : Nat} {W : World} {v : Value} {l : List Cv} {xs : List (Value × Value × List Value)} (h : LvAt B W v l xs) : Lens l xs :=
  ⟨h.len, fun i hi hi' => by have := (h.cx i hi hi').ps.1; simp at this; exact this⟩
theorem flat2 : ∀ {xs : List (Value × Value × List Value)} {i : Nat} (hi : i < xs.length), (xs.flatMap fun x => [x.1, x.2.1])[i * 2]? = some (xs[i]'hi).1 ∧ (xs.flatMap fun x => [x.1, x.2.1])[i * 2 + 1]? = some (xs[i]'hi).2.1
  | x :: r, 0, _ => ⟨rfl, rfl⟩
  | x :: r, i + 1, hi => by
    have := flat2 (xs := r) (i := i) (by simpa using hi)
    rw [List.flatMap_cons, show (i + 1) * 2 = i * 2 + 2 by omega]
    exact this
theorem ssC_at : ∀ {l : List S6} {t : Nat} (h : t < l.length) (y : Nat) (u : Value), (s7 (l[t]'h) (.slice none 0 0))[y]? = some u → (ssC l)[t * 7 + y]? = some u
  | s :: r, 0, _, y, u, hu => by
    have hu : (s7 s (.slice none 0 0))[y]? = some u := hu
    rw [show ssC (s :: r) = s7 s (.slice none 0 0) ++ ssC r from rfl, Nat.zero_mul, Nat.zero_add, List.getElem?_append_left (List.getElem?_eq_some_iff.1 hu).1]
    exact hu
  | s :: r, t + 1, h, y, u, hu => by
    rw [show ssC (s :: r) = s7 s (.slice none 0 0) ++ ssC r from rfl, List.getElem?_append_right (by show 7 ≤ _; omega)]
    rw [show (t + 1) * 7 + y - (s7 s (.slice none 0 0)).length = t * 7 + y by show _ - 7 = _; omega]
    exact ssC_at (l := r) (t := t) (by simpa using h) y u hu
theorem PtAt.cell {B : Nat} {W : World} {q : Value} {p : List Sv} (h : PtAt B W q p) {t : Nat} (ht : t < p.length) (y : Nat) (u : Value) (hu : (s7 (p[t]'ht).1 (.slice none 0 0))[y]? = some u) : W.cell? ⟨L.blk q, t * 7 + y, none⟩ = some u := by
  have h1 := (own_Sl h).2.2 (t * 7 + y) u (ssC_at (l := p.map Prod.fst) (t := t) (by simpa using ht) y u (by simpa using hu))
  rw [Nat.zero_add] at h1
  exact h1
/-- Kinds and addresses of what was read. -/
theorem LvAt.see {B : Nat} {W : World} {v : Value} {l : List Cv} {xs : List (Value × Value × List Value)} (h : LvAt B W v l xs) : SeeAt W v (L.see l xs) := by
  have hl : (L.see l xs).length = l.length := by unfold L.see; rw [List.length_map, List.length_zip, h.len, Nat.min_self]
  obtain ⟨s1, s2, s3⟩ := own_Sl h.row
  refine ⟨blk v, 0, by rw [hl]; exact s1, fun i hi => ?_⟩
  have hi1 : i < l.length := by omega
  have hi2 : i < xs.length := by rw [h.len]; exact hi1
  obtain ⟨f1, f2⟩ := flat2 hi2
  have hc := h.cx i hi1 hi2
  obtain ⟨p1, p2, p3⟩ := own_Sl hc.ps
  have hq : (xs[i]'hi2).2.2.length = (l[i]'hi1).1.length := h.lens.2 i hi1 hi2
  have e : (L.see l xs)[i]'hi = ((l[i]'hi1).1.zip (xs[i]'hi2).2.2).map fun z => kaF (blk z.2) 0 z.1 := by
    simp [L.see, List.getElem_zip]
  have el : ((L.see l xs)[i]'hi).length = (l[i]'hi1).1.length := by rw [e, List.length_map, List.length_zip, hq, Nat.min_self]
  refine ⟨_, _, blk (xs[i]'hi2).1, 0, s3 _ _ f1, ?_, own_sl hc.cs, by rw [el]; exact p1, fun j hj => ?_⟩
  · have := s3 _ _ f2
    rw [← Nat.add_assoc] at this
    exact this
  · have hj1 : j < (l[i]'hi1).1.length := by omega
    obtain ⟨q, e1, hp⟩ := hc.pt j hj1
    obtain ⟨q1, q2, q3⟩ := own_Sl hp
    have hj2 : j < (xs[i]'hi2).2.2.length := by omega
    rw [List.getElem?_eq_getElem hj2] at e1
    have eq := Option.some.inj e1
    have e2 : ((L.see l xs)[i]'hi)[j]'hj = kaF (blk q) 0 ((l[i]'hi1).1[j]'hj1) := by
      simp only [e, List.getElem_map, List.getElem_zip, eq]
    have e3 : (((L.see l xs)[i]'hi)[j]'hj).length = ((l[i]'hi1).1[j]'hj1).length := by rw [e2, kaF_len]
    refine ⟨q, blk q, 0, ?_, by rw [e3]; exact q1, fun t ht => ?_⟩
    · refine p3 j q ?_
      rw [List.getElem?_eq_getElem hj2, eq]
    · have ht1 : t < ((l[i]'hi1).1[j]'hj1).length := by omega
      have e4 : (((L.see l xs)[i]'hi)[j]'hj)[t]'ht = ((((l[i]'hi1).1[j]'hj1)[t]'ht1).1.k, ⟨blk q, (0 + t) * 7, none⟩) := by
        simp only [e2]
        exact kaF_get _ 0 _ t _ ht1
      rw [e4]
      refine ⟨by simp, ?_⟩
      have := PtAt.cell hp ht1 0 _ rfl
      rw [Nat.zero_add]
      simpa using this
theorem ClAt.nil (W : World) : ClAt W (.slice none 0 0) [] :=
  .mk _ _ 0 0 (fun _ => .slice none 0 0) (fun _ => .slice none 0 0) (fun _ => 0) (fun _ => 0) (fun _ => 0) (fun _ => 0) (fun _ _ => .slice none 0 0) (fun _ _ => 0) (fun _ _ => 0) (fun _ _ _ => .slice none 0 0)
    ⟨none, 0, rfl, by simp, by decide, fun h => absurd h (by simp)⟩ (fun i h => absurd h (by simp)) (fun i h => absurd h (by simp)) (fun i h => absurd h (by simp)) (fun i h => absurd h (by simp)) (fun i h => absurd h (by simp)) (fun i h => absurd h (by simp)) (fun i h => absurd h (by simp)) (fun i h => absurd h (by simp))
theorem Sl.grow {W W' : World} {v : Value} {n b off : Nat} (h : Sl W v n b off) (hs : W.heap.size ≤ W'.heap.size) : Sl W' v n b off := by
  obtain ⟨a, cap, h1, h2, h3, h4⟩ := h
  exact ⟨a, cap, h1, h2, h3, fun h0 => ⟨(h4 h0).1, Nat.lt_of_lt_of_le (h4 h0).2 hs⟩⟩
theorem s7_other (s : S6) (a b : Value) {y : Nat} (hy : y ≠ 6) : (s7 s a)[y]? = (s7 s b)[y]? := by
  match y with
  | 0 => rfl
  | 1 => rfl
  | 2 => rfl
  | 3 => rfl
  | 4 => rfl
  | 5 => rfl
  | 6 => exact absurd rfl hy
  | y + 7 => rfl
/-- The list with its Lists, once each stands at its place. -/
theorem LvAt.fill {B : Nat} {W1 W' : World} {v : Value} {l : List Cv} {xs : List (Value × Value × List Value)} (h : LvAt B W1 v l xs) (hne : ∀ c ∈ l, ∀ p ∈ c.1, p ≠ []) (hs : W1.heap.size ≤ W'.heap.size)
    (hk : ∀ (b o : Nat) (c : Array Value) (T : TypeId), W1.heap[b]? = some (.cells c T (0, 0)) → T ≠ 44 → B ≤ b → (∀ x ∈ tks l xs, x.2.add 6 ≠ ⟨b, o, none⟩) → W'.cell? ⟨b, o, none⟩ = W1.cell? ⟨b, o, none⟩)
    (hx : ∀ x ∈ tks l xs, ∃ L u, parseZ x.1 = some L ∧ W'.cell? (x.2.add 6) = some u ∧ ClAt W' u L) {R : List Cx} (hR : allO (fC parseZ) l = some R) : ClAt W' v R := by
  obtain ⟨hRl, hRg⟩ := allO_get hR
  have hlens := h.lens
  -- who stands in a block of parts
  have hty : ∀ x ∈ tks l xs, ∃ p q t, PtAt B W1 q p ∧ ∃ ht : t < p.length, p ≠ [] ∧ lstB (p[t]'ht).1.k = true ∧ x.2.add 6 = ⟨blk q, t * 7 + 6, none⟩ := fun x hx => by
    obtain ⟨z, hz, hx⟩ := List.mem_flatMap.1 hx
    obtain ⟨i, hi, hi', j, hj, hj', rfl⟩ := prs_mem hz
    obtain ⟨t, ht, hls, rfl⟩ := tkF_mem hx
    obtain ⟨q, e, hp⟩ := (h.cx i hi hi').pt j hj
    rw [List.getElem?_eq_getElem hj'] at e
    have eq := Option.some.inj e
    simp only [eq]
    exact ⟨_, q, t, hp, ht, hne _ (List.getElem_mem hi) _ (List.getElem_mem hj), hls, by simp [Addr.add]⟩
  have hno : ∀ (g o : Nat) (c : Array Value) (T : TypeId), T ≠ 40 → W1.heap[g]? = some (.cells c T (0, 0)) → ∀ x ∈ tks l xs, x.2.add 6 ≠ ⟨g, o, none⟩ := fun g o c T hT hg x hx e => by
    obtain ⟨p, q, t, hp, ht, hpn, _, e2⟩ := hty x hx
    rw [e2] at e
    have hb : blk q = g := congrArg Addr.block e
    obtain ⟨_, _, _, cur, _, _, _, hc, _⟩ := PtAt.blk hp hpn
    rw [hb] at hc
    exact hT (ty_ne hg hc)
  -- rows of other types are as they were
  have hrow : ∀ {T : TypeId} {s n : Nat} {u : Value} {ys : List Value}, T ≠ 40 → T ≠ 44 → W1.ownsRow B T s u n ys → Sl W' u n (blk u) 0 ∧ ∀ j y, ys[j]? = some y → W'.cell? ⟨blk u, 0 + j, none⟩ = some y := fun {T s n u ys} hT hT3 ho => by
    obtain ⟨s1, s2, s3⟩ := own_Sl ho
    refine ⟨s1.grow hs, fun j y hy => ?_⟩
    have hn0 : 0 < n := by
      rcases Nat.eq_zero_or_pos n with e | e
      · have := (List.getElem?_eq_some_iff.1 hy).1
        rw [ho.1, e, Nat.zero_mul] at this
        omega
      · exact e
    obtain ⟨b1, _, c, b3⟩ := s2 hn0
    rw [hk _ _ c T b3 hT3 b1 (hno _ _ c T hT b3)]
    exact s3 j y hy
  obtain ⟨r1, r2⟩ := hrow (by decide) (by decide) h.row
  have key : ∀ i (hi : i < R.length), ∃ pv cv qs, (∃ hi' : i < xs.length, xs[i]'hi' = (pv, cv, qs)) ∧ (R[i]'hi).combs = (l[i]'(by omega)).2 ∧ CvAt B W1 pv cv (l[i]'(by omega)) qs ∧ allO (allO (fS parseZ)) (l[i]'(by omega)).1 = some (R[i]'hi).parts := fun i hi => by
    have hil : i < l.length := by omega
    have hix : i < xs.length := by rw [h.len]; exact hil
    obtain ⟨f1, f2⟩ := fC_get (hRg i hil hi)
    exact ⟨_, _, _, ⟨hix, rfl⟩, f1, h.cx i hil hix, f2⟩
  have qOf : ∀ i j, ∃ q : Value, ∀ (hi : i < xs.length) (hj : j < (xs[i]'hi).2.2.length), (xs[i]'hi).2.2[j]'hj = q := fun i j => by
    by_cases hi : i < xs.length
    · by_cases hj : j < (xs[i]'hi).2.2.length
      · exact ⟨(xs[i]'hi).2.2[j]'hj, fun _ _ => rfl⟩
      · exact ⟨.slice none 0 0, fun _ h => absurd h hj⟩
    · exact ⟨.slice none 0 0, fun h _ => absurd h hi⟩
  have xOf : ∀ i, ∃ x : Value × Value, ∀ (hi : i < xs.length), x = ((xs[i]'hi).1, (xs[i]'hi).2.1) := fun i => by
    by_cases hi : i < xs.length
    · exact ⟨((xs[i]'hi).1, (xs[i]'hi).2.1), fun _ => rfl⟩
    · exact ⟨(.slice none 0 0, .slice none 0 0), fun h => absurd h hi⟩
  have part : ∀ i (hi : i < R.length) j (hj : j < (R[i]'hi).parts.length), ∃ hil : i < l.length, ∃ hjl : j < (l[i]'hil).1.length, PtAt B W1 (Classical.choose (qOf i j)) ((l[i]'hil).1[j]'hjl) ∧ (l[i]'hil).1[j]'hjl ≠ [] ∧ ((R[i]'hi).parts[j]'hj).length = ((l[i]'hil).1[j]'hjl).length ∧ (∃ qs : List Value, (∃ hi' : i < xs.length, (xs[i]'hi').2.2 = qs) ∧ qs[j]? = some (Classical.choose (qOf i j))) ∧
      ∀ t (ht : t < ((R[i]'hi).parts[j]'hj).length) (ht' : t < ((l[i]'hil).1[j]'hjl).length), fS parseZ (((l[i]'hil).1[j]'hjl)[t]'ht') = some (((R[i]'hi).parts[j]'hj)[t]'ht) ∧ (lstB (((l[i]'hil).1[j]'hjl)[t]'ht').1.k = true → ((((l[i]'hil).1[j]'hjl)[t]'ht').2, (⟨blk (Classical.choose (qOf i j)), (0 + t) * 7, none⟩ : Addr)) ∈ tks l xs) := fun i hi j hj => by
    have hil : i < l.length := by omega
    have hix : i < xs.length := by rw [h.len]; exact hil
    obtain ⟨_, f2⟩ := fC_get (hRg i hil hi)
    obtain ⟨g1, g2⟩ := allO_get f2
    have hjl : j < (l[i]'hil).1.length := by omega
    have hjx : j < (xs[i]'hix).2.2.length := by rw [hlens.2 i hil hix]; exact hjl
    have hq := Classical.choose_spec (qOf i j) hix hjx
    obtain ⟨q, e, hp⟩ := (h.cx i hil hix).pt j hjl
    rw [List.getElem?_eq_getElem hjx, hq] at e
    cases e
    obtain ⟨k1, k2⟩ := allO_get (g2 j hjl hj)
    refine ⟨hil, hjl, hp, hne _ (List.getElem_mem hil) _ (List.getElem_mem hjl), k1, ⟨_, ⟨hix, rfl⟩, by rw [List.getElem?_eq_getElem hjx, hq]⟩, fun t ht ht' => ⟨k2 t ht' ht, fun hls => ?_⟩⟩
    refine List.mem_flatMap.2 ⟨_, prs_in hil hix hjl hjx, ?_⟩
    rw [hq]
    exact tkF_in ht' hls
  refine .mk v R (blk v) 0 (fun i => (Classical.choose (xOf i)).1) (fun i => (Classical.choose (xOf i)).2) (fun i => blk (Classical.choose (xOf i)).2) (fun _ => 0) (fun i => blk (Classical.choose (xOf i)).1) (fun _ => 0) (fun i j => Classical.choose (qOf i j)) (fun i j => blk (Classical.choose (qOf i j))) (fun _ _ => 0) (fun i j t => (W'.cell? ⟨blk (Classical.choose (qOf i j)), t * 7 + 6, none⟩).getD (.slice none 0 0)) (by rw [hRl]; exact r1) (fun i hi => ?_) (fun i hi => ?_) (fun i hi t ht => ?_) (fun i hi => ?_) (fun i hi j hj => ?_) (fun i hi j hj => ?_) (fun i hi j hj t ht y u hu => ?_) (fun i hi j hj t ht => ?_)
  · obtain ⟨pv, cv, qs, ⟨hix, e⟩, _⟩ := key i hi
    have hxo := Classical.choose_spec (xOf i) hix
    obtain ⟨f1, f2⟩ := flat2 hix
    simp only [hxo]
    refine ⟨r2 _ _ f1, ?_⟩
    have := r2 _ _ f2
    rw [← Nat.add_assoc] at this
    exact this
  · obtain ⟨pv, cv, qs, ⟨hix, e⟩, hcm, hcv, _⟩ := key i hi
    have hxo := Classical.choose_spec (xOf i) hix
    rw [e] at hxo
    simp only [hxo, hcm]
    exact (hrow (by decide) (by decide) hcv.cs).1
  · obtain ⟨pv, cv, qs, ⟨hix, e⟩, hcm, hcv, _⟩ := key i hi
    have hxo := Classical.choose_spec (xOf i) hix
    rw [e] at hxo
    simp only [hxo]
    refine (hrow (by decide) (by decide) hcv.cs).2 t _ ?_
    have ht' : t < (l[i]'(by omega)).2.length := by rw [← hcm]; exact ht
    rw [List.getElem?_map, List.getElem?_eq_getElem ht']
    simp only [hcm]
    rfl
  · obtain ⟨pv, cv, qs, ⟨hix, e⟩, _, hcv, hp⟩ := key i hi
    have hxo := Classical.choose_spec (xOf i) hix
    rw [e] at hxo
    simp only [hxo]
    rw [(allO_get hp).1]
    exact (hrow (by decide) (by decide) hcv.ps).1
  · obtain ⟨pv, cv, qs, ⟨hix, e⟩, _, hcv, hp⟩ := key i hi
    obtain ⟨hil, hjl, _, _, _, ⟨qs', ⟨_, e1⟩, e2⟩, _⟩ := part i hi j hj
    have hxo := Classical.choose_spec (xOf i) hix
    rw [e] at hxo e1
    simp only [hxo]
    rw [← e1] at e2
    exact (hrow (by decide) (by decide) hcv.ps).2 j _ e2
  · obtain ⟨hil, hjl, hp, _, hlen, _⟩ := part i hi j hj
    rw [hlen]
    exact (own_Sl hp).1.grow hs
  · obtain ⟨hil, hjl, hp, hpn, hlen, _, hall⟩ := part i hi j hj
    have ht' : t < ((l[i]'hil).1[j]'hjl).length := by omega
    obtain ⟨f1, _⟩ := fS_get (hall t ht ht').1
    obtain ⟨b1, _, _, cur, _, _, _, hcur, _⟩ := PtAt.blk hp hpn
    rw [Nat.zero_add]
    by_cases hy : y = 6
    · subst hy
      have hc6 : ∃ z, W'.cell? ⟨blk (Classical.choose (qOf i j)), t * 7 + 6, none⟩ = some z := by
        by_cases hmem : ∃ x ∈ tks l xs, x.2.add 6 = ⟨blk (Classical.choose (qOf i j)), t * 7 + 6, none⟩
        · obtain ⟨x, hxm, e⟩ := hmem
          obtain ⟨L, z, _, hz, _⟩ := hx x hxm
          rw [e] at hz
          exact ⟨z, hz⟩
        · refine ⟨.slice none 0 0, ?_⟩
          rw [hk _ _ cur 40 hcur (by decide) b1 (fun x hxm e => hmem ⟨x, hxm, e⟩)]
          exact PtAt.cell hp ht' 6 _ rfl
      obtain ⟨z, hz⟩ := hc6
      rw [hz] at hu
      cases hu
      exact hz
    · rw [hk _ _ cur 40 hcur (by decide) b1 (fun x hxm e => ?_)]
      · refine PtAt.cell hp ht' y u ?_
        rw [← f1, ← hu]
        exact s7_other _ _ _ hy
      · obtain ⟨p', q', t', _, _, _, _, e2⟩ := hty x hxm
        rw [e2] at e
        have ho : t' * 7 + 6 = t * 7 + y := congrArg Addr.off e
        have hyl : y < 7 := (List.getElem?_eq_some_iff.1 hu).1
        omega
  · obtain ⟨hil, hjl, hp, hpn, hlen, _, hall⟩ := part i hi j hj
    have ht' : t < ((l[i]'hil).1[j]'hjl).length := by omega
    obtain ⟨hf, hin⟩ := hall t ht ht'
    obtain ⟨b1, _, _, cur, _, _, _, hcur, _⟩ := PtAt.blk hp hpn
    rcases (fS_get hf).2 with ⟨hls, e⟩ | ⟨hls, e⟩
    · obtain ⟨L, z, h1, h2, h3⟩ := hx _ (hin hls)
      simp only [Addr.add_mid, Nat.zero_add] at h1 h2
      rw [e] at h1
      cases h1
      rw [h2]
      exact h3
    · rw [e, hk _ _ cur 40 hcur (by decide) b1 (fun x hxm e2 => ?_), PtAt.cell hp ht' 6 _ rfl]
      · exact ClAt.nil W'
      · obtain ⟨p', q', t', hp', ht2, hpn', hl2, e3⟩ := hty x hxm
        rw [e3] at e2
        have hb : blk q' = blk (Classical.choose (qOf i j)) := congrArg Addr.block e2
        have ho : t' * 7 + 6 = t * 7 + 6 := congrArg Addr.off e2
        have htt : t' = t := by omega
        subst htt
        have c1 := PtAt.cell hp' ht2 0 _ rfl
        have c2 := PtAt.cell hp ht' 0 _ rfl
        rw [hb, c2] at c1
        have hk2 : (((l[i]'hil).1[j]'hjl)[t']'ht').1.k = (p'[t']'ht2).1.k := by
          have := Option.some.inj c1
          injection this
        rw [← hk2, hls] at hl2
        cases hl2
end Go.Proofs.YtdibldcnklgcjaaGreatDoor.L
