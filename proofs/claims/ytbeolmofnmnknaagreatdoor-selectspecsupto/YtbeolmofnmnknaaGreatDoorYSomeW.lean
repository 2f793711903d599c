/- selector.Parse, whatever the values: the walk. append([][]T{}, xs...): whatever xs. Trees of values, and the slices that hold them. gouacheref03.Same of two slices that hold the same tree. gouacheref03.some: values up to what closes them, whatever the tokens. gouacheref03.some: the walk. -/
import Derived.Test.YtbeolmofnmnknaaGreatDoorLPa
import Derived.Test.YtbeolmofnmnknaaGreatDoorLPm
import Derived.Test.YtbeolmofnmnknaaGreatDoorLMz
import Derived.BigQuiet
import Derived.Deep.QuietTactic
import Derived.Deep.AppendLies
import Derived.Maps.AppendAt
import Derived.Deep.DeepCutAuto
namespace Go.Proofs.YtbeolmofnmnknaaGreatDoor.L
open Go.RowKit
set_option maxRecDepth 100000

theorem three {P : Nat → Prop} {w : World} {l : List Cv} {xs : List (Value × Value × List Value)} (hl : Lens l xs) {tsq : List (Value × Addr)} (hlen : tsq.length = (kidsL l).length)
    (h : ∀ i (h : i < tsq.length) (h' : i < ((tks l xs).map Prod.snd).length) (h'' : i < (kidsL l).length), (tsq[i]'h).2 = (((tks l xs).map Prod.snd)[i]'h').add 6 ∧ VsAt P w (tsq[i]'h).1 ((kidsL l)[i]'h'')) :
    ∃ n3 : List T3, rowC n3 = tsC tsq ∧ n3.length = tsq.length ∧ n3.map Prod.snd = (tks l xs).map (fun y => (y.1, y.2.add 6)) ∧ ∀ x ∈ n3, VsAt P w x.1 x.2.1 := by
  have hk := tks_kids l xs hl
  have htl : (tks l xs).length = (kidsL l).length := by rw [← hk, List.length_map]
  refine ⟨List.zipWith (fun y k => (y.1, k, y.2)) tsq (kidsL l), ?_, by rw [List.length_zipWith, hlen, Nat.min_self], ?_, fun x hx => ?_⟩
  · unfold rowC
    congr 1
    refine List.ext_getElem (by simp [hlen]) fun i h1 h2 => ?_
    simp
  · refine List.ext_getElem (by simp [hlen, htl]) fun i h1 h2 => ?_
    have hi1 : i < tsq.length := by simp [hlen] at h1; omega
    have hi2 : i < (tks l xs).length := by simpa using h2
    obtain ⟨e, _⟩ := h i hi1 (by simpa using hi2) (by omega)
    have e2 : (kidsL l)[i]'(by omega) = ((tks l xs)[i]'hi2).1 := by
      simp only [← hk, List.getElem_map]
    simp only [List.getElem_map, List.getElem_zipWith, e, e2]
  · obtain ⟨i, hi, rfl⟩ := List.mem_iff_getElem.1 hx
    have hi1 : i < tsq.length := by simp [hlen] at hi; omega
    obtain ⟨_, e⟩ := h i hi1 (by simp [htl]; omega) (by omega)
    rw [List.getElem_zipWith]
    exact e
theorem Rk.store {lo : Nat} {W0 w : World} {b : Nat} {ks : List (List V)} {vs : List V} (h : Rk lo W0 b ks vs w) {ag ao : Nat} (x : Value) (h1 : lo ≤ ag) (h2 : ag < b) : Rk lo (w.setCell ⟨ag, ao, none⟩ x) b ks vs (w.setCell ⟨ag, ao, none⟩ x) := by
  obtain ⟨kids, cs, ⟨⟨rest, a1, a2⟩, _⟩, a3, a4⟩ := h.rd
  have hst : ∀ {v l}, VsAt (· < min lo b) w v l → VsAt (· < min lo b) (w.setCell ⟨ag, ao, none⟩ x) v l := fun q => q.stay (by simp) fun j hj _ => heap_ne (by omega)
  exact ⟨⟨kids, cs, ⟨⟨rest, (heap_ne (by omega)).trans a1, hst a2⟩, KeepX.of (Below.refl _ _)⟩, own_stay a3 fun g _ hB _ => heap_ne (by omega), fun i hi => (a4 i hi).imp fun v q => ⟨q.1, hst q.2⟩⟩, .refl _ _⟩
theorem rowC_at (init : List T3) (x : T3) : (rowC (init ++ [x]))[init.length * 2]? = some x.1 ∧ (rowC (init ++ [x]))[init.length * 2 + 1]? = some (.pointer (some x.2.2)) := by
  have hl := rowC_len init
  rw [rowC_append]
  constructor
  · rw [List.getElem?_append_right (by omega), hl, Nat.sub_self]
    rfl
  · rw [List.getElem?_append_right (by omega), hl, show init.length * 2 + 1 - init.length * 2 = 1 by omega]
    rfl
theorem rowC_take (init : List T3) (x : T3) : (rowC (init ++ [x])).take (init.length * 2) = rowC init := by
  rw [rowC_append, ← rowC_len init, List.take_left]
theorem step_append_nil {ops : Array Oper} {o : Oper} {a : Act} {K : Act → World → Prop} {Q : Exit → Act → World → Prop} {E : Prop} {w : World} (hgd : o.guard = none) (s x : Operand) (ho : o.op = .call { callee := .builtin .append, args := #[s, x], argTypes := #[66, 66] })
    {g n cap : Nat} (hs : a.eval s = .slice (some ⟨g, 0, none⟩) n cap) (hx : a.eval x = .slice none 0 0) (hn : n ≤ cap) (h : K (a.put o.dst (.slice (some ⟨g, 0, none⟩) n cap)) w) : if Region.wanted o (yielded ops a.tmps) = true then Oper.wp Tryz.prog o a w K Q else E := by
  have hw : Region.wanted o (yielded ops a.tmps) = true := by simp [Region.wanted, hgd]
  rw [if_pos hw]
  unfold Oper.wp execOp
  simp only [ho, resolve, invoke, builtin, Sem.run_bind, Sem.run_pure, Result.andThen_ok, List.map_toArray, List.map_cons, List.map_nil, hs, hx, run_append_nil w o.type g n cap hn]
  exact h
theorem rowC_one (n3 : List T3) : ∀ u ∈ rowC n3, (∀ x ∈ n3, x.1.oneCell' = true) → u.oneCell' = true := fun u hu h => by
  unfold rowC tsC at hu
  obtain ⟨y, hy, hu⟩ := List.mem_flatMap.1 hu
  obtain ⟨x, hx, rfl⟩ := List.mem_map.1 hy
  simp only [List.mem_cons, List.not_mem_nil, or_false] at hu
  rcases hu with rfl | rfl
  · exact h x hx
  · rfl
theorem VsAt_one {O : Nat} {w3 w5 : World} {n3 : List T3} (h : ∃ wq, Below w3.heap.size w3 wq ∧ wq.heap.size ≤ w5.heap.size ∧ ∀ x ∈ n3, VsAt (· < O) wq x.1 x.2.1) : ∀ x ∈ n3, x.1.oneCell' = true := fun x hx => by
  obtain ⟨wq, _, _, h⟩ := h
  obtain ⟨a, c, e, _⟩ := (h x hx).slice
  rw [e]
  rfl
theorem grown_self (w : World) (r : Option Nat) : w.grownBy w r := ⟨rfl, rfl, rfl, Nat.le_refl _, fun _ _ _ => rfl⟩

set_option maxHeartbeats 2000000 in
theorem parse_any {W : World} {v : Value} {P : Nat → Prop} {vs : List V} (hv : VsAt P W v vs) (hsg : Signs W) (hf : Fit vs) (hcn : cntL vs ≤ 500000) : Calls Tryz.prog 14 #[v] W (PzPost W (parseZ vs)) := by
  obtain ⟨a, cap, rfl, hc1, hc2⟩ := hv.slice
  obtain ⟨i0, z0, hi0, hz0, hz1, hz2, hz3⟩ := info71
  obtain ⟨W1, hW1⟩ : ∃ W1, W1 = (W.alloc (.cells #[.slice none 0 0] 22)).alloc (.cells #[.slice a vs.length cap, .pointer (some ⟨W.heap.size, 0, none⟩)] 65) := ⟨_, rfl⟩
  have hB1 : Below W.heap.size W W1 := by rw [hW1]; exact ((Below.refl _ _).alloc (Nat.le_refl _) _).alloc (by simp) _
  have x0 : W1.heap[W.heap.size]? = some (.cells #[.slice none 0 0] 22 (0, 0)) := by
    rw [hW1, Below.heap_alloc _ _ _ (by simp)]
    exact heap_alloc_last W _
  have x1 : W1.heap[W.heap.size + 1]? = some (.cells #[.slice a vs.length cap, .pointer (some ⟨W.heap.size, 0, none⟩)] 65 (0, 0)) := by
    have e : W.heap.size + 1 = (W.alloc (.cells #[.slice none 0 0] 22)).heap.size := by simp
    rw [hW1, e]
    exact heap_alloc_last _ _
  have hS1 : W1.heap.size = W.heap.size + 2 := by rw [hW1]; simp
  have HGO : Hid (PaGo W (parseZ vs) [(.slice a vs.length cap, vs, ⟨W.heap.size, 0, none⟩)] (fun b => b = W.heap.size) (.slice (some ⟨W.heap.size + 1, 0, none⟩) 1 1) W1) := by
    refine ⟨⟨rfl, .inr ⟨_, 1, _, rfl, Nat.le_refl _, x1, Nat.le_refl _, by decide, rfl, rfl⟩⟩, fun x hx => ?_, hB1, List.pairwise_singleton _ _, fun x hx => ?_, fun b hb => ?_, ⟨rfl, _, x0, rfl, _, _, _, rfl⟩, fun hR => ⟨_, List.mem_singleton.2 rfl, hR⟩, fun R hR => ⟨fun x hx => ?_, fun W' _ _ hts => ?_⟩, ?_⟩
    · rw [List.mem_singleton.1 hx]
      exact ⟨(hv.wider fun g _ hl => hl).keep hB1, hf⟩
    · rw [List.mem_singleton.1 hx]
      exact ⟨rfl, ⟨_, _, rfl⟩, _, 22, x0, Nat.one_pos, .inl rfl⟩
    · subst hb
      refine ⟨Nat.le_refl _, by omega, ?_, fun c fr e => ?_⟩
      · intro e
        have : W.heap.size + 1 = W.heap.size := Option.some.inj e
        omega
      · have := ty_ne x0 e
        cases this
    · rw [List.mem_singleton.1 hx]
      exact ⟨R, hR⟩
    · obtain ⟨L, u, h1, h2, h3⟩ := hts _ (List.mem_singleton.2 rfl)
      simp only [] at h1 h2
      rw [hR] at h1
      cases h1
      exact ⟨u, h2, h3⟩
    · simp [wgt]
      omega
  have HSG : Hid (∀ w, Below W.heap.size W w → Signs w) := fun w h => hsg.keep h
  have hsb : sgB < W.heap.size := hsg.lt (j := 0) rfl
  have HW1 := hid_mk hW1
  have HCN := hid_mk hcn
  generalize parseZ vs = R0 at *
  clear hv hf hsg hB1 x0 x1 hS1 hW1 hcn
  go_enter Tryz.func14, Tryz.ntmps14
  go_wp2_with (fail)
  rw [← HW1.out]
  clear HW1
  go_loopg [5] 600000 (fun k a5 wq => ∃ (g n cp : Nat) (ts : List T3) (S : Nat → Prop), a5 = .slice (some ⟨g, 0, none⟩) n cp ∧ Hid (n = ts.length) ∧ Hid (wgt ts < k) ∧ Hid (PaGo W R0 ts S (.slice (some ⟨g, 0, none⟩) n cp) wq))
  case atStart => exact ⟨_, _, _, [(.slice a vs.length cap, vs, ⟨W.heap.size, 0, none⟩)], _, rfl, hid_mk rfl, hid_mk (by have := HGO.out.cnt; omega), HGO⟩
  case round =>
    clear HGO
    obtain ⟨g, n, cp, ts, S, rfl, HN, HWG, HGO⟩ := hrel
    rcases List.eq_nil_or_concat ts with hts | ⟨init, x, hts⟩
    · subst hts
      have hn0 : n = 0 := HN.out
      subst hn0
      obtain ⟨hSO, c, hc, _, ua, un, uc, hc0⟩ := HGO.out.out
      have k0 : wr.cell? ⟨W.heap.size, 0, none⟩ = some (.slice ua un uc) := (cellAt hc 0).trans hc0
      have HZ : Hid (PzPost W R0 (.returned (.tuple #[.slice ua un uc, .bool true])) wr) := by
        cases hR : R0 with
        | none =>
          obtain ⟨x, hx, _⟩ := HGO.out.bad hR
          cases hx
        | some R =>
          obtain ⟨_, h2⟩ := HGO.out.good R hR
          obtain ⟨u, h3, h4⟩ := h2 wr (Nat.le_refl _) (fun _ _ _ _ => rfl) (fun x hx => by cases hx)
          rw [k0] at h3
          cases h3
          exact ⟨_, rfl, h4, HGO.out.low⟩
      clear hc hc0 HGO HN HWG HSG
      go_wp2
      go_ret2
      exact HZ.out
    · rw [List.concat_eq_append] at hts
      subst hts
      obtain ⟨xv, xvs, xA⟩ := x
      obtain ⟨m, hm⟩ : ∃ m, m = init.length := ⟨_, rfl⟩
      have hn1 : n = m + 1 := by rw [HN.out, hm]; simp
      subst hn1
      have hx : ((xv, xvs, xA) : T3) ∈ init ++ [(xv, xvs, xA)] := by simp
      obtain ⟨hvx, hfx⟩ := HGO.out.vals _ hx
      obtain ⟨hSA, ⟨ag, ao, hA⟩, cur, T, hag, hao, hT⟩ := HGO.out.at' _ hx
      simp only [] at hvx hfx hSA hA hag hao
      subst hA
      simp only [] at hSA hag hao
      obtain ⟨sa, sc, rfl, hs1, hs2⟩ := hvx.slice
      obtain ⟨hO1, hO2, hO3, hO4⟩ := HGO.out.inS ag hSA
      obtain ⟨r1, r2⟩ := rowC_at init (.slice sa xvs.length sc, xvs, ⟨ag, ao, none⟩)
      have hrow : wr.ownsRow (W.heap.size + 1) 65 2 (.slice (some ⟨g, 0, none⟩) (m + 1) cp) (m + 1) (rowC (init ++ [(.slice sa xvs.length sc, xvs, ⟨ag, ao, none⟩)])) := by
        have h1 := HGO.out.row
        rw [← HN.out] at h1
        exact h1
      have c1 := own_news hrow _ _ r1
      have c2 := own_news hrow _ _ r2
      rw [Addr.add_mid, Nat.zero_add, ← hm] at c1 c2
      have hmc : m + 1 ≤ cp ∧ cp ≤ 9223372036854775807 := by
        rcases hrow.2 with ⟨e, _⟩ | ⟨g', cap', cur', e, h1, h2, h3, h4, _⟩
        · cases e
        · cases e
          exact ⟨h3, h4⟩
      have hml : m ≤ 600000 := by
        have h1 := HGO.out.cnt
        have h2 := wgt_len (init ++ [((.slice sa xvs.length sc, xvs, ⟨ag, ao, none⟩) : T3)])
        rw [List.length_append] at h2
        omega
      obtain ⟨w1, hw1⟩ : ∃ w1, w1 = (wr.alloc (.cells #[.slice sa xvs.length sc, .pointer (some ⟨ag, ao, none⟩)] 65)).alloc (.cells #[.slice sa xvs.length sc, .slice none 0 0] 69) := ⟨_, rfl⟩
      have hB1 : Below wr.heap.size wr w1 := by rw [hw1]; exact ((Below.refl _ _).alloc (Nat.le_refl _) _).alloc (by simp) _
      have hsz1 : w1.heap.size = wr.heap.size + 2 := by rw [hw1]; simp
      have y0 : w1.heap[wr.heap.size]? = some (.cells #[.slice sa xvs.length sc, .pointer (some ⟨ag, ao, none⟩)] 65 (0, 0)) := by
        rw [hw1, Below.heap_alloc _ _ _ (by simp)]
        exact heap_alloc_last wr _
      have y1 : w1.heap[wr.heap.size + 1]? = some (.cells #[.slice sa xvs.length sc, .slice none 0 0] 69 (0, 0)) := by
        have e : wr.heap.size + 1 = (wr.alloc (.cells #[.slice sa xvs.length sc, .pointer (some ⟨ag, ao, none⟩)] 65)).heap.size := by simp
        rw [hw1, e]
        exact heap_alloc_last _ _
      have hWw : Below W.heap.size W w1 := HGO.out.low.trans (hB1.mono HGO.out.low.size)
      have hRk : Rk W.heap.size w1 (wr.heap.size + 1) [] xvs w1 :=
        ⟨⟨.slice none 0 0, [], ⟨⟨_, y1, (hvx.keep hB1).wider fun g hg _ => by omega⟩, KeepX.of (Below.refl _ _)⟩, ⟨rfl, .inl ⟨rfl, rfl⟩⟩, fun i hi => absurd hi (by simp)⟩, .refl _ _⟩
      have hli := list_any hRk (HSG.out w1 hWw) (by have := HGO.out.low.size; omega) hfx (by have := hfx.len; simp; omega)
      have HM := hid_mk hm
      have HW1 := hid_mk hw1
      have HB1 := hid_mk hB1
      have HS1 := hid_mk hsz1
      have HY0 := hid_mk y0
      have HAG := hid_mk hag
      have HFX := hid_mk hfx
      have hgl := hrow.lt g rfl
      have hgt : ∃ c, wr.heap[g]? = some (.cells c 65 (0, 0)) := (own_at hrow rfl).2
      have hown0 : wr.ownsRow (W.heap.size + 1) 65 2 (.slice (some ⟨g, 0, none⟩) m cp) m (rowC init) := by
        have h1 := own_take (m := m) hrow (by omega)
        rw [hm, rowC_take] at h1
        rw [← hm] at h1
        exact h1
      have HOWN0 := hid_mk hown0
      have HGT := hid_mk hgt
      have HWW := hid_mk hWw
      obtain ⟨lr, hlr⟩ : ∃ lr, lr = lsZ xvs := ⟨_, rfl⟩
      have hpz := parseZ_step xvs
      rw [← hlr] at hli hpz
      have HPZ := hid_mk hpz
      have HLR := hid_mk hlr
      have hwrap : IntKind.i64.wrap (((m + 1 : Nat) : Int) - 1) = (m : Int) := by rw [IntKind.wrap_i64] <;> omega
      have hpos : (0 : Int) < ((m + 1 : Nat) : Int) := by omega
      have hlt1 : (m : Int) < ((m + 1 : Nat) : Int) := by omega
      have hle1 : (m : Int) ≤ (cp : Int) := by omega
      have hag1 : ag ≠ g := fun e => hO3 (by rw [e]; rfl)
      clear hm hw1 hB1 y0 y1 hvx hfx hag hRk hWw r1 r2 hx hlr hpz hrow hown0 hgt
      have x2' : ∀ w2 : World, KeepT (wr.heap.size + 1) w1 w2 → w2.heap[wr.heap.size]? = some (.cells #[.slice sa xvs.length sc, .pointer (some ⟨ag, ao, none⟩)] 65 (0, 0)) ∧ w2.heap[ag]? = some (.cells cur T (0, 0)) ∧ w2.heap[g]? = wr.heap[g]? := fun w2 hK => by
        have h1 := HS1.out
        have hne31 : T ≠ 50 := by rcases hT with e | e <;> rw [e] <;> decide
        refine ⟨(hK.typ _ (by omega) (by omega) (.inr fun c fr e => ?_)).trans HY0.out, ?_, ?_⟩
        · have := ty_ne HY0.out e
          cases this
        · have e1 := HB1.out.block ag hO2
          rw [hK.typ _ (by omega) (by omega) (.inr fun c fr e => ?_), e1, HAG.out]
          rw [e1] at e
          exact hne31 (ty_ne HAG.out e)
        · obtain ⟨c, hc⟩ := HGT.out
          have e1 := HB1.out.block g hgl.2
          rw [hK.typ _ (by omega) (by omega) (.inr fun c fr e => ?_), e1]
          rw [e1] at e
          have := ty_ne hc e
          cases this
      have HX2 := hid_mk x2'
      clear x2'
      cases lr with
      | none =>
        have HR : Hid (R0 = none) := by
          cases hR : R0 with
          | none => exact rfl
          | some R =>
            obtain ⟨L, hL⟩ := (HGO.out.good R hR).1 _ (by simp : ((.slice sa xvs.length sc, xvs, ⟨ag, ao, none⟩) : T3) ∈ _)
            simp only [] at hL
            rw [HPZ.out] at hL
            cases hL
        clear HPZ HGO HX2 HOWN0 HGT HN HWG HLR
        go_wp2_with (go_at_call 22; fail)
        rw [← HW1.out]
        refine hli.mono ?_
        rintro e w2 ⟨rfl, hkp⟩
        have HBZ : Hid (Below W.heap.size W w2) := HWW.out.trans ((hkp.low (by have := HS1.out; omega)).mono (by omega))
        clear hli hkp HW1
        go_wp2
        go_ret2
        rw [HR.out]
        exact ⟨rfl, HBZ.out⟩
      | some l =>
      go_wp2_with (go_at_call 22; fail)
      rw [← HW1.out]
      refine hli.mono ?_
      rintro e w2 ⟨v, xs, rfl, hlv, hrk⟩
      obtain ⟨va, vn, vc, rfl⟩ := own_sl hlv.row
      rw [List.nil_append] at hrk
      obtain ⟨z0', z1', z2'⟩ := HX2.out w2 hrk.keep
      obtain ⟨d0, d1, _, _⟩ := cells2 z0'
      have ca : w2.cell? ⟨ag, ao, none⟩ = some (cur[ao]'hao) := by rw [cellAt z1' ao]; simp [hao]
      have fa : w2.frozen? ⟨ag, ao, none⟩ = false := by simp [World.frozen?, z1']
      obtain ⟨w3, hw3⟩ : ∃ w3, w3 = w2.setCell ⟨ag, ao, none⟩ (.slice va vn vc) := ⟨_, rfl⟩
      have hrk3 : Rk W.heap.size w3 (wr.heap.size + 1) (kidsL l) [] w3 := by rw [hw3]; exact hrk.store _ hO1 (by omega)
      have hlv3 : LvAt w1.heap.size w3 (.slice va vn vc) l xs := by rw [hw3]; exact hlv.stayT fun T' g' c _ hg' hB => heap_ne (by have := HS1.out; omega)
      have hkl : (kidsL l).length ≤ 100000 := by
        have h1 := (lsZ_sub _ xvs (Nat.le_refl _) l HLR.out.symm).length_le
        have h2 := HFX.out.len
        simp at h1
        omega
      have hlens := hlv.lens
      have hown3 : w3.ownsRow (W.heap.size + 1) 65 2 (.slice (some ⟨g, 0, none⟩) m cp) m (rowC init) := by
        refine own_stay HOWN0.out fun g' _ _ e => ?_
        cases e
        rw [hw3, heap_ne (fun e => hag1 e.symm), z2']
      have HTK : Hid (∀ w', Below w3.heap.size w3 w' → Calls Tryz.prog 23 #[.pointer (some ⟨wr.heap.size + 1, 0, none⟩), .slice va vn vc] w' fun e w'' => ∃ (u : Value) (n3 : List T3), e = .returned u ∧ (kidsL l = [] → u = .slice none 0 0) ∧ w''.ownsRow w3.heap.size 65 2 u n3.length (rowC n3) ∧ n3.length = (kidsL l).length ∧ n3.map Prod.snd = (tks l xs).map (fun y => (y.1, y.2.add 6)) ∧ (∃ wq, Below w3.heap.size w3 wq ∧ wq.heap.size ≤ w''.heap.size ∧ ∀ x ∈ n3, VsAt (· < W.heap.size) wq x.1 x.2.1) ∧ Below w3.heap.size w3 w'') := fun w' hB => by
        have hlv' := hlv3.keep hB
        have hA : ((tks l xs).map Prod.snd).length = (kidsL l).length := by rw [List.length_map, ← tks_kids l xs hlens, List.length_map]
        have hw := within_77 (f := lstB) (fun w k => listed_any w k) hlv'.see (by rw [see_sel, hA]; omega)
        rw [see_sel] at hw
        refine (tasks_any (hrk3.then hB) hw hA (by omega)).mono ?_
        rintro e w'' ⟨u, tsq, rfl, hnil, htr, htl, hti, hBu⟩
        obtain ⟨n3, a1, a2, a3, a4⟩ := three hlens htl hti
        refine ⟨u, n3, rfl, hnil, ?_, by rw [a2, htl], a3, ⟨w', hB, hBu.size, fun x hx => (a4 x hx).wider fun g hg _ => by omega⟩, hB.trans (hBu.mono hB.size)⟩
        rw [a1, a2]
        exact own_from htr hB.size
      have HNX : Hid (∀ (w5 w6 : World) (v6 : Value) (n3 : List T3), Below w3.heap.size w3 w5 → (∃ wq, Below w3.heap.size w3 wq ∧ wq.heap.size ≤ w5.heap.size ∧ ∀ x ∈ n3, VsAt (· < W.heap.size) wq x.1 x.2.1) → w5.grownBy w6 (some g) → (v6.ownBlock = some g ∨ ∃ k, v6.ownBlock = some k ∧ w5.heap.size ≤ k) → w6.ownsRow (W.heap.size + 1) 65 2 v6 (m + n3.length) (rowC init ++ rowC n3) → n3.map Prod.snd = (tks l xs).map (fun y => (y.1, y.2.add 6)) → ∃ ts S, m + n3.length = ts.length ∧ wgt ts < wgt (init ++ [((.slice sa xvs.length sc, xvs, ⟨ag, ao, none⟩) : T3)]) ∧ PaGo W R0 ts S v6 w6) := fun w5 w6 v6 n3 h1 ⟨wq, h2, h3, h4⟩ h5 h6 h7 h8 => by
        obtain ⟨p1, p2⟩ := PaGo.next HGO.out HM.out.symm HB1.out HS1.out hrk.keep hlv ⟨_, _, _, rfl⟩ HLR.out.symm hw3 h1 h2 h3 h5 h6 h7 h8 h4
        exact ⟨_, _, by rw [List.length_append, HM.out], p2, p1⟩
      have HOW : Hid (∀ w', Below w3.heap.size w3 w' → w'.ownsRow (W.heap.size + 1) 65 2 (.slice (some ⟨g, 0, none⟩) m cp) m (rowC init)) := fun w' hB => own_stayT hown3 fun g c hc _ => hB.block g (Array.getElem?_eq_some_iff.1 hc).1
      have HW3 := hid_mk hw3
      have gd : Below w3.heap.size w3 w3.drew := (Below.refl _ _).drew
      have gr : Below w3.heap.size w3 w3 := Below.refl _ _
      have hszW : W.heap.size + 1 ≤ w3.heap.size := by
        have h1 := HS1.out
        have h2 := hrk.keep.size
        rw [hw3]
        simp
        omega
      clear hli hlv hrk z0' z1' z2' hw3 hrk3 hlv3 hlens hown3 HX2 HOWN0 HGT HPZ HGO HLR HFX HY0 HAG HB1 HS1 HWW HSG HW1
      go_upto_region 11 with (fail)
      rw [← HW3.out]
      clear HW3 ca fa d0 d1 c1 c2
      by_cases hk : kidsL l = []
      · go_region_law (first
          | (go_simp; go_at_call 23; refine (HTK.out _ ?_).mono ?_; assumption; rintro e w5 ⟨u5, n3, rfl, hnil, ho5, hl5, hs5, hq5, gg5⟩; have hu5 := hnil hk; subst hu5)
          | (refine step_append_nil (by rfl) _ _ (by rfl) (by rfl) (by rfl) (by omega) ?_))
        all_goals
          have hn30 : n3 = [] := List.length_eq_zero_iff.1 (by rw [hl5, hk]; rfl)
          subst hn30
          obtain ⟨ts', S', b1, b2, b3⟩ := HNX.out w5 w5 (.slice (some ⟨g, 0, none⟩) m cp) [] gg5 hq5 (grown_self _ _) (.inl rfl) (by rw [show rowC [] = [] from rfl, List.append_nil]; exact HOW.out w5 gg5) hs5
          have HA1 := hid_mk b1
          have HA2 := hid_mk b2
          have HA3 := hid_mk b3
          clear hnil ho5 hl5 hs5 hq5 b1 b2 b3 gg5 HNX HOW HTK gd gr
          go_wp2
          go_roundg (wgt (init ++ [((.slice sa xvs.length sc, xvs, ⟨ag, ao, none⟩) : T3)]))
          case measure => exact HWG.out
          case rel => exact ⟨_, _, _, ts', S', rfl, HA1, HA2, HA3⟩
      · go_region_law (first
          | (go_simp; go_at_call 23; refine (HTK.out _ ?_).mono ?_; assumption; rintro e w5 ⟨u5, n3, rfl, hnil, ho5, hl5, hs5, hq5, gg5⟩; have hp5 : 0 < n3.length := (by rw [hl5]; exact List.length_pos_iff.2 hk); obtain ⟨ad, c5, hu5⟩ := own_len ho5 hp5; subst hu5; obtain ⟨q, hq⟩ : ∃ q, q = n3.length := ⟨_, rfl⟩; rw [← hq] at ho5 hp5 hl5 ⊢; have hq1 : q ≤ 100000 := (by omega); have HQ := hid_mk hq; clear hl5 hq; have hnw := own_news ho5; have hown := HOW.out w5 gg5; have hge := gg5.size)
          | (refine step_append_lies _ (by rfl) _ _ _ (by rfl) (W.heap.size + 1) 65 i0 z0 2 32 Tryz.underlying66 hi0 hz0 hz1 hz2 hz3 (by omega) (.slice (some ⟨g, 0, none⟩) m cp) m (rowC init) (by rfl) hown
              ad q c5 (rowC n3) (by rfl) (by rw [rowC_len, HQ.out]) hnw (fun u hu => rowC_one n3 u hu (VsAt_one hq5)) hp5 (by unfold maxLen; omega) (by omega) (by omega) w5.heap.size rfl ?_
             intro gg6 cap6 w6 hown6 hgrow6 hgat6 hglt6))
        all_goals
          have hg6 : (Value.slice (some ⟨gg6, 0, none⟩) (m + q) cap6).ownBlock = some g ∨ ∃ k, (Value.slice (some ⟨gg6, 0, none⟩) (m + q) cap6).ownBlock = some k ∧ w5.heap.size ≤ k := by
            rcases hgat6 with e | e
            · exact .inl e.symm
            · exact .inr ⟨gg6, rfl, Nat.le_of_eq e.symm⟩
          obtain ⟨ts', S', b1, b2, b3⟩ := HNX.out w5 w6 (.slice (some ⟨gg6, 0, none⟩) (m + q) cap6) n3 gg5 hq5 hgrow6 hg6 (by rw [← HQ.out]; exact hown6) hs5
          rw [← HQ.out] at b1
          have HA1 := hid_mk b1
          have HA2 := hid_mk b2
          have HA3 := hid_mk b3
          clear hnil ho5 hs5 hq5 b1 b2 b3 gg5 HNX HOW HTK gd gr hnw hown hown6 hgrow6 hgat6 hglt6 hg6
          go_wp2
          go_roundg (wgt (init ++ [((.slice sa xvs.length sc, xvs, ⟨ag, ao, none⟩) : T3)]))
          case measure => exact HWG.out
          case rel => exact ⟨_, _, _, ts', S', rfl, HA1, HA2, HA3⟩
end Go.Proofs.YtbeolmofnmnknaaGreatDoor.L
namespace Go.Proofs.YtbeolmofnmnknaaGreatDoor.L
open Go.RowKit
set_option maxRecDepth 100000

theorem info37 : ∃ i z, Tryz.prog.info? 37 = some i ∧ i.zero = some z ∧ i.size = 1 ∧ i.bytes = 24 ∧ z.cells.size = 1 := ⟨_, _, by rfl, by rfl, by rfl, by rfl, by rfl⟩
theorem run_append_none (w : World) (ty : TypeId) (g c : Nat) : (Builtin.append_ #[23, 23] ty #[.slice (some ⟨g, 0, none⟩) 0 0, .slice none 0 c]).run Tryz.prog w = .ok (.slice (some ⟨g, 0, none⟩) 0 0) w := by
  obtain ⟨i0, z0, hi, _⟩ := info37
  simp [Builtin.append_, run_underlying Tryz.underlying23, sizeOf, typeInfo, hi, Builtin.lenOf, Builtin.firstCells, storeCells]
theorem wpList_append_sl {ops : Array Oper} {rest : List Oper} {o : Oper} {a : Act} {Q : Exit → Act → World → Prop} {w : World} (hgd : o.guard = none) (s x : Operand)
    (ho : o.op = .call { callee := .builtin .append, args := #[s, x], argTypes := #[23, 23] }) (B g : Nat) (hs : a.eval s = .slice (some ⟨g, 0, none⟩) 0 0) (hown : w.ownsRow B 37 1 (.slice (some ⟨g, 0, none⟩) 0 0) 0 [])
    (pa : Option Addr) (n c : Nat) (qs : List Value) (hx : a.eval x = .slice pa n c) (hq : qs.length = n) (hn : 0 < n → ∃ ad, pa = some ad ∧ ∀ j u, qs[j]? = some u → w.cell? (ad.add j) = some u) (h1 : ∀ u ∈ qs, u.oneCell' = true) (hn2 : n ≤ 1000000) (hB : B ≤ w.heap.size)
    (h : ∀ v' w', w'.ownsRow B 37 1 v' n qs → w.grownBy w' (some g) → wpList Tryz.prog ops Q rest (a.put o.dst v') w') : wpList Tryz.prog ops Q (o :: rest) a w := by
  cases pa with
  | none =>
    have h0 : n = 0 := by
      cases n with
      | zero => rfl
      | succ n =>
        obtain ⟨ad, e, _⟩ := hn (by omega)
        cases e
    subst h0
    have hq0 : qs = [] := List.length_eq_zero_iff.1 hq
    subst hq0
    refine wpList_plain hgd fun K hK => ?_
    unfold Oper.wp execOp
    simp only [ho, resolve, invoke, builtin, Sem.run_bind, Sem.run_pure, Result.andThen_ok, List.map_toArray, List.map_cons, List.map_nil, hs, hx, run_append_none]
    exact hK _ _ (h _ w hown (grown_self w _))
  | some ad =>
    obtain ⟨i0, z0, hi, hz0, hz1, hz2, hz3⟩ := info37
    refine wpList_append_own w hgd s x 23 ho B 37 i0 z0 1 24 Tryz.underlying23 hi hz0 hz1 hz2 hz3 (by decide) _ 0 [] hs hown ad n c qs hx (by omega) ?_ h1 (by unfold maxLen; omega) (by omega) hB fun v' w' h2 h3 _ => ?_
    · intro j u hu
      have hlt := (List.getElem?_eq_some_iff.1 hu).1
      obtain ⟨ad', e, h4⟩ := hn (by omega)
      cases e
      exact h4 j u hu
    · rw [Nat.zero_add, List.nil_append] at h2
      exact h v' w' h2 h3
theorem own_base {w : World} {B : Nat} {T : TypeId} {s n : Nat} {v : Value} {xs : List Value} (h : w.ownsRow B T s v n xs) : ∀ k, v.ownBlock = some k → B ≤ k ∧ ∃ c, w.heap[k]? = some (.cells c T (0, 0)) := fun k e => by
  rcases h.2 with ⟨rfl, _⟩ | ⟨g, cap, cur, rfl, hB, hg, _⟩
  · cases e
  · cases e
    exact ⟨hB, _, hg⟩
theorem parts_len {c : Cx} {N : Nat} (h : ∀ d, wt d [c] ≤ N) : c.parts.length ≤ N := by
  have h1 := h 1
  have h2 : wt 1 [c] = 1 + c.combs.length + (c.parts.map (wtP (wt 0))).sum := by
    show (List.map (wtC (wt 0)) [c]).sum = _
    simp [wtC]
  have h3 : ∀ q : List (List (S6 × List Cx)), q.length ≤ (q.map (wtP (wt 0))).sum := by
    intro q
    induction q with
    | nil => exact Nat.le_refl _
    | cons a r ih =>
      simp only [List.length_cons, List.map_cons, List.sum_cons]
      have : 1 ≤ wtP (wt 0) a := by unfold wtP; omega
      omega
  have := h3 c.parts
  omega
end Go.Proofs.YtbeolmofnmnknaaGreatDoor.L
namespace Go.Proofs.YtbeolmofnmnknaaGreatDoor.Y
open Go.RowKit
open Go.Proofs.YtbeolmofnmnknaaGreatDoor.L (T5 V VsAt t5Cells vCells cell_of_heap)
set_option maxRecDepth 100000

end Go.Proofs.YtbeolmofnmnknaaGreatDoor.Y
namespace Go.Proofs.YtbeolmofnmnknaaGreatDoor.Y
open Go.RowKit
open Go.Proofs.YtbeolmofnmnknaaGreatDoor.L (T5 V VsAt t5Cells vCells cell_of_heap)
set_option maxRecDepth 100000

theorem below_drewN5 (B : Nat) (w : World) (n : Nat) : Below B w (w.drewN n) := ⟨rfl, rfl, rfl, Nat.le_refl _, fun _ _ => rfl⟩
end Go.Proofs.YtbeolmofnmnknaaGreatDoor.Y
namespace Go.Proofs.YtbeolmofnmnknaaGreatDoor.Y
open Go.RowKit
open Go.Proofs.YtbeolmofnmnknaaGreatDoor.L (T5 V VsAt t5Cells vCells cell_of_heap)
set_option maxRecDepth 100000

theorem hid_mk {p : Prop} (h : p) : Hid p := h
theorem ownsRow_below {w w' : World} {B : Nat} {e : TypeId} {size : Nat} {v : Value} {n : Nat} {xs : List Value} (h : w.ownsRow B e size v n xs) (hb : Below w.heap.size w w') : w'.ownsRow B e size v n xs := by
  refine ⟨h.1, h.2.imp id ?_⟩
  rintro ⟨g, cap, cur, e1, h1, h2, h3⟩
  exact ⟨g, cap, cur, e1, h1, (hb.block g (Array.getElem?_eq_some_iff.1 h2).1).trans h2, h3⟩
/-- The slice holds the tokens. -/
def TsAt (W : World) (v : Value) (ts : List T5) : Prop :=
  ∃ a cap, v = .slice a ts.length cap ∧ ts.length ≤ cap ∧ cap ≤ 9223372036854775807 ∧ (0 < ts.length → ∃ b off, a = some ⟨b, off, none⟩ ∧ b < W.heap.size ∧ ∀ i (h : i < ts.length), ∀ j y, (t5Cells (ts[i]'h))[j]? = some y → W.cell? ⟨b, off + i * 5 + j, none⟩ = some y)
theorem TsAt.keep {W W' : World} (hb : Below W.heap.size W W') {v : Value} {ts : List T5} (h : TsAt W v ts) : TsAt W' v ts := by
  obtain ⟨a, cap, hv, h1, h2, h3⟩ := h
  refine ⟨a, cap, hv, h1, h2, fun h0 => ?_⟩
  obtain ⟨b, off, ha, hlt, hc⟩ := h3 h0
  exact ⟨b, off, ha, Nat.lt_of_lt_of_le hlt hb.size, fun i h j y hy => (hb.cell (p := ⟨b, off + i * 5 + j, none⟩) hlt).trans (hc i h j y hy)⟩
theorem TsAt.nil (W : World) : TsAt W (.slice none 0 0) [] := ⟨none, 0, rfl, Nat.le_refl _, by decide, fun h => absurd h (by simp)⟩
/-- The kind that closes what a kind opens; 0: it opens nothing. -/
def closeZ (k : Int) : Int := if k = 19 then 20 else if k = 21 ∨ k = 2 then 22 else if k = 23 then 24 else 0
/-- The document's values of tokens. -/
def someZ : Nat → List T5 → Int → Int → List V × List T5
  | 0, _, _, _ => ([], [])
  | _ + 1, [], _, _ => ([], [])
  | f + 1, t :: r, c, n =>
    if c ≠ 0 ∧ t.k = c then ([], r)
    else if closeZ t.k = 0 then (V.mk t [] :: (someZ f r c n).1, (someZ f r c n).2)
    else if 64 < n + 1 then someZ f (someZ f r (closeZ t.k) (n + 1)).2 c n
    else (V.mk t (someZ f r (closeZ t.k) (n + 1)).1 :: (someZ f (someZ f r (closeZ t.k) (n + 1)).2 c n).1, (someZ f (someZ f r (closeZ t.k) (n + 1)).2 c n).2)
theorem some_len : ∀ (f : Nat) (l : List T5) (c n : Int), (someZ f l c n).2.length ≤ l.length
  | 0, l, _, _ => by simp [someZ]
  | _ + 1, [], _, _ => by simp [someZ]
  | f + 1, t :: r, c, n => by
    have h1 := some_len f r c n
    have h2 := some_len f r (closeZ t.k) (n + 1)
    have h3 := some_len f (someZ f r (closeZ t.k) (n + 1)).2 c n
    rw [someZ]
    repeat' split
    all_goals simp only [List.length_cons]
    all_goals omega
/-- A row of values of one's own, with what is within each, which lies outside of it: an append may write the row's own block in place. -/
def Row (P : Nat → Prop) (B : Nat) (w : World) (out : Value) (ps : List (T5 × Value × List V)) : Prop :=
  w.ownsRow B 91 6 out ps.length (ps.flatMap fun p => vCells p.1 p.2.1) ∧ (∀ g, out.ownBlock = some g → P g) ∧ ∀ p ∈ ps, VsAt (fun b => P b ∧ out.ownBlock ≠ some b) w p.2.1 p.2.2
def mkV (p : T5 × Value × List V) : V := V.mk p.1 p.2.2
theorem flat_at : ∀ (ps : List (T5 × Value × List V)) (k i : Nat) (h : k < ps.length), i < 6 → (ps.flatMap fun p => vCells p.1 p.2.1)[k * 6 + i]? = (vCells (ps[k]'h).1 (ps[k]'h).2.1)[i]?
  | [], k, _, h, _ => by simp at h
  | t :: r, 0, i, _, hi => by
    simp only [List.flatMap_cons, Nat.zero_mul, Nat.zero_add]
    rw [List.getElem?_append_left (by simpa [vCells] using hi)]
    rfl
  | t :: r, k + 1, i, h, hi => by
    have e : (k + 1) * 6 + i = 6 + (k * 6 + i) := by omega
    rw [List.flatMap_cons, e, List.getElem?_append_right (by simp [vCells])]
    have e2 : 6 + (k * 6 + i) - (vCells t.1 t.2.1).length = k * 6 + i := by simp [vCells]
    rw [e2]
    exact flat_at r k i (by simpa using h) hi
theorem Row.vals {P : Nat → Prop} {B : Nat} {w : World} {out : Value} {ps : List (T5 × Value × List V)} (h : Row P B w out ps) : VsAt P w out (ps.map mkV) := by
  have hl : (ps.map mkV).length = ps.length := List.length_map ..
  have hg : ∀ i (hi : i < (ps.map mkV).length), (ps.map mkV)[i]'hi = mkV (ps[i]'(by omega)) := fun i hi => List.getElem_map ..
  refine VsAt.own (B := B) (kv := fun i => match ps[i]? with | some p => p.2.1 | none => .slice none 0 0) (cs := ps.flatMap fun p => vCells p.1 p.2.1) (by rw [hl]; exact h.1) h.2.1 ?_ ?_
  · intro i hi j y hy
    have hi' : i < ps.length := by omega
    have hj : j < 6 := by
      have := (List.getElem?_eq_some_iff.1 hy).1
      simpa [vCells] using this
    rw [flat_at ps i j hi' hj, ← hy, hg i hi]
    simp only [List.getElem?_eq_getElem hi']
    rfl
  · intro i hi
    have hi' : i < ps.length := by omega
    rw [hg i hi]
    simp only [List.getElem?_eq_getElem hi']
    exact (h.2.2 _ (List.getElem_mem hi')).wider (fun b hb _ => hb.1)
theorem Row.keep {P : Nat → Prop} {B : Nat} {w w' : World} {out : Value} {ps : List (T5 × Value × List V)} (h : Row P B w out ps) (hb : Below w.heap.size w w') : Row P B w' out ps := ⟨ownsRow_below h.1 hb, h.2.1, fun p hp => VsAt.keep hb (h.2.2 p hp)⟩
/-- One value more, by an append that may write the row in place or move it. -/
theorem Row.push {P : Nat → Prop} {B : Nat} {w w' : World} {o : Obj} {out v' : Value} {ps : List (T5 × Value × List V)} {t : T5} {kid : Value} {kids : List V} (h : Row P B w out ps) (hk : VsAt (fun b => P b ∧ out.ownBlock ≠ some b) w kid kids)
    (hown : w'.ownsRow B 91 6 v' (ps.length + 1) ((ps.flatMap fun p => vCells p.1 p.2.1) ++ vCells t kid)) (hg : (w.alloc o).grownBy w' out.ownBlock) (hat : v'.ownBlock = out.ownBlock ∨ v'.ownBlock = some (w.alloc o).heap.size) (hP : P (w.alloc o).heap.size) : Row P B w' v' (ps ++ [(t, kid, kids)]) := by
  have hs : (w.alloc o).heap.size = w.heap.size + 1 := by simp
  have keep : ∀ {x : Value} {xs : List V}, VsAt (fun b => P b ∧ out.ownBlock ≠ some b) w x xs → VsAt (fun b => P b ∧ v'.ownBlock ≠ some b) w' x xs := by
    intro x xs hx
    have h1 : VsAt (fun b => (P b ∧ out.ownBlock ≠ some b) ∧ v'.ownBlock ≠ some b) w x xs := hx.wider (fun b hb hlt => ⟨hb, by
      rcases hat with e | e
      · rw [e]; exact hb.2
      · rw [e, hs]
        intro e2
        have := Option.some.inj e2
        omega⟩)
    have h2 := h1.stay (W' := w') (by have := hg.size; omega) (fun b hb hlt => by
      rw [hg.block b (by omega) (fun e => hb.1.2 e.symm)]
      exact Below.heap_alloc w o b hlt)
    exact h2.wider (fun b hb _ => ⟨hb.1.1, hb.2⟩)
  refine ⟨?_, ?_, ?_⟩
  · rw [List.length_append, List.flatMap_append, List.flatMap_singleton]
    exact hown
  · intro g hgo
    rcases hat with e | e
    · exact h.2.1 g (e.symm.trans hgo)
    · rw [e] at hgo
      cases hgo
      exact hP
  · intro p hp
    rcases List.mem_append.1 hp with hp | hp
    · exact keep (h.2.2 p hp)
    · rw [List.mem_singleton.1 hp]
      exact keep hk

end Go.Proofs.YtbeolmofnmnknaaGreatDoor.Y
namespace Go.Proofs.YtbeolmofnmnknaaGreatDoor.Y
open Go.RowKit
open Go.Proofs.YtbeolmofnmnknaaGreatDoor.L (T5 V VsAt t5Cells vCells cell_of_heap)
set_option maxRecDepth 100000

def sliceLen : Value → Nat
  | .slice _ n _ => n
  | _ => 0
theorem Tryz.info91 : (Tryz.prog.info? 91).map (fun i => (i.zero, i.size, i.bytes)) = some (some (.agg #[.int .i64 0, .string ⟨#[]⟩, .string ⟨#[]⟩, .bool false, .bool false, .slice none 0 0]), 6, 72) := by kernel_rfl
theorem news6 (w : World) (x0 x1 x2 x3 x4 x5 : Value) (j : Nat) (u : Value) (h : [x0, x1, x2, x3, x4, x5][j]? = some u) : (w.alloc (.cells #[x0, x1, x2, x3, x4, x5] 91)).cell? ((⟨w.heap.size, 0, none⟩ : Addr).add j) = some u :=
  World.news_of_block (cs := #[x0, x1, x2, x3, x4, x5]) (t := 91) (fr := (0, 0)) (heap_alloc_new w _) j u h
theorem addr_eq {b o o' : Nat} (h : o = o') : (⟨b, o, none⟩ : Addr) = ⟨b, o', none⟩ := by subst h; rfl
/-- The tokens behind the first, by a slice of the same memory. -/
theorem TsAt.tail {W : World} {b off c : Nat} {t : T5} {r : List T5} (h : TsAt W (.slice (some ⟨b, off, none⟩) (r.length + 1) c) (t :: r)) (a' : Addr) (ha : 0 < r.length → a' = ⟨b, off + 5, none⟩) : TsAt W (.slice (some a') r.length (c - 1)) r := by
  obtain ⟨a, c', hv, h1, h2, h3⟩ := h
  have e1 : a = some ⟨b, off, none⟩ := by injection hv with x y z; exact x.symm
  have e2 : c' = c := by injection hv with x y z; exact z.symm
  subst e1 e2
  rw [List.length_cons] at h1
  refine ⟨_, _, rfl, by omega, by omega, fun h0 => ?_⟩
  obtain ⟨b', off', ha', hlt, hc⟩ := h3 (by simp)
  cases ha'
  refine ⟨b, off + 5, congrArg some (ha h0), hlt, fun i hi j y hy => ?_⟩
  have := hc (i + 1) (by simp; omega) j y hy
  rw [show off + 5 + i * 5 + j = off + (i + 1) * 5 + j by omega]
  exact this
theorem someZ_nil (g : Nat) (c n : Int) : someZ g [] c n = ([], []) := by cases g <;> rfl
theorem pair_cat {α β : Type} {x : List α × β} {ps : List α} {y z : List α × β} (h : x = (ps ++ y.1, y.2)) (e : y = z) : x = (ps ++ z.1, z.2) := by rw [h, e]

theorem tok6 {W : World} {B : Nat} {x0 x1 x2 x3 x4 x5 : Value} (h : W.heap[B]? = some (.cells #[x0, x1, x2, x3, x4, x5] 91 (0, 0))) :
    W.cell? ⟨B, 0, none⟩ = some x0 ∧ W.cell? ⟨B, 1, none⟩ = some x1 ∧ W.cell? ⟨B, 2, none⟩ = some x2 ∧ W.cell? ⟨B, 3, none⟩ = some x3 ∧ W.cell? ⟨B, 4, none⟩ = some x4 ∧ W.cell? ⟨B, 5, none⟩ = some x5 := by
  refine ⟨?_, ?_, ?_, ?_, ?_, ?_⟩ <;> simp [World.cell?, h]

theorem tok6f {W : World} {B : Nat} {x0 x1 x2 x3 x4 x5 : Value} (h : W.heap[B]? = some (.cells #[x0, x1, x2, x3, x4, x5] 91 (0, 0))) : W.frozen? ⟨B, 5, none⟩ = false := by
  simp [World.frozen?, h]
/-- Behind the store of what is within. -/
theorem opened {P0 : Nat} {W wr WA w1 : World} {u8 : Value} {ps : List (T5 × Value × List V)} {x0 x1 x2 x3 x4 x5 : Value} {kv : Value} {kids : List V} (hrow : Row (fun b => P0 ≤ b) P0 wr u8 ps) (hB : Below P0 W wr) (hAW : Below wr.heap.size wr WA) (hb1 : Below WA.heap.size WA w1)
    (hx : WA.heap[wr.heap.size + 1]? = some (.cells #[x0, x1, x2, x3, x4, x5] 91 (0, 0))) (hk : VsAt (fun b => WA.heap.size ≤ b) w1 kv kids) (hP : P0 ≤ wr.heap.size) :
    Row (fun b => P0 ≤ b) P0 (w1.setCell ⟨wr.heap.size + 1, 5, none⟩ kv) u8 ps ∧ Below P0 W (w1.setCell ⟨wr.heap.size + 1, 5, none⟩ kv) ∧ (w1.setCell ⟨wr.heap.size + 1, 5, none⟩ kv).heap[wr.heap.size + 1]? = some (.cells #[x0, x1, x2, x3, x4, kv] 91 (0, 0)) ∧ VsAt (fun b => P0 ≤ b ∧ u8.ownBlock ≠ some b) (w1.setCell ⟨wr.heap.size + 1, 5, none⟩ kv) kv kids := by
  have hlt : wr.heap.size + 1 < WA.heap.size := (Array.getElem?_eq_some_iff.1 hx).1
  have h1 : Below wr.heap.size wr (w1.setCell ⟨wr.heap.size + 1, 5, none⟩ kv) := (hAW.trans (hb1.mono hAW.size)).setCell (p := ⟨wr.heap.size + 1, 5, none⟩) (by show wr.heap.size ≤ wr.heap.size + 1; omega) kv
  have hx1 := (hb1.block _ hlt).trans hx
  refine ⟨hrow.keep h1, hB.trans (h1.mono hP), ?_, ?_⟩
  · have := heap_setCell_same w1 (wr.heap.size + 1) 5 #[x0, x1, x2, x3, x4, x5] 91 kv hx1
    rw [this]
    rfl
  · have h2 := hk.stay (W' := w1.setCell ⟨wr.heap.size + 1, 5, none⟩ kv) (by simp) (fun b hb _ => Below.heap_setCell w1 ⟨wr.heap.size + 1, 5, none⟩ kv b (by show b ≠ wr.heap.size + 1; omega))
    refine h2.wider (fun b hb _ => ⟨by have := hAW.size; omega, fun e => ?_⟩)
    have := (hrow.1.lt b e).2
    have := hAW.size
    omega
end Go.Proofs.YtbeolmofnmnknaaGreatDoor.Y
