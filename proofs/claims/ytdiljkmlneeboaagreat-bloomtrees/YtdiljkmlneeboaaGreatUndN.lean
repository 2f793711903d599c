/- dom.Doc's up: an element, its Parent, and so on. append: what lies in other blocks than the new row's is as it was. dom.Doc's under: an element and all below it, level by level. -/
import Derived.Test.YtdiljkmlneeboaaGreatChdN
import Derived.Deep.LoopGhost
import Derived.Laws.OwnMore
import Derived.Deep.AppendLies
namespace Go.Proofs.YtdiljkmlneeboaaGreat.N
open Go.RowKit
set_option maxRecDepth 100000

theorem ownsRow_keep {w w' : World} {B : Nat} {e : TypeId} {s : Nat} {v : Value} {n : Nat} {xs : List Value} (h : w.ownsRow B e s v n xs) (hk : ∀ g, g < w.heap.size → v.ownBlock = some g → w'.heap[g]? = w.heap[g]?) : w'.ownsRow B e s v n xs := by
  obtain ⟨hl, hc⟩ := h
  refine ⟨hl, ?_⟩
  rcases hc with h | ⟨g, cap, cur, rfl, h1, h2, h3, h4, h5, h6⟩
  · exact .inl h
  · exact .inr ⟨g, cap, cur, rfl, h1, (hk g (Array.getElem?_eq_some_iff.1 h2).1 rfl).trans h2, h3, h4, h5, h6⟩
theorem ownsRow_below {w w' : World} {B : Nat} {e : TypeId} {s : Nat} {v : Value} {n : Nat} {xs : List Value} (h : w.ownsRow B e s v n xs) (hb : Below w.heap.size w w') : w'.ownsRow B e s v n xs :=
  ownsRow_keep h fun g hg _ => hb.block g hg
/-- Five stores over an element. -/
theorem NodeAt.set5 {w : World} {g : Nat} {s : N5} (h : NodeAt w g s) (s' : N5) : NodeAt (((((w.setCell ⟨g, 0, none⟩ (.int .i64 s'.id)).setCell ⟨g, 1, none⟩ (.string s'.tag)).setCell ⟨g, 2, none⟩ (.int .i64 s'.par)).setCell ⟨g, 3, none⟩ (.slice s'.ka s'.kn s'.kc)).setCell ⟨g, 4, none⟩ (.slice s'.aa s'.an s'.ac)) g s' := by
  have q0 := heap_setCell_same w g 0 _ 76 (.int .i64 s'.id) h
  have q1 := heap_setCell_same _ g 1 _ 76 (.string s'.tag) q0
  have q2 := heap_setCell_same _ g 2 _ 76 (.int .i64 s'.par) q1
  have q3 := heap_setCell_same _ g 3 _ 76 (.slice s'.ka s'.kn s'.kc) q2
  exact heap_setCell_same _ g 4 _ 76 (.slice s'.aa s'.an s'.ac) q3
theorem Below.set5 {W w : World} {B g : Nat} (h : Below B W w) (hg : B ≤ g) (a0 a1 a2 a3 a4 : Value) : Below B W (((((w.setCell ⟨g, 0, none⟩ a0).setCell ⟨g, 1, none⟩ a1).setCell ⟨g, 2, none⟩ a2).setCell ⟨g, 3, none⟩ a3).setCell ⟨g, 4, none⟩ a4) :=
  ((((h.setCell (p := ⟨g, 0, none⟩) hg a0).setCell (p := ⟨g, 1, none⟩) hg a1).setCell (p := ⟨g, 2, none⟩) hg a2).setCell (p := ⟨g, 3, none⟩) hg a3).setCell (p := ⟨g, 4, none⟩) hg a4
/-- find tells an element, or none: the answer's struct, by what is told of it. -/
def FoundAt (m : M) (n : Int) (s : N5) (err : Int) : Prop := (∃ e, m n = some e ∧ s.id = e.id ∧ s.par = e.par ∧ err = 0) ∨ (m n = none ∧ err = 1)
theorem dom_find_any {w : World} {dp : Value} {m : M} {nx : Int} (h : Dom w dp m nx) (n : Int) : Calls Tryz.prog 54 #[dp, .int .i64 n] w fun x w' => ∃ (s : N5) (err : Int), x = .returned (.tuple #[.agg #[.int .i64 s.id, .string s.tag, .int .i64 s.par, .slice s.ka s.kn s.kc, .slice s.aa s.an s.ac], .int .i64 err]) ∧ FoundAt m n s err ∧ ElAt w s ((m n).getD zeroEl) ∧ Below w.heap.size w w' := by
  cases e : m n with
  | none =>
    refine (dom_find_none h e).mono ?_
    rintro x w' ⟨rfl, hB⟩
    exact ⟨zeroS, 1, rfl, .inr ⟨e, rfl⟩, zero_el w, hB⟩
  | some el =>
    refine (dom_find h e).mono ?_
    rintro x w' ⟨s, rfl, hE, hB⟩
    exact ⟨s, 0, rfl, .inl ⟨el, e, hE.1, hE.2.2.1, rfl⟩, hE, hB⟩
theorem up_kept {w W W' : World} {g n : Nat} {s : N5} {v : Value} {xs : List Value} (hN : NodeAt W g s) (hB : Below w.heap.size w W) (hown : W.ownsRow w.heap.size 3 1 v n xs) (hg : W.grownBy W' v.ownBlock) : Hid (NodeAt W' g s) ∧ Hid (Below w.heap.size w W') := by
  refine ⟨?_, hid_mk (hB.grown hg hB.size (fun k hk => (hown.lt k hk).1))⟩
  refine (hg.block g (Array.getElem?_eq_some_iff.1 hN).1 fun e => ?_).trans hN
  rcases hown.2 with ⟨rfl, _⟩ | ⟨k, cap, cur, rfl, _, hk, _⟩
  · cases e
  · cases e
    have hN' := hN
    unfold NodeAt at hN'
    rw [hk] at hN'
    cases hN'
set_option maxHeartbeats 2000000 in
theorem up_any {uok : List (ByteArray × ByteArray) → Prop} {w : World} {dp : Value} {m : M} {nx : Int} {d : Int → Nat} (h : Dom w dp m nx) (I : Inv uok m nx d) (n : Int) : Calls Tryz.prog 86 #[dp, .int .i64 n] w fun x w' => ∃ v, x = .returned v ∧ w'.ownsRow w.heap.size 3 1 v (ups m n).length (intsV (ups m n)) ∧ Below w.heap.size w w' := by
  obtain ⟨i0, hi0, hz0, hz1, hz2⟩ := info_parts Tryz.info3
  have hfind := dom_find_any h n
  have HF : Hid (∀ W k, Below w.heap.size w W → _) := fun W k hW => dom_find_any (h.keep hW) k
  have HI := hid_mk I
  clear h I
  go_enter Tryz.func86, Tryz.ntmps86
  go_wp2_with (go_at_call 54; fail)
  refine hfind.mono ?_
  rintro x w1 ⟨s, err, rfl, hFo, _, hB1⟩
  have HN : Hid (NodeAt (w1.alloc (.cells #[.int .i64 s.id, .string s.tag, .int .i64 s.par, .slice s.ka s.kn s.kc, .slice s.aa s.an s.ac] 76)) w1.heap.size s) := heap_alloc_last w1 _
  have HB : Hid (Below w.heap.size w (w1.alloc (.cells #[.int .i64 s.id, .string s.tag, .int .i64 s.par, .slice s.ka s.kn s.kc, .slice s.aa s.an s.ac] 76))) := hB1.alloc hB1.size _
  have HL : Hid (w.heap.size ≤ w1.heap.size) := hB1.size
  have HFO := hid_mk hFo
  clear hfind hFo hB1
  go_wp2
  go_loopg [5, 6, 7] (ups m n).length (fun kx a5 a6 a7 wr => ∃ (l : List Int) (cur : Int) (g : Nat) (s : N5) (err : Int), a6 = .pointer (some ⟨g, 0, none⟩) ∧ a7 = .int .i64 err ∧ (ups m cur).length ≤ kx ∧ Hid (l ++ ups m cur = ups m n) ∧ Hid (wr.ownsRow w.heap.size 3 1 a5 l.length (intsV l)) ∧ Hid (NodeAt wr g s) ∧ Hid (FoundAt m cur s err) ∧ Hid (Below w.heap.size w wr))
  case atStart => exact ⟨[], n, w1.heap.size, s, err, rfl, rfl, Nat.le_refl _, hid_mk rfl, hid_mk (World.ownsRow_nil _ _ _ _), HN, HFO, HB⟩
  case round =>
    clear HN HB HL HFO
    obtain ⟨l, cur, g, s, err, rfl, rfl, hk, HS, HO, HN, HFO, HB⟩ := hrel
    have hbig : l.length ≤ 600 := by
      have h1 := congrArg List.length HS.out
      rw [List.length_append] at h1
      cases e : m n with
      | none => rw [ups_none e, List.length_nil] at h1; omega
      | some x =>
        have := ups_len HI.out e
        have := HI.out.top e
        omega
    rcases HFO.out with ⟨e, he, hid, hpar, rfl⟩ | ⟨hno, rfl⟩
    · have hups := ups_some HI.out he
      have hide := HI.out.id he
      obtain ⟨⟨k0, k1, k2, k3, k4⟩, _, _, _, _, _, hgl⟩ := HN.out.cells
      have hA1 : Below wr.heap.size wr (wr.alloc (.cells #[.int .i64 s.id] 3)) := (Below.refl _ wr).alloc (Nat.le_refl _) _
      have hrow : RowAt (wr.alloc (.cells #[.int .i64 s.id] 3)) 1 (some ⟨wr.heap.size, 0, none⟩) 1 1 [.int .i64 s.id] := RowAt.one (heap_alloc_last wr _)
      have hown := ownsRow_below HO.out hA1
      have hBs : w.heap.size ≤ (wr.alloc (.cells #[.int .i64 s.id] 3)).heap.size := Nat.le_trans HB.out.size hA1.size
      have HNA : Hid (NodeAt (wr.alloc (.cells #[.int .i64 s.id] 3)) g s) := (hA1.block _ hgl).trans HN.out
      have HBA : Hid (Below w.heap.size w (wr.alloc (.cells #[.int .i64 s.id] 3))) := HB.out.trans (hA1.mono HB.out.size)
      have HU := hid_mk hups
      have HID : Hid (s.id = cur) := hid.trans hide
      have HP := hid_mk hpar
      have HL1 := hid_mk hgl
      clear hA1 hups hide hid hpar HO HN hgl
      go_wp2_with (at_builtin; go_must (refine wpList_append_rowAt rfl _ _ 43 rfl (B := w.heap.size) Tryz.underlying43 hi0 hz0 hz1 hz2 rfl (by decide) (by decide) rfl rfl hown hrow (by omega) hBs ?_); intro v' w2 hown2 hgrow2 _; have HO2 := hid_mk hown2; have HG2 := hid_mk hgrow2; clear hown2 hgrow2; obtain ⟨HN2, HB2⟩ : Hid (NodeAt w2 g s) ∧ Hid (Below w.heap.size w w2) := up_kept HNA.out HBA.out hown HG2.out; obtain ⟨⟨k0, k1, k2, k3, k4⟩, _, _, _, _, _, hgl⟩ := HN2.out.cells; clear hown hrow hBs)
      obtain ⟨W3, hW3⟩ : ∃ W3, W3 = w2.alloc (.cells #[.int .i64 s.id, .string s.tag, .int .i64 s.par, .slice s.ka s.kn s.kc, .slice s.aa s.an s.ac] 76) := ⟨_, rfl⟩
      have hB3 : Below w2.heap.size w2 W3 := by rw [hW3]; exact (Below.refl _ _).alloc (Nat.le_refl _) _
      have hN3 : NodeAt W3 w2.heap.size s := by rw [hW3]; exact heap_alloc_last w2 _
      have hfi := HF.out W3 s.par (HB2.out.trans (hB3.mono HB2.out.size))
      have HW3 := hid_mk hW3
      clear hW3
      go_wp2_with (go_at_call 54; fail)
      rw [← HW3.out]
      refine hfi.mono ?_
      rintro x w4 ⟨s4, err4, rfl, hF4, _, hB4⟩
      have HB5 : Hid (Below w2.heap.size w2 w4) := hB3.trans (hB4.mono hB3.size)
      have hN4 : NodeAt w4 w2.heap.size s := (hB4.block _ (Array.getElem?_eq_some_iff.1 hN3).1).trans hN3
      have HN4 := hid_mk hN4
      obtain ⟨⟨y0, y1, y2, y3, y4⟩, x0, x1, x2, x3, x4, xl⟩ := hN4.cells
      have HF4 := hid_mk hF4
      clear hfi hB3 hN3 hF4 hB4 hN4
      go_wp2
      go_roundg (ups m e.par).length
      case measure => rw [HU.out, List.length_cons] at hk; omega
      case rel =>
        have h1 : (l ++ [cur]) ++ ups m e.par = ups m n := by
          have := HS.out
          rw [HU.out] at this
          simpa using this
        have h2 := HO2.out
        rw [HID.out] at h2
        have h3 : intsV (l ++ [cur]) = intsV l ++ [.int .i64 cur] := by simp [intsV]
        have h4 : (l ++ [cur]).length = l.length + 1 := by simp
        have hF := HF4.out
        rw [HP.out] at hF
        have hB6 := Below.set5 HB5.out (Nat.le_refl _) (.int .i64 s4.id) (.string s4.tag) (.int .i64 s4.par) (.slice s4.ka s4.kn s4.kc) (.slice s4.aa s4.an s4.ac)
        refine ⟨l ++ [cur], e.par, w2.heap.size, s4, err4, rfl, rfl, Nat.le_refl _, hid_mk h1, ?_, hid_mk (HN4.out.set5 s4), hid_mk hF, hid_mk (HB2.out.trans (hB6.mono HB2.out.size))⟩
        rw [h3, h4]
        exact hid_mk (ownsRow_below h2 hB6)
    · go_wp2
      go_ret
      have h1 := HS.out
      rw [ups_none hno, List.append_nil] at h1
      exact ⟨_, rfl, by rw [← h1]; exact HO.out, HB.out⟩

end Go.Proofs.YtdiljkmlneeboaaGreat.N
namespace Go.Proofs.YtdiljkmlneeboaaGreat.N
open Go.RowKit
set_option maxRecDepth 100000

theorem run_append_far {w : World} (base : Nat) (t ty e : TypeId) (i : TypeInfo) (z : Value) (size bytes : Nat) (ht : Tryz.prog.underlying t = some (.slice e)) (hi : Tryz.prog.info? e = some i) (hz : i.zero = some z)
    (hsize : i.size = size) (hby : i.bytes = bytes) (hzs : z.cells.size = size) (hsz : 0 < size) (v : Value) (n : Nat) (xs : List Value) (hown : w.ownsRow base e size v n xs)
    (a : Addr) (m c : Nat) (news : List Value) (hl : news.length = m * size) (hnews : ∀ j u, news[j]? = some u → w.cell? (a.add j) = some u) (h1 : ∀ u ∈ news, u.oneCell' = true)
    (h63 : n + m ≤ maxLen) (hbytes : (n + m) * bytes ≤ 140737488355328) (hbase : base ≤ w.heap.size) :
    ∃ v' w', (Builtin.append_ #[t, t] ty #[v, .slice (some a) m c]).run Tryz.prog w = .ok v' w' ∧ w'.ownsRow base e size v' (n + m) (xs ++ news) ∧ w.grownBy w' v.ownBlock ∧ ∀ k, k < w.heap.size → v'.ownBlock ≠ some k → w'.heap[k]? = w.heap[k]? := by
  obtain ⟨v', w', hr, h2, h3, _, h5⟩ := run_append_own_at (P := Tryz.prog) w base t ty e i z size bytes ht hi hz hsize hby hzs hsz v n xs hown a m c news hl hnews h1 h63 hbytes hbase
  refine ⟨v', w', hr, h2, h3, ?_⟩
  subst hsize
  subst hby
  have hsmall : n + m ≤ 9223372036854775807 := by simp only [maxLen] at h63; omega
  rcases hown.2 with ⟨rfl, rfl⟩ | ⟨g, cap, cur, rfl, hbg, hg, hnc, hcm, hcs, htake⟩
  · intro k hk _
    exact h3.block k hk (by simp [Value.ownBlock])
  · by_cases hroom : n + m ≤ cap
    · have hfit : n * i.size + news.length ≤ cur.size := by rw [hl, hcs, ← Nat.add_mul]; exact Nat.mul_le_mul_right _ hroom
      have hr' := run_append_room (P := Tryz.prog) w t ty e i ht hi g n cap cur hg a m c news hl hnews h1 hroom hfit
      rw [hr] at hr'
      cases hr'
      intro k hk hne
      refine h3.block k hk fun e => hne ?_
      rw [e]
      rfl
    · have hr' := run_append_grow (P := Tryz.prog) w t ty e i z ht hi hz ⟨g, 0, none⟩ n cap xs hown.1 (hown.cells (g := g) rfl) a m c news hl hnews (by omega) (by omega) (growslice_fits (by omega) hbytes)
      rw [hr] at hr'
      cases hr'
      intro k hk _
      exact heap_alloc_old w.drew _ hk
/-- An append of whatever a slice speaks of to a row of one's own. -/
theorem wpList_append_far {ops : Array Oper} {rest : List Oper} {o : Oper} {a : Act} {Q : Exit → Act → World → Prop} {w : World} (hgd : o.guard = none) (s x : Operand) (t : TypeId) (ho : o.op = .call { callee := .builtin .append, args := #[s, x], argTypes := #[t, t] })
    {B : Nat} {e : TypeId} {i : TypeInfo} {z : Value} {size bytes : Nat} (ht : Tryz.prog.underlying t = some (.slice e)) (hi : Tryz.prog.info? e = some i) (hz : i.zero = some z) (hsize : i.size = size) (hby : i.bytes = bytes) (hzs : z.cells.size = size) (hsz : 0 < size) (hbl : bytes ≤ 1000)
    {v : Value} {ua : Option Addr} {n m c : Nat} {xs ys : List Value} (hs : a.eval s = v) (hx : a.eval x = .slice ua m c) (hown : w.ownsRow B e size v n xs) (hsrc : RowAt w size ua m c ys) (hn : n + m ≤ 1000000) (hB : B ≤ w.heap.size)
    (h : ∀ v' w', w'.ownsRow B e size v' (n + m) (xs ++ ys) → w.grownBy w' v.ownBlock → (∀ k, k < w.heap.size → v'.ownBlock ≠ some k → w'.heap[k]? = w.heap[k]?) → wpList Tryz.prog ops Q rest (a.put o.dst v') w') : wpList Tryz.prog ops Q (o :: rest) a w := by
  obtain ⟨hl, hmc, hcm, h1, hc⟩ := hsrc
  rcases hc with ⟨rfl, rfl⟩ | ⟨b, off, rfl, _, hcell⟩
  · obtain rfl : m = 0 := by omega
    have hy0 : ys = [] := List.length_eq_zero_iff.1 (by simpa using hl)
    subst hy0
    refine wpList_append_same w hgd s x t ho v _ hs hx (run_append_empty ht hi hown _ _) ?_
    exact h v w (by simpa using hown) ⟨rfl, rfl, rfl, Nat.le_refl _, fun _ _ _ => rfl⟩ (fun _ _ _ => rfl)
  · refine wpList_plain hgd fun K hK => ?_
    obtain ⟨v', w', hr, h2, h3, h4⟩ := run_append_far (w := w) B t o.type e i z size bytes ht hi hz hsize hby hzs hsz v n xs hown ⟨b, off, none⟩ m c ys hl (fun j y hy => by rw [Addr.add_mid]; exact hcell j y hy) h1 (by unfold maxLen; omega) (Nat.le_trans (Nat.mul_le_mul hn hbl) (by decide)) hB
    unfold Oper.wp execOp
    simp only [ho, resolve, invoke, builtin, Sem.run_bind, Sem.run_pure, Result.andThen_ok, List.map_toArray, List.map_cons, List.map_nil, hs, hx, hr]
    exact hK _ _ (h v' w' h2 h3 h4)
/-- What an elder part of the row holds is there still. -/
theorem part_kept {W W' : World} {B n' g off : Nat} {v' : Value} {xs : List Value} {ys zs : List Value} (h : W'.ownsRow B 3 1 v' n' (ys ++ xs ++ zs)) (hoff : off = ys.length) (hold : ∀ j u, xs[j]? = some u → W.cell? ⟨g, off + j, none⟩ = some u) (hg : g < W.heap.size) (hfar : ∀ k, k < W.heap.size → v'.ownBlock ≠ some k → W'.heap[k]? = W.heap[k]?) :
    ∀ j u, xs[j]? = some u → W'.cell? ⟨g, off + j, none⟩ = some u := by
  intro j u hu
  by_cases hb : v'.ownBlock = some g
  · have hl := h.1
    rcases h.2 with ⟨rfl, _⟩ | ⟨k, cap, cur, rfl, h1, h2, h3, h4, h5, h6⟩
    · cases hb
    · cases hb
      have hj := (List.getElem?_eq_some_iff.1 hu).1
      have h7 : (ys ++ xs ++ zs)[off + j]? = some u := by
        rw [hoff, List.getElem?_append_left (by rw [List.length_append]; omega), List.getElem?_append_right (by omega), Nat.add_sub_cancel_left]
        exact hu
      have hlt := (List.getElem?_eq_some_iff.1 h7).1
      rw [← h6, List.getElem?_take_of_lt (by rw [← hl]; exact hlt)] at h7
      simp only [World.cell?, h2]
      simpa using h7
  · exact (World.cell?_of_block (a := ⟨g, off + j, none⟩) (hfar g hg hb)).trans (hold j u hu)

end Go.Proofs.YtdiljkmlneeboaaGreat.N
namespace Go.Proofs.YtdiljkmlneeboaaGreat.N
open Go.RowKit
set_option maxRecDepth 100000

theorem intsV_app (a b : List Int) : intsV (a ++ b) = intsV a ++ intsV b := by simp [intsV]
theorem intsV_len (a : List Int) : (intsV a).length = a.length := by simp [intsV]
theorem intsV_one (a : List Int) : ∀ u ∈ intsV a, u.oneCell' = true := by
  intro u hu
  obtain ⟨k, _, rfl⟩ := List.mem_map.1 hu
  rfl
theorem intsV_at {a : List Int} {i : Nat} (h : i < a.length) : (intsV a)[i]? = some (.int .i64 a[i]) := by simp [intsV, h]
/-- The kids of the first i. -/
def kidsTo (m : M) (l : List Int) (i : Nat) : List Int := (l.take i).flatMap (kidsOf m)
theorem kidsTo_succ {m : M} {l : List Int} {i : Nat} (h : i < l.length) : kidsTo m l (i + 1) = kidsTo m l i ++ kidsOf m l[i] := by
  unfold kidsTo
  rw [List.take_succ_eq_append_getElem h, List.flatMap_append]
  simp
theorem kidsTo_len_le {m : M} {l : List Int} (i : Nat) : (kidsTo m l i).length ≤ (l.flatMap (kidsOf m)).length := by
  conv => rhs; rw [← List.take_append_drop i l, List.flatMap_append, List.length_append]
  exact Nat.le_add_right _ _
set_option maxHeartbeats 4000000 in
theorem under_any {uok : List (ByteArray × ByteArray) → Prop} {w : World} {dp : Value} {m : M} {nx : Int} {d : Int → Nat} (h : Dom w dp m nx) (I : Inv uok m nx d) {id : Int} {e0 : El} (h0 : m id = some e0) : Calls Tryz.prog 56 #[dp, .int .i64 id] w fun x w' => ∃ v k, x = .returned (.tuple #[v, .int .i64 (k : Nat)]) ∧ Full m id k ∧ w'.ownsRow w.heap.size 3 1 v (levs m id k).length (intsV (levs m id k)) ∧ Below w.heap.size w w' := by
  obtain ⟨i0, hi0, hz0, hz1, hz2⟩ := info_parts Tryz.info3
  have HF : Hid (∀ W k, Below w.heap.size w W → _) := fun W k hW => dom_find_any (h.keep hW) k
  have HI := hid_mk I
  have H0 := hid_mk h0
  have hnxb := I.nxb
  have HLN : Hid (∀ k, (levs m id k).length < 100000) := fun k => by
    have := levs_len I h0 k
    omega
  have HEL : Hid (∀ k n, n ∈ lev m id k → ∃ e, m n = some e) := fun k n hn => (lev_mem I h0 k n hn).1
  clear h I h0
  have HOW : Hid ((w.alloc (.cells #[.int .i64 id] 3)).ownsRow w.heap.size 3 1 (.slice (some ⟨w.heap.size, 0, none⟩) 1 1) (levs m id 1).length (intsV (levs m id 1))) := World.ownsRow_lit w #[.int .i64 id] 1 (Nat.le_refl _) (by decide) rfl
  have HBW : Hid (Below w.heap.size w (w.alloc (.cells #[.int .i64 id] 3))) := (Below.refl _ w).alloc (Nat.le_refl _) _
  go_enter Tryz.func56, Tryz.ntmps56
  go_wp2
  go_loopg [6, 7, 8] 514 (fun kx a6 a7 a8 wr => ∃ j : Nat, a7 = .int .i64 j ∧ a8 = .int .i64 (levs m id j).length ∧ 514 - j ≤ kx ∧ j ≤ 513 ∧ Hid (wr.ownsRow w.heap.size 3 1 a6 (levs m id (j + 1)).length (intsV (levs m id (j + 1)))) ∧ Hid (∀ k, k < j → lev m id k ≠ []) ∧ Hid (Below w.heap.size w wr))
  case atStart => exact ⟨0, rfl, rfl, by omega, by omega, HOW, hid_mk (fun k hk => absurd hk (Nat.not_lt_zero _)), HBW⟩
  case round =>
    clear HOW HBW
    obtain ⟨j, rfl, rfl, hk, hj, HO, HON, HB⟩ := hrel
    have HSUC : Hid (levs m id (j + 1) = levs m id j ++ lev m id j) := levs_succ id j
    have hl1 : (levs m id (j + 1)).length = (levs m id j).length + (lev m id j).length := by rw [HSUC.out, List.length_append]
    have hlt1 := HLN.out (j + 1)
    by_cases hne : lev m id j = []
    · have hz : (lev m id j).length = 0 := by rw [hne]; rfl
      have hO := HO.out
      have hsame : levs m id (j + 1) = levs m id j := by rw [HSUC.out, hne, List.append_nil]
      rw [hsame] at hO hlt1
      have hpos : 1 ≤ j := by
        rcases Nat.eq_zero_or_pos j with rfl | hp
        · exact absurd hne (by simp [lev])
        · exact hp
      obtain ⟨g, cap, rfl, hg1, hg2⟩ := hO.form (by
        have : id ∈ levs m id j := levs_mem.2 ⟨0, hpos, by simp [lev]⟩
        exact List.length_pos_of_mem this)
      have HO2 := hid_mk hO
      have HNE := hid_mk hne
      have HPO := hid_mk hpos
      clear hO hl1 hz hsame hne hpos hk HSUC
      generalize hL : (levs m id j).length = L at *
      have HL2 := hid_mk hL
      clear hL
      go_wp2
      refine bodyPost_ret (v := .tuple #[.slice (some ⟨g, 0, none⟩) L cap, .int .i64 (j : Nat)]) (by simp [results, Tryz.results56, go_sem]) rfl ⟨_, j, rfl, ⟨HPO.out, HNE.out, HON.out⟩, by rw [HL2.out]; exact HO2.out, HB.out⟩
    · have hz : 0 < (lev m id j).length := List.length_pos_iff.2 hne
      have hj2 : j + 1 ≤ 512 := by
        obtain ⟨n, hn⟩ := List.exists_mem_of_ne_nil _ hne
        obtain ⟨⟨e, he⟩, hd⟩ := lev_mem HI.out H0.out j n hn
        have := HI.out.top he
        have := HI.out.pos H0.out
        omega
      have HNE := hid_mk hne
      obtain ⟨g, cap, rfl, hg1, hg2⟩ := HO.out.form (by omega)
      obtain ⟨hcap, hcm⟩ : (levs m id (j + 1)).length ≤ cap ∧ cap ≤ maxLen := by
        rcases HO.out.2 with ⟨h, _⟩ | ⟨g', cap', cur, h, _, _, h1, h2, _⟩
        · cases h
        · cases h
          exact ⟨h1, h2⟩
      have HP : Hid (∀ i u, (intsV (lev m id j))[i]? = some u → wr.cell? ⟨g, (levs m id j).length + i, none⟩ = some u) := fun i u hu => by
        have hi := (List.getElem?_eq_some_iff.1 hu).1
        rw [intsV_len] at hi
        rw [World.ownsRow.cellAt HO.out _ (by omega), HSUC.out, intsV_app, List.getElem?_append_right (by rw [intsV_len]; omega), intsV_len, Nat.add_sub_cancel_left]
        exact hu
      have HXS : Hid (intsV (levs m id (j + 1)) = intsV (levs m id j) ++ intsV (lev m id j)) := by show _ = _; rw [HSUC.out, intsV_app]
      have HKD : Hid (levs m id (j + 1 + 1) = levs m id (j + 1) ++ kidsTo m (lev m id j) (lev m id j).length) := by
        show _ = _
        rw [levs_succ id (j + 1), lev]
        unfold kidsTo
        rw [List.take_length]
      have HKL : Hid (∀ i, (levs m id (j + 1)).length + (kidsTo m (lev m id j) i).length < 100000) := fun i => by
        have h1 := HLN.out (j + 1 + 1)
        rw [levs_succ id (j + 1), lev, List.length_append] at h1
        have := kidsTo_len_le (m := m) (l := lev m id j) i
        omega
      have HL0 : Hid ((levs m id j).length = (intsV (levs m id j)).length) := (intsV_len _).symm
      unfold maxLen at hcm
      clear hne HSUC
      generalize hL0 : (levs m id j).length = L0 at *
      generalize hL1 : (levs m id (j + 1)).length = L1 at *
      have HLV : Hid ((lev m id j).length = L1 - L0) := by show _ = _; omega
      have hlv : L0 < L1 := by omega
      have HE1 := hid_mk hL1
      clear hL0 hL1 hl1 hz
      go_wp2
      have HO2 : Hid (wr.ownsRow w.heap.size 3 1 (.slice (some ⟨g, 0, none⟩) L1 cap) (L1 + (kidsTo m (lev m id j) 0).length) (intsV (levs m id (j + 1)) ++ intsV (kidsTo m (lev m id j) 0))) := by
        show wr.ownsRow _ _ _ _ _ _
        rw [show kidsTo m (lev m id j) 0 = [] from rfl]
        simpa [intsV] using HO.out
      generalize L1 - L0 = V at *
      generalize cap - L0 = C at *
      have hV : V < 100000 := by
        have := HKL.out 0
        have h1 := HLV.out
        have h2 := congrArg List.length HXS.out
        rw [intsV_len, List.length_append, intsV_len, intsV_len, HE1.out] at h2
        omega
      have HK := hid_mk hk
      clear HO hk
      go_loopg [6, 29] (V + 1) (fun kx a6 a29 wq => ∃ i : Nat, a29 = .int .i64 i ∧ V + 1 - i ≤ kx ∧ i ≤ V ∧ g < wq.heap.size ∧ Hid (wq.ownsRow w.heap.size 3 1 a6 (L1 + (kidsTo m (lev m id j) i).length) (intsV (levs m id (j + 1)) ++ intsV (kidsTo m (lev m id j) i))) ∧ Hid (∀ i u, (intsV (lev m id j))[i]? = some u → wq.cell? ⟨g, L0 + i, none⟩ = some u) ∧ Hid (Below w.heap.size w wq))
      case atStart => exact ⟨0, rfl, by omega, Nat.zero_le _, hg2, HO2, HP, HB⟩
      case round =>
        clear HO2 HP HB
        obtain ⟨i, rfl, hki, hiV, hg3, HO, HP, HB⟩ := hrel
        by_cases hlt : i < V
        · have hil : i < (lev m id j).length := by rw [HLV.out]; exact hlt
          have hci := HP.out i _ (intsV_at hil)
          obtain ⟨e, he⟩ := HEL.out j _ (List.getElem_mem hil)
          have HKS : Hid (kidsTo m (lev m id j) (i + 1) = kidsTo m (lev m id j) i ++ e.ks) := by
            show _ = _
            rw [kidsTo_succ hil, kidsOf_some he]
          have hfi := HF.out wr ((lev m id j)[i]) HB.out
          rw [he] at hfi
          generalize (lev m id j)[i] = n at *
          go_wp2_with (go_at_call 54; fail)
          refine hfi.mono ?_
          rintro x w1 ⟨s, err, rfl, _, hE, hB1⟩
          have hB2 : Below wr.heap.size wr (w1.alloc (.cells #[.int .i64 s.id, .string s.tag, .int .i64 s.par, .slice s.ka s.kn s.kc, .slice s.aa s.an s.ac] 76)) := hB1.alloc hB1.size _
          have hN : NodeAt (w1.alloc (.cells #[.int .i64 s.id, .string s.tag, .int .i64 s.par, .slice s.ka s.kn s.kc, .slice s.aa s.an s.ac] 76)) w1.heap.size s := heap_alloc_last w1 _
          have hown := ownsRow_below HO.out hB2
          have hrow : RowAt (w1.alloc (.cells #[.int .i64 s.id, .string s.tag, .int .i64 s.par, .slice s.ka s.kn s.kc, .slice s.aa s.an s.ac] 76)) 1 s.ka s.kn s.kc (intsV e.ks) := (hE.keep hB2).2.2.2.1
          have hkn : s.kn = e.ks.length := hE.kn
          have hlen := HKL.out (i + 1)
          rw [HKS.out, List.length_append] at hlen
          have HB3 := hid_mk (HB.out.trans (hB2.mono HB.out.size))
          have hBs := HB3.out.size
          have HP3 : Hid (∀ i u, (intsV (lev m id j))[i]? = some u → (w1.alloc (.cells #[.int .i64 s.id, .string s.tag, .int .i64 s.par, .slice s.ka s.kn s.kc, .slice s.aa s.an s.ac] 76)).cell? ⟨g, L0 + i, none⟩ = some u) := fun i u hu => (hB2.cell (p := ⟨g, L0 + i, none⟩) hg3).trans (HP.out i u hu)
          have hg4 := Nat.lt_of_lt_of_le hg3 hB2.size
          clear hfi hB1 hB2 hE
          obtain ⟨⟨k0, k1, k2, k3, k4⟩, _⟩ := hN.cells
          have HKN := hid_mk hkn
          have hlen2 : L1 + (kidsTo m (lev m id j) i).length + s.kn < 100000 := by omega
          clear hkn hlen
          generalize hKL : (kidsTo m (lev m id j) i).length = KL at *
          have HKE := hid_mk hKL
          clear hKL
          go_wp2_with (at_builtin; go_must (refine wpList_append_far rfl _ _ 43 rfl (B := w.heap.size) Tryz.underlying43 hi0 hz0 hz1 hz2 rfl (by decide) (by decide) rfl rfl hown hrow (by omega) hBs ?_); intro v' w2 hown2 hgrow2 hfar2; have HO2 := hid_mk hown2; have HG2 := hid_mk hgrow2; have HF2 := hid_mk hfar2; clear hown2 hgrow2 hfar2)
          go_roundg (V + 1 - (i + 1))
          case measure => omega
          case rel =>
            have hlx : (kidsTo m (lev m id j) (i + 1)).length = KL + s.kn := by rw [HKS.out, List.length_append, HKE.out, HKN.out]
            have hO := HO2.out
            rw [List.append_assoc, ← intsV_app, ← HKS.out, Nat.add_assoc, ← hlx] at hO
            refine ⟨i + 1, by go_num, by omega, hlt, Nat.lt_of_lt_of_le hg4 HG2.out.size, hid_mk hO, ?_, hid_mk (HB3.out.grown HG2.out HB3.out.size (fun k hk => (hown.lt k hk).1))⟩
            rw [HXS.out] at hO
            exact hid_mk (part_kept hO HL0.out HP3.out hg4 HF2.out)
        · obtain rfl : i = V := by omega
          have hO := HO.out
          rw [← HLV.out, ← intsV_app, ← HKD.out, ← HE1.out, ← List.length_append, ← HKD.out] at hO
          have HO3 := hid_mk hO
          clear HO hO HP
          go_wp2
          go_roundg (514 - (j + 1))
          case measure => have := HK.out; omega
          case rel =>
            refine ⟨j + 1, by go_num, by rw [HE1.out], Nat.le_refl _, by omega, HO3, hid_mk fun k hk => ?_, HB⟩
            by_cases hkj : k = j
            · rw [hkj]; exact HNE.out
            · exact HON.out k (by omega)

end Go.Proofs.YtdiljkmlneeboaaGreat.N
