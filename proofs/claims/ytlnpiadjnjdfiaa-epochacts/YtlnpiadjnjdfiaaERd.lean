/- The document's Retire. -/
import Derived.Test.YtlnpiadjnjdfiaaERb
namespace Go.Proofs.Ytlnpiadjnjdfiaa.E
open Go.RowKit
set_option maxRecDepth 100000

theorem Try.info49s : (Try.prog.info? 49).map (fun i => (i.zero, i.size, i.bytes)) = some (some (.agg #[.int .i64 0, .int .i64 0]), 2, 16) := by kernel_rfl
theorem grown_self (w : World) (r : Option Nat) : w.grownBy w r := ⟨rfl, rfl, rfl, Nat.le_refl _, fun _ _ _ => rfl⟩
theorem lit_own {w : World} {X B : Nat} (h : w.heap[X]? = some (.cells #[] 49 (0, 0))) (hB : B ≤ X) : w.ownsRow B 49 2 (.slice (some ⟨X, 0, none⟩) 0 0) 0 [] :=
  ⟨by simp, .inr ⟨X, 0, #[], rfl, hB, h, Nat.le_refl _, Nat.zero_le _, by simp, by simp⟩⟩
/-- Items in a row of one's own, of blocks from B on. -/
def OL (w : World) (B : Nat) (v : Value) (l : List It) : Prop := w.ownsRow B 49 2 v l.length (l.flatMap c2)
theorem step_append_l {ops : Array Oper} {o : Oper} {a : Act} {K : Act → World → Prop} {Q : Exit → Act → World → Prop} {E : Prop} {w : World} (hgd : o.guard = none) (s x : Operand) (ho : o.op = .call { callee := .builtin .append, args := #[s, x], argTypes := #[44, 44] })
    {B X : Nat} {v : Value} {l : List It} (hs : a.eval s = .slice (some ⟨X, 0, none⟩) 0 0) (hx : a.eval x = v) (hX : w.heap[X]? = some (.cells #[] 49 (0, 0))) (hBX : B ≤ X) (hE : OL w 0 v l) (hl : l.length ≤ 1000000)
    (h : ∀ v' w', OL w' B v' l → w.grownBy w' (some X) → K (a.put o.dst v') w') : if Region.wanted o (yielded ops a.tmps) = true then Oper.wp Try.prog o a w K Q else E := by
  have hw : Region.wanted o (yielded ops a.tmps) = true := by simp [Region.wanted, hgd]
  have hXl := (Array.getElem?_eq_some_iff.1 hX).1
  rw [if_pos hw]
  have hown := lit_own hX hBX
  obtain ⟨i0, hi0, hz0, hz1, hz2⟩ := info_parts Try.info49s
  have hE2 := hE
  rcases hE.2 with ⟨rfl, h0⟩ | ⟨g, cap, cur, rfl, _, hg, hnc, hcm, _⟩
  · have hl0 : l = [] := List.length_eq_zero_iff.1 h0
    subst hl0
    unfold Oper.wp execOp
    simp only [ho, resolve, invoke, builtin, Sem.run_bind, Sem.run_pure, Result.andThen_ok, List.map_toArray, List.map_cons, List.map_nil, hs, hx, run_append_empty Try.underlying44 hi0 hown none 0]
    exact h _ w hown (grown_self w _)
  · obtain ⟨v', w', hr, h2, h3, _, h5⟩ := run_append_own_at (P := Try.prog) w B 44 o.type 49 i0 _ 2 16 Try.underlying44 hi0 hz0 hz1 hz2 rfl (by decide) (.slice (some ⟨X, 0, none⟩) 0 0) 0 [] hown ⟨g, 0, none⟩ l.length cap (l.flatMap c2) (flat2_len l) (fun j y hy => World.ownsRow.cells hE2 (g := g) rfl j y hy) (flat2_one l) (by unfold maxLen; omega) (by omega) (by omega)
    unfold Oper.wp execOp
    simp only [ho, resolve, invoke, builtin, Sem.run_bind, Sem.run_pure, Result.andThen_ok, List.map_toArray, List.map_cons, List.map_nil, hs, hx, hr]
    refine h v' w' ?_ h3
    rw [Nat.zero_add, List.nil_append] at h2
    exact h2
/-- What the second append's source says: an item in a block of its own. -/
def Src (w : World) (b : Nat) (x : It) : Prop := w.heap[b]? = some (.cells #[.int .i64 x.1, .int .i64 x.2] 49 (0, 0))
theorem step_append_x {ops : Array Oper} {o : Oper} {a : Act} {K : Act → World → Prop} {Q : Exit → Act → World → Prop} {E : Prop} {w : World} (hgd : o.guard = none) (s y : Operand) (ho : o.op = .call { callee := .builtin .append, args := #[s, y], argTypes := #[44, 44] })
    {B b c : Nat} {v : Value} {l : List It} {x : It} (hs : a.eval s = v) (hy : a.eval y = .slice (some ⟨b, 0, none⟩) 1 c) (hown : OL w B v l) (hS : Src w b x) (hl : l.length ≤ 1000000) (hB : B ≤ w.heap.size)
    (h : ∀ v' w', OL w' B v' (l ++ [x]) → w.grownBy w' v.ownBlock → K (a.put o.dst v') w') : if Region.wanted o (yielded ops a.tmps) = true then Oper.wp Try.prog o a w K Q else E := by
  have hw : Region.wanted o (yielded ops a.tmps) = true := by simp [Region.wanted, hgd]
  rw [if_pos hw]
  obtain ⟨i0, hi0, hz0, hz1, hz2⟩ := info_parts Try.info49s
  obtain ⟨v', w', hr, h2, h3, _, h5⟩ := run_append_own_at (P := Try.prog) w B 44 o.type 49 i0 _ 2 16 Try.underlying44 hi0 hz0 hz1 hz2 rfl (by decide) v l.length (l.flatMap c2) hown ⟨b, 0, none⟩ 1 c (c2 x) rfl (World.news_of_block (cs := #[.int .i64 x.1, .int .i64 x.2]) (t := 49) (fr := (0, 0)) hS) (by simp [c2, Value.oneCell']) (by unfold maxLen; omega) (by omega) hB
  unfold Oper.wp execOp
  simp only [ho, resolve, invoke, builtin, Sem.run_bind, Sem.run_pure, Result.andThen_ok, List.map_toArray, List.map_cons, List.map_nil, hs, hy, hr]
  refine h v' w' ?_ h3
  unfold OL
  rw [List.length_append, List.flatMap_append]
  have e1 : [x].flatMap c2 = c2 x := by simp
  rw [e1]
  exact h2
theorem OL.below {w w' : World} {B : Nat} {v : Value} {l : List It} (h : OL w B v l) (hb : Below w.heap.size w w') : OL w' B v l := ownsRow_below h hb

/-- In order. -/
def Srt (l : List It) : Prop := l.Pairwise fun x y => bt y x = false
def insL (L : List It) (x : It) (j : Nat) : List It := L.take j ++ x :: L.drop j
theorem insL_len (L : List It) (x : It) (j : Nat) (hj : j ≤ L.length) : (insL L x j).length = L.length + 1 := by
  unfold insL
  rw [List.length_append, List.length_cons, List.length_take, List.length_drop]
  omega
theorem insL_perm (L : List It) (x : It) (j : Nat) : (insL L x j).Perm (L ++ [x]) := by
  unfold insL
  have h1 : (L.take j ++ x :: L.drop j).Perm (x :: (L.take j ++ L.drop j)) := List.perm_middle
  rw [List.take_append_drop] at h1
  exact h1.trans (List.perm_append_singleton x L).symm
theorem insL_srt {L : List It} {x : It} {j : Nat} (h : Srt L) (h1 : ∀ m ∈ L.drop j, bt x m = true) (h2 : j = 0 ∨ ∃ y, 0 < j ∧ L[j - 1]? = some y ∧ bt x y = false) : Srt (insL L x j) := by
  unfold Srt insL at *
  have h3 : L.Pairwise (fun x y => bt y x = false) := h
  rw [← List.take_append_drop j L, List.pairwise_append] at h3
  rw [List.pairwise_append, List.pairwise_cons]
  refine ⟨h3.1, ⟨fun m hm => bt_ord.asym (h1 m hm), h3.2.1⟩, fun a ha c hc => ?_⟩
  rcases List.mem_cons.1 hc with rfl | hc
  · rcases h2 with rfl | ⟨y, hj0, hy, hb⟩
    · simp at ha
    · -- all of the first j are no greater than the last of them
      obtain ⟨i, hi, e⟩ := List.mem_iff_getElem.1 ha
      rw [List.length_take] at hi
      have hya : a = y ∨ bt y a = false := by
        have hjl := (List.getElem?_eq_some_iff.1 hy).1
        have e2 : L[i]? = some a := by
          rw [← e, List.getElem_take, List.getElem?_eq_getElem]
        by_cases hij : i = j - 1
        · left
          rw [hij, hy] at e2
          exact (Option.some.inj e2).symm
        · right
          have hpw := List.pairwise_iff_getElem.1 h i (j - 1) (by omega) hjl (by omega)
          rw [List.getElem?_eq_getElem (by omega)] at e2 hy
          rw [← Option.some.inj e2, ← Option.some.inj hy]
          exact hpw
      rcases hya with rfl | hya
      · exact hb
      · exact bt_ord.neg _ _ _ hya hb
  · exact h3.2.2 a ha c hc
theorem insL_swap {L : List It} {x : It} {q : Nat} (hq : q < L.length) (h1 : q < (insL L x (q + 1)).length) (h2 : q + 1 < (insL L x (q + 1)).length) : (insL L x (q + 1))[q]'h1 = L[q] ∧ (insL L x (q + 1))[q + 1]'h2 = x ∧ swapL (insL L x (q + 1)) q (q + 1) h1 h2 = insL L x q := by
  unfold insL at *
  have hl : (L.take (q + 1)).length = q + 1 := by rw [List.length_take]; omega
  have e1 : L.take (q + 1) = L.take q ++ [L[q]] := (List.take_append_getElem hq).symm
  have hlq : (L.take q).length = q := by rw [List.length_take]; omega
  have hg1 : (L.take (q + 1) ++ x :: L.drop (q + 1))[q]'h1 = L[q] := by
    rw [List.getElem_append_left (by omega)]
    simp
  have hg2 : (L.take (q + 1) ++ x :: L.drop (q + 1))[q + 1]'h2 = x := by
    rw [List.getElem_append_right (by omega)]
    simp [hl]
  refine ⟨hg1, hg2, ?_⟩
  unfold swapL
  rw [hg1, hg2, List.drop_eq_getElem_cons hq, e1, List.append_assoc]
  have s1 : (L.take q ++ ([L[q]] ++ x :: L.drop (q + 1))).set q x = L.take q ++ ([x] ++ x :: L.drop (q + 1)) := by
    have := set_append_at (L.take q) ([L[q]] ++ x :: L.drop (q + 1)) 0 x
    rw [hlq] at this
    simpa using this
  rw [s1]
  have s2 := set_append_at (L.take q) ([x] ++ x :: L.drop (q + 1)) 1 L[q]
  rw [hlq] at s2
  simpa using s2
theorem OL.form {w : World} {B : Nat} {v : Value} {l : List It} (h : OL w B v l) (h0 : 0 < l.length) : ∃ g c, v = .slice (some ⟨g, 0, none⟩) l.length c ∧ l.length ≤ c ∧ c ≤ maxLen ∧ B ≤ g ∧ g < w.heap.size ∧ ∀ o, w.frozen? ⟨g, o, none⟩ = false := by
  rcases h.2 with ⟨rfl, hn⟩ | ⟨g, cap, cur, rfl, h1, h2, h3, h4, h5, h6⟩
  · omega
  · exact ⟨g, cap, rfl, h3, h4, h1, (Array.getElem?_eq_some_iff.1 h2).1, fun o => by simp [World.frozen?, h2]⟩
theorem OL.box {w : World} {B g c n : Nat} {l : List It} (h : OL w B (.slice (some ⟨g, 0, none⟩) n c) l) : B ≤ g ∧ g < w.heap.size ∧ ∀ o, w.frozen? ⟨g, o, none⟩ = false := by
  rcases h.2 with ⟨e, _⟩ | ⟨g', cap, cur, e, h1, h2, h3, h4, h5, h6⟩
  · cases e
  · cases e
    exact ⟨h1, (Array.getElem?_eq_some_iff.1 h2).1, fun o => by simp [World.frozen?, h2]⟩
theorem OL.at {w : World} {B g c n : Nat} {l : List It} (h : OL w B (.slice (some ⟨g, 0, none⟩) n c) l) {i : Nat} (hi : i < l.length) : w.cell? ⟨g, i * 2, none⟩ = some (.int .i64 l[i].1) ∧ w.cell? ⟨g, i * 2 + 1, none⟩ = some (.int .i64 l[i].2) := by
  have hc := fun j (hj : j < 2) (u : Value) (hu : (c2 l[i])[j]? = some u) => World.ownsRow.cells h (g := g) rfl (i * 2 + j) u ((flat2_at l i hi j hj).trans hu)
  simp only [Addr.add_mid, Nat.zero_add] at hc
  refine ⟨?_, hc 1 (by omega) _ rfl⟩
  have := hc 0 (by omega) _ rfl
  rwa [Nat.add_zero] at this
theorem OL.swap {w : World} {B g c n : Nat} {l : List It} (h : OL w B (.slice (some ⟨g, 0, none⟩) n c) l) {i j : Nat} (hi : i < l.length) (hj : j < l.length) : OL (put2 (put2 w g (i * 2) l[j]) g (j * 2) l[i]).drew B (.slice (some ⟨g, 0, none⟩) n c) (swapL l i j hi hj) := by
  have h1 := own_put2 (own_put2 h rfl (i * 2) l[j]) rfl (j * 2) l[i]
  rw [set2_flat l i hi l[j], set2_flat _ j (by rw [List.length_set]; exact hj)] at h1
  unfold OL
  rw [swapL_len]
  exact h1
/-- What the document's Retire leaves. -/
def RRet (w : World) (b : Nat) (now : Int) (us : Value) (S : List Int) (L : List It) (id : Int) (w' : World) : Prop := ∃ u L', RS w' b now us S u L' ∧ L'.Perm (L ++ [(id, now)]) ∧ (Srt L → Srt L') ∧ Kx b b w w' ∧ ∀ g, u.ownBlock = some g → w.heap.size ≤ g
theorem RS.wait {w w1 : World} {b : Nat} {now : Int} {us ul u : Value} {S : List Int} {L L' : List It} (h : RS w b now us S ul L) (hb : Below w.heap.size w w1) (hu : OL w1 w.heap.size u L') : RS (w1.setCell ⟨b, 2, none⟩ u) b now us S u L' ∧ Kx b b w (w1.setCell ⟨b, 2, none⟩ u) := by
  have h1 := h.keep hb
  have hl := h.lt
  have hub : u.ownBlock ≠ some b := fun e => by have := (hu.lt b e).1; omega
  have hu0 : w1.ownsRow 0 49 2 u L'.length (L'.flatMap c2) := by
    obtain ⟨q1, q2⟩ := hu
    refine ⟨q1, ?_⟩
    rcases q2 with h | ⟨g', cap, cur, e, _, r⟩
    · exact .inl h
    · exact .inr ⟨g', cap, cur, e, Nat.zero_le _, r⟩
  exact ⟨⟨heap_setCell_same w1 b 2 _ 46 _ h1.box, ownsRow_keep h1.rs (fun g _ e => Below.heap_setCell w1 ⟨b, 2, none⟩ _ g (fun e2 => h.ds (by rw [e, e2]))), ownsRow_keep hu0 (fun g _ e => Below.heap_setCell w1 ⟨b, 2, none⟩ _ g (fun e2 => hub (by rw [e, e2]))), h.ds, hub⟩, (Kx.of_below hb).set 2 _⟩

theorem rret_mk {w wr : World} {b : Nat} {now : Int} {us ul u : Value} {S : List Int} {L : List It} {id : Int} {x : It} {j : Nat} (h : RS w b now us S ul L) (hx : x = (id, now)) (hb : Below w.heap.size w wr) (hu : OL wr w.heap.size u (insL L x j)) (hs : Srt L → Srt (insL L x j)) : RRet w b now us S L id (wr.setCell ⟨b, 2, none⟩ u).drew := by
  obtain ⟨h1, h2⟩ := h.wait hb hu
  refine ⟨u, insL L x j, h1.keep (Below.refl _ _).drew, ?_, hs, h2.drew, fun g e => (World.ownsRow.lt hu g e).1⟩
  rw [← hx]
  exact insL_perm L x j

set_option maxHeartbeats 8000000 in
theorem rretire_any {w : World} {b : Nat} {now : Int} {us ul : Value} {S : List Int} {L : List It} (h : RS w b now us S ul L) (hL : L.length ≤ 100000) (id : Int) : Calls Try.prog 17 #[.pointer (some ⟨b, 0, none⟩), .int .i64 id] w fun e w' => (∃ v, e = .returned v) ∧ RRet w b now us S L id w' := by
  have H := hid_mk h
  obtain ⟨va, vc, rfl⟩ := own_slice h.rl
  have HOL : Hid (OL w 0 (.slice va L.length vc) L) := h.rl
  have hlb : L.length ≤ 1000000 := by omega
  have h1 : Below w.heap.size w ((w.alloc (.cells #[] 49)).drew) := ((Below.refl _ _).alloc (Nat.le_refl _) _).drew
  have HA1 := hid_mk h1
  have HXA : Hid ((w.alloc (.cells #[] 49)).drew.heap[w.heap.size]? = some (.cells #[] 49 (0, 0))) := heap_alloc_last w _
  have hab := two_boxes w (.cells #[] 49) (.cells #[.int .i64 id, .int .i64 now] 49)
  have hba := two_boxes w (.cells #[.int .i64 id, .int .i64 now] 49) (.cells #[] 49)
  have HAB := hid_mk hab
  have HBA := hid_mk hba
  obtain ⟨c0, c1, c2', hf⟩ := h.cells
  obtain ⟨a0, _, a2, _⟩ := (h.keep h1).cells
  obtain ⟨p0, _, p2, _⟩ := (h.keep hab.2.2).cells
  obtain ⟨q0, _, q2, _⟩ := (h.keep hba.2.2).cells
  have hbl := h.lt
  clear h h1 hab hba
  go_enter Try.func17, Try.ntmps17
  go_upto_region 0 with (fail)
  go_cut [4] (fun v wx => Hid (OL wx w.heap.size v (L ++ [(id, now)]) ∧ Below w.heap.size w wx))
  case first =>
    go_region_law (first
      | (refine step_append_l (by rfl) _ _ (by rfl) (B := w.heap.size) (X := w.heap.size) (by rfl) (by rfl) (w := (w.alloc (.cells #[] 49)).drew) HXA.out (Nat.le_refl _) (HOL.out.below HA1.out) hlb ?_; intro v5 w5 ho5 hg5; have HB5 : Hid (Below w.heap.size w w5) := HA1.out.grown hg5 HA1.out.size (fun k e => by cases e; exact Nat.le_refl _); obtain ⟨d0, _, d2, _⟩ := (H.out.keep HB5.out).cells; obtain ⟨a5, c5, rfl⟩ := own_slice ho5; have HO5 := hid_mk ho5; clear ho5 hg5)
      | (refine step_append_l (by rfl) _ _ (by rfl) (B := w.heap.size) (X := w.heap.size) (by rfl) (by rfl) (w := ((w.alloc (.cells #[] 49)).alloc (.cells #[.int .i64 id, .int .i64 now] 49)).drew) HAB.out.1 (Nat.le_refl _) (HOL.out.below HAB.out.2.2) hlb ?_; intro v5 w5 ho5 hg5; have HB5 : Hid (Below w.heap.size w w5) := HAB.out.2.2.grown hg5 HAB.out.2.2.size (fun k e => by cases e; exact Nat.le_refl _); have HS5 : Hid (Src w5 (w.heap.size + 1) (id, now)) := (hg5.block _ (by simp) (by simp)).trans HAB.out.2.1; obtain ⟨d0, _, d2, _⟩ := (H.out.keep HB5.out).cells; obtain ⟨a5, c5, rfl⟩ := own_slice ho5; have HO5 := hid_mk ho5; clear ho5 hg5)
      | (refine step_append_l (by rfl) _ _ (by rfl) (B := w.heap.size) (X := w.heap.size + 1) (by rfl) (by rfl) (w := ((w.alloc (.cells #[.int .i64 id, .int .i64 now] 49)).alloc (.cells #[] 49)).drew) HBA.out.2.1 (Nat.le_succ _) (HOL.out.below HBA.out.2.2) hlb ?_; intro v5 w5 ho5 hg5; have HB5 : Hid (Below w.heap.size w w5) := HBA.out.2.2.grown hg5 HBA.out.2.2.size (fun k e => by cases e; exact Nat.le_succ _); have HS5 : Hid (Src w5 w.heap.size (id, now)) := (hg5.block _ (by simp; omega) (by simp)).trans HBA.out.1; obtain ⟨d0, _, d2, _⟩ := (H.out.keep HB5.out).cells; obtain ⟨a5, c5, rfl⟩ := own_slice ho5; have HO5 := hid_mk ho5; clear ho5 hg5)
      | (refine step_append_x (x := (id, now)) (by rfl) _ _ (by rfl) (B := w.heap.size) (b := w5.heap.size) (by rfl) (by rfl) (w := w5.alloc (.cells #[.int .i64 id, .int .i64 now] 49)) (HO5.out.below ((Below.refl _ _).alloc (Nat.le_refl _) _)) (heap_alloc_last w5 _) hlb (by have := HB5.out.size; simp; omega) ?_; intro v6 w6 ho6 hg6; have HO6 := hid_mk ho6; have HB6 : Hid (Below w.heap.size w w6) := (HB5.out.alloc HB5.out.size _).grown hg6 (by have := HB5.out.size; simp; omega) (fun k e => (HO5.out.lt k e).1); clear ho6 hg6)
      | (refine step_append_x (x := (id, now)) (by rfl) _ _ (by rfl) (B := w.heap.size) (b := w.heap.size + 1) (by rfl) (by rfl) (w := w5) HO5.out HS5.out hlb HB5.out.size ?_; intro v6 w6 ho6 hg6; have HO6 := hid_mk ho6; have HB6 : Hid (Below w.heap.size w w6) := HB5.out.grown hg6 HB5.out.size (fun k e => (HO5.out.lt k e).1); clear ho6 hg6)
      | (refine step_append_x (x := (id, now)) (by rfl) _ _ (by rfl) (B := w.heap.size) (b := w.heap.size) (by rfl) (by rfl) (w := w5) HO5.out HS5.out hlb HB5.out.size ?_; intro v6 w6 ho6 hg6; have HO6 := hid_mk ho6; have HB6 : Hid (Below w.heap.size w w6) := HB5.out.grown hg6 HB5.out.size (fun k e => (HO5.out.lt k e).1); clear ho6 hg6))
    all_goals go_wp2_with fail
    all_goals go_meet
    all_goals exact ⟨HO6.out, HB6.out⟩
  case rest =>
    obtain ⟨hO, hB⟩ := hcut.out
    obtain ⟨g, c, rfl, hc1, hc2, hgB, hgl, _⟩ := hO.form (by simp)
    obtain ⟨x, hx⟩ : ∃ x, x = (id, now) := ⟨_, rfl⟩
    rw [← hx] at hO
    have hlen : (L ++ [(id, now)]).length = L.length + 1 := by simp
    have hlen2 : (L ++ [x]).length = L.length + 1 := by simp
    rw [hlen2] at hO
    rw [hlen] at hc1 ⊢
    have HST : Hid (OL wc w.heap.size (.slice (some ⟨g, 0, none⟩) (L.length + 1) c) (insL L x L.length) ∧ (∀ m ∈ L.drop L.length, bt x m = true) ∧ Below w.heap.size w wc) := ⟨by unfold insL; rw [List.take_length, List.drop_length]; exact hO, by simp, hB⟩
    have HX := hid_mk hx
    unfold maxLen at hc2
    clear hcut hO hB hx hlen hlen2 a0 a2 p0 p2 q0 q2 c0 c1 c2' HA1 HXA HAB HBA
    generalize hn : L.length = n at *
    have HN := hid_mk hn
    clear hn
    have e1 : ((n : Int) + 1 - 1) = (n : Int) := by omega
    go_wp2
    go_loopw [5] (fun p wr => ∃ j : Nat, j ≤ n ∧ p = .int .i64 (j : Int) ∧ Hid (OL wr w.heap.size (.slice (some ⟨g, 0, none⟩) (n + 1) c) (insL L x j) ∧ (∀ m ∈ L.drop j, bt x m = true) ∧ Below w.heap.size w wr)) (fun p _ => (intOf p).toNat)
    case atStart => exact ⟨n, Nat.le_refl _, rfl, HST.out⟩
    case round =>
      clear HST
      obtain ⟨j, hj, rfl, HI⟩ := hrel
      obtain ⟨hO, hG, hB⟩ := HI.out
      have hOl : (insL L x j).length = n + 1 := by rw [insL_len L x j (by have := HN.out; omega), HN.out]
      by_cases h0 : j = 0
      · subst h0
        have HF : Hid (OL wr w.heap.size (.slice (some ⟨g, 0, none⟩) (n + 1) c) (insL L x 0)) := hO
        have HS : Hid (Srt L → Srt (insL L x 0)) := fun hs => insL_srt hs hG (.inl rfl)
        have HE := hid_mk (rret_mk H.out HX.out hB hO HS.out)
        have hr := (H.out.keep hB).cells
        have d2 := hr.2.2.1
        have df := hr.2.2.2 2
        clear hr hO hG hB HI hOl
        go_upto_region 2 with (fail)
        go_region
        all_goals go_wp2
        all_goals go_end0
        all_goals exact ⟨⟨_, rfl⟩, HE.out⟩
      · obtain ⟨q, rfl⟩ : ∃ q, j = q + 1 := ⟨j - 1, by omega⟩
        have hqL : q < L.length := by have := HN.out; omega
        obtain ⟨hs1, hs2, hs3⟩ := insL_swap (x := x) hqL (by omega) (by omega)
        obtain ⟨k0, k1⟩ := hO.at (i := q) (by omega)
        obtain ⟨m0, m1⟩ := hO.at (i := q + 1) (by omega)
        obtain ⟨hgB, hgl, hfz⟩ := hO.box
        have HBX := hid_mk hO.box
        rw [hs1] at k0 k1
        rw [hs2] at m0 m1
        have HSW := hid_mk (hO.swap (i := q) (j := q + 1) (by omega) (by omega))
        rw [hs1, hs2, hs3] at HSW
        obtain ⟨y, hy⟩ : ∃ y, y = L[q] := ⟨_, rfl⟩
        rw [← hy] at k0 k1 HSW
        have HY : Hid (L[q]? = some y) := by rw [Hid, hy]; exact List.getElem?_eq_getElem hqL
        have HGB := hid_mk (And.intro hG hB)
        have HOQ := hid_mk hO
        clear hs1 hs2 hs3 hy hO hG hB HI
        obtain ⟨x1, x2⟩ := x
        obtain ⟨y1, y2⟩ := y
        dsimp only at k0 k1 m0 m1
        have hq1 : (((q + 1 : Nat) : Int) - 1) = (q : Int) := by omega
        have hqp : ((q + 1 : Nat) : Int) > 0 := by omega
        have hix1 : (0 : Int) ≤ (q : Int) := by omega
        have hix2 : (q : Int) < (n : Int) + 1 := by omega
        have hix3 : ((q + 1 : Nat) : Int) < (n : Int) + 1 := by omega
        have HMV : Hid (∀ w', w' = (put2 (put2 wr g (q * 2) (x1, x2)) g ((q + 1) * 2) (y1, y2)).drew.drew → bt (x1, x2) (y1, y2) = true → OL w' w.heap.size (.slice (some ⟨g, 0, none⟩) (n + 1) c) (insL L (x1, x2) q) ∧ (∀ m ∈ L.drop q, bt (x1, x2) m = true) ∧ Below w.heap.size w w') := fun w' hw' hb => by
          subst hw'
          refine ⟨HSW.out.below (Below.refl _ _).drew, fun m hm => ?_, ?_⟩
          · rw [List.drop_eq_getElem_cons hqL] at hm
            rcases List.mem_cons.1 hm with rfl | hm
            · have := HY.out
              rw [List.getElem?_eq_getElem hqL] at this
              rw [Option.some.inj this]
              exact hb
            · exact HGB.out.1 m hm
          · unfold put2
            have hgB2 := HBX.out.1
            exact ((((HGB.out.2.setCell (p := ⟨g, _, none⟩) hgB2 _).setCell (p := ⟨g, _, none⟩) hgB2 _).setCell (p := ⟨g, _, none⟩) hgB2 _).setCell (p := ⟨g, _, none⟩) hgB2 _).drew.drew
        have HSTOP : Hid (bt (x1, x2) (y1, y2) = false → RRet w b now us S L id (wr.setCell ⟨b, 2, none⟩ (.slice (some ⟨g, 0, none⟩) (n + 1) c)).drew) := fun hb => rret_mk H.out HX.out HGB.out.2 HOQ.out (fun hs => insL_srt hs HGB.out.1 (.inr ⟨(y1, y2), by omega, by rw [show q + 1 - 1 = q by omega]; exact HY.out, hb⟩))
        have hrc := (H.out.keep HGB.out.2).cells
        have d2 := hrc.2.2.1
        have df := hrc.2.2.2 2
        clear hrc
        unfold put2 at HMV
        dsimp only at HMV
        by_cases h2 : y2 > x2
        · have hb : bt (x1, x2) (y1, y2) = true := by rw [bt_iff]; exact .inl h2
          have HM := hid_mk (fun w' hw' => HMV.out w' hw' hb)
          clear HMV HSTOP hb
          go_upto_region 2 with (fail)
          go_region
          all_goals go_wp2_with fail
          go_region
          all_goals go_wp2
          all_goals exact ⟨⟨q, by omega, rfl, HM.out _ rfl⟩, by simp [intOf]⟩
        · by_cases h3 : y2 = x2
          · subst h3
            by_cases h4 : y1 > x1
            · have hb : bt (x1, y2) (y1, y2) = true := by rw [bt_iff]; exact .inr ⟨rfl, h4⟩
              have HM := hid_mk (fun w' hw' => HMV.out w' hw' hb)
              have hee : (y2 == y2) = true := by simp
              clear HMV HSTOP hb
              go_upto_region 2 with (fail)
              go_region
              all_goals go_wp2_with fail
              go_region
              all_goals go_wp2
              all_goals exact ⟨⟨q, by omega, rfl, HM.out _ rfl⟩, by simp [intOf]⟩
            · have hb : bt (x1, y2) (y1, y2) = false := by rw [bt_no]; dsimp only; omega
              have HE := hid_mk (HSTOP.out hb)
              have hee : (y2 == y2) = true := by simp
              clear HMV HSTOP hb
              go_upto_region 2 with (fail)
              go_region
              all_goals go_wp2
              all_goals go_end0
              all_goals exact ⟨⟨_, rfl⟩, HE.out⟩
          · have hb : bt (x1, x2) (y1, y2) = false := by rw [bt_no]; dsimp only; omega
            have HE := hid_mk (HSTOP.out hb)
            have hee : (y2 == x2) = false := by rw [beq_eq_false_iff_ne]; exact h3
            clear HMV HSTOP hb
            go_upto_region 2 with (fail)
            go_region
            all_goals go_wp2
            all_goals go_end0
            all_goals exact ⟨⟨_, rfl⟩, HE.out⟩
end Go.Proofs.Ytlnpiadjnjdfiaa.E
