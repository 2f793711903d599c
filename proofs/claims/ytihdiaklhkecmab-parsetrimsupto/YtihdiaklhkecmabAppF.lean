/- The rules of two lists of values, the first of which ends with a block; the declarations of two with a semicolon between. Appends of rows of one's own; rows of none and of one; the same declarations. gouacheref03.SameDecls of two rows of like declarations. -/
import Derived.Test.YtihdiaklhkecmabImpM
namespace Go.Proofs.Ytihdiaklhkecmab
open Go.RowKit

theorem rules_fuel : ∀ (f g : Nat) (l : List V), l.length ≤ f → l.length ≤ g → rulesZ f l = rulesZ g l
  | f, g, [], _, _ => by rw [rulesZ_nil, rulesZ_nil]
  | 0, _, x :: r, h, _ => by simp at h
  | _ + 1, 0, x :: r, _, h => by simp at h
  | f + 1, g + 1, x :: r, hf, hg => by
    rw [List.length_cons] at hf hg
    have h1 := rules_fuel f g r (by omega) (by omega)
    have h2 : ∀ k, rulesZ f ((x :: r).drop (k + 1)) = rulesZ g ((x :: r).drop (k + 1)) := fun k => by
      rw [List.drop_succ_cons]
      exact rules_fuel f g (r.drop k) (by rw [List.length_drop]; omega) (by rw [List.length_drop]; omega)
    rw [rulesZ, rulesZ, h1, h2, h2]
theorem decls_fuel : ∀ (f g : Nat) (l : List V), l.length ≤ f → l.length ≤ g → declsZ f l = declsZ g l
  | f, g, [], _, _ => by rw [declsZ_nil, declsZ_nil]
  | 0, _, x :: r, h, _ => by simp at h
  | _ + 1, 0, x :: r, _, h => by simp at h
  | f + 1, g + 1, x :: r, hf, hg => by
    rw [List.length_cons] at hf hg
    have h1 := decls_fuel f g r (by omega) (by omega)
    have h2 : ∀ k, declsZ f (r.drop k) = declsZ g (r.drop k) := fun k => decls_fuel f g (r.drop k) (by rw [List.length_drop]; omega) (by rw [List.length_drop]; omega)
    rw [declsZ, declsZ, h1, List.drop_succ_cons, h2, h2]
theorem nextZ_app {ks : List Int} : ∀ (l y : List V), nextZ ks l < l.length → nextZ ks (l ++ y) = nextZ ks l
  | [], _, h => by simp [nextZ] at h
  | x :: r, y, h => by
    rw [List.cons_append, nextZ, nextZ]
    cases hx : hasZ ks x.tok.k with
    | true => rfl
    | false =>
      rw [nextZ, hx] at h
      have h' : nextZ ks r < r.length := by simpa using h
      rw [nextZ_app r y h']
theorem nextZ_mem {ks : List Int} : ∀ (l : List V), (∃ x ∈ l, hasZ ks x.tok.k = true) → nextZ ks l < l.length
  | [], h => by obtain ⟨x, hx, _⟩ := h; cases hx
  | x :: r, h => by
    rw [nextZ, List.length_cons]
    cases hx : hasZ ks x.tok.k with
    | true => simp
    | false =>
      have : nextZ ks r < r.length := nextZ_mem r (by
        obtain ⟨y, hy, h2⟩ := h
        rcases List.mem_cons.1 hy with rfl | hy
        · rw [hx] at h2; cases h2
        · exact ⟨y, hy, h2⟩)
      simpa using this
theorem nextZ_not {ks : List Int} : ∀ (l y : List V), ¬ nextZ ks l < l.length → nextZ ks (l ++ y) = l.length + nextZ ks y
  | [], y, _ => by simp
  | x :: r, y, h => by
    rw [List.cons_append, nextZ]
    cases hx : hasZ ks x.tok.k with
    | true =>
      rw [nextZ, hx] at h
      simp at h
    | false =>
      rw [nextZ, hx] at h
      have h' : ¬ nextZ ks r < r.length := by simpa using h
      rw [nextZ_not r y h', List.length_cons]
      simp
      omega
/-- It ends with a block of curly brackets, if with anything. -/
def EndsC (l : List V) : Prop := ∀ x r, l = r ++ [x] → x.tok.k = 23
theorem EndsC.drop {l : List V} (h : EndsC l) (k : Nat) : EndsC (l.drop k) := by
  intro x r e
  refine h x (l.take k ++ r) ?_
  rw [List.append_assoc, ← e, List.take_append_drop]
theorem EndsC.has {x : V} {r : List V} (h : EndsC (x :: r)) : ∃ y ∈ x :: r, y.tok.k = 23 := by
  rcases List.eq_nil_or_concat (x :: r) with e | ⟨r2, y, e⟩
  · cases e
  · rw [List.concat_eq_append] at e
    exact ⟨y, by rw [e]; simp, h y r2 e⟩
theorem rules_app : ∀ (n : Nat) (l y : List V), l.length ≤ n → EndsC l → rulesZ (l ++ y).length (l ++ y) = rulesZ l.length l ++ rulesZ y.length y
  | _, [], y, _, _ => by simp [rulesZ_nil]
  | 0, x :: r, _, h, _ => by simp at h
  | n + 1, x :: r, y, hn, he => by
    rw [List.length_cons] at hn
    obtain ⟨z, hz, hk⟩ := he.has
    have n1 : nextZ [17, 23] (x :: r) < (x :: r).length := nextZ_mem _ ⟨z, hz, by rw [hk]; decide⟩
    have n2 : nextZ [23] (x :: r) < (x :: r).length := nextZ_mem _ ⟨z, hz, by rw [hk]; decide⟩
    have e1 := nextZ_app (x :: r) y n1
    have e2 := nextZ_app (x :: r) y n2
    rw [List.cons_append] at e1 e2
    have ih : ∀ k, rulesZ (r ++ y).length ((r ++ y).drop k) = rulesZ r.length (r.drop k) ++ rulesZ y.length y ∨ r.length < k := fun k => by
      by_cases hk2 : k ≤ r.length
      · left
        have h := rules_app n (r.drop k) y (by rw [List.length_drop]; omega) (he.drop (k + 1))
        rw [List.drop_append_of_le_length hk2, ← rules_fuel (r.drop k ++ y).length (r ++ y).length _ (Nat.le_refl _) (by rw [List.length_append, List.length_append, List.length_drop]; omega), h, rules_fuel (r.drop k).length r.length _ (Nat.le_refl _) (by rw [List.length_drop]; omega)]
      · right; omega
    show rulesZ ((r ++ y).length + 1) (x :: (r ++ y)) = rulesZ (r.length + 1) (x :: r) ++ rulesZ y.length y
    rw [rulesZ, rulesZ]
    split
    · rcases ih 0 with h | h
      · simpa using h
      · omega
    · split
      · rw [e1, List.drop_succ_cons, List.drop_succ_cons]
        rcases ih (nextZ [17, 23] (x :: r)) with h | h
        · exact h
        · rw [List.length_cons] at n1; omega
      · have n3 : nextZ [23] (x :: (r ++ y)) < (x :: (r ++ y)).length := by
          rw [e2]
          rw [List.length_cons] at n2 ⊢
          rw [List.length_append]
          omega
        rw [dif_pos n3]
        have hr : rulesZ (r ++ y).length ((x :: (r ++ y)).drop (nextZ [23] (x :: (r ++ y)) + 1)) = rulesZ r.length ((x :: r).drop (nextZ [23] (x :: r) + 1)) ++ rulesZ y.length y := by
          rw [e2, List.drop_succ_cons, List.drop_succ_cons]
          rcases ih (nextZ [23] (x :: r)) with h | h
          · exact h
          · rw [List.length_cons] at n2; omega
        have ht : (x :: (r ++ y)).take (nextZ [23] (x :: (r ++ y))) = (x :: r).take (nextZ [23] (x :: r)) := by
          rw [e2, ← List.cons_append, List.take_append_of_le_length (by omega)]
        have hg : ((x :: (r ++ y))[nextZ [23] (x :: (r ++ y))]'n3) = (x :: r)[nextZ [23] (x :: r)]'n2 := by
          have h : ((x :: r) ++ y)[nextZ [23] (x :: r)]? = (x :: r)[nextZ [23] (x :: r)]? := List.getElem?_append_left n2
          have h2 : (x :: (r ++ y))[nextZ [23] (x :: (r ++ y))]? = (x :: (r ++ y))[nextZ [23] (x :: r)]? := congrArg (fun k => (x :: (r ++ y))[k]?) e2
          rw [List.getElem?_eq_getElem n3] at h2
          rw [List.getElem?_eq_getElem n2] at h
          exact Option.some.inj (h2.trans h)
        rw [hr, ht, hg, List.cons_append]
theorem decls_app (s : V) (hs : s.tok.k = 17) : ∀ (n : Nat) (l y : List V), l.length ≤ n → declsZ (l ++ s :: y).length (l ++ s :: y) = declsZ l.length l ++ declsZ y.length y
  | _, [], y, _ => by
    rw [List.nil_append, List.length_cons, declsZ, if_pos (by rw [hs]; decide), declsZ_nil]
    rfl
  | 0, x :: r, _, h => by simp at h
  | n + 1, x :: r, y, hn => by
    rw [List.length_cons] at hn
    have hy : ∀ m, y.length ≤ m → declsZ m y = declsZ y.length y := fun m hm => decls_fuel m y.length y hm (Nat.le_refl _)
    have ih : ∀ k, k ≤ r.length → declsZ (r ++ s :: y).length ((r ++ s :: y).drop k) = declsZ r.length (r.drop k) ++ declsZ y.length y := fun k hk2 => by
      have h := decls_app s hs n (r.drop k) y (by rw [List.length_drop]; omega)
      rw [List.drop_append_of_le_length hk2, ← decls_fuel (r.drop k ++ s :: y).length (r ++ s :: y).length _ (Nat.le_refl _) (by rw [List.length_append, List.length_append, List.length_drop]; omega), h, decls_fuel (r.drop k).length r.length _ (Nat.le_refl _) (by rw [List.length_drop]; omega)]
    show declsZ ((r ++ s :: y).length + 1) (x :: (r ++ s :: y)) = declsZ (r.length + 1) (x :: r) ++ declsZ y.length y
    rw [declsZ, declsZ]
    split
    · have h := ih 0 (by omega)
      simpa using h
    · split
      · by_cases n1 : nextZ [17, 23] (x :: r) < (x :: r).length
        · have e1 := nextZ_app (x :: r) (s :: y) n1
          rw [List.cons_append] at e1
          rw [e1, List.drop_succ_cons, List.drop_succ_cons]
          exact ih _ (by rw [List.length_cons] at n1; omega)
        · have e1 := nextZ_not (x :: r) (s :: y) n1
          rw [List.cons_append] at e1
          have e2 : nextZ [17, 23] (s :: y) = 0 := by rw [nextZ, hs]; rfl
          have hle := nextZ_le [17, 23] (x :: r)
          have e3 : nextZ [17, 23] (x :: r) = (x :: r).length := by omega
          rw [e1, e2, e3, List.length_cons, List.drop_succ_cons, List.drop_succ_cons]
          have d1 : (r ++ s :: y).drop (r.length + 1 + 0) = y := by
            rw [Nat.add_zero, ← List.drop_drop, List.drop_left]
            rfl
          have d2 : r.drop (r.length + 1) = [] := List.drop_eq_nil_of_le (by omega)
          rw [d1, d2, declsZ_nil, List.nil_append, hy]
          rw [List.length_append, List.length_cons]
          omega
      · by_cases n1 : nextZ [17] r < r.length
        · have e1 := nextZ_app r (s :: y) n1
          rw [e1, List.take_append_of_le_length (by omega), ih _ (by omega), List.append_assoc]
        · have e1 := nextZ_not r (s :: y) n1
          have e2 : nextZ [17] (s :: y) = 0 := by rw [nextZ, hs]; rfl
          have hle := nextZ_le [17] r
          have e3 : nextZ [17] r = r.length := by omega
          rw [e1, e2, e3, Nat.add_zero, List.take_left, List.drop_left, List.take_length, List.drop_length, declsZ_nil, List.append_nil]
          have d : declsZ (r ++ s :: y).length (s :: y) = declsZ y.length y := by
            rw [List.length_append, List.length_cons, ← Nat.add_assoc, declsZ, if_pos (by rw [hs]; decide)]
            exact hy _ (by omega)
          rw [d]

end Go.Proofs.Ytihdiaklhkecmab
namespace Go.Proofs.Ytihdiaklhkecmab
open Go.RowKit
set_option maxRecDepth 100000

/-- An append of a row of one's own to another. -/
theorem wpList_append_owns {ops : Array Oper} {rest : List Oper} {o : Oper} {a : Act} {Q : Exit → Act → World → Prop} {w : World} (hgd : o.guard = none) (s x : Operand) (t : TypeId) (ho : o.op = .call { callee := .builtin .append, args := #[s, x], argTypes := #[t, t] })
    {B B2 : Nat} {e : TypeId} {i : TypeInfo} {z : Value} {size bytes : Nat} (ht : Try.prog.underlying t = some (.slice e)) (hi : Try.prog.info? e = some i) (hz : i.zero = some z) (hsize : i.size = size) (hby : i.bytes = bytes) (hzs : z.cells.size = size) (hsz : 0 < size) (hbl : bytes ≤ 1000)
    {v u : Value} {n m : Nat} {xs ys : List Value} (hs : a.eval s = v) (hx : a.eval x = u) (hown : w.ownsRow B e size v n xs) (hsrc : w.ownsRow B2 e size u m ys) (h1 : ∀ y ∈ ys, y.oneCell' = true) (hn : n + m ≤ 1000000) (hB : B ≤ w.heap.size)
    (h : ∀ v' w', w'.ownsRow B e size v' (n + m) (xs ++ ys) → w.grownBy w' v.ownBlock → (v'.ownBlock = v.ownBlock ∨ v'.ownBlock = some w.heap.size) → wpList Try.prog ops Q rest (a.put o.dst v') w') : wpList Try.prog ops Q (o :: rest) a w := by
  have hsrc0 := hsrc
  obtain ⟨hl, hc⟩ := hsrc
  rcases hc with ⟨rfl, h0⟩ | ⟨g, cap, cur, rfl, _, hg, hnc, hcm, hszz, hcur⟩
  · subst h0
    have hy0 : ys = [] := List.length_eq_zero_iff.1 (by simpa using hl)
    subst hy0
    refine wpList_append_same w hgd s x t ho v _ hs hx (run_append_empty ht hi hown _ _) ?_
    exact h v w (by simpa using hown) ⟨rfl, rfl, rfl, Nat.le_refl _, fun _ _ _ => rfl⟩ (.inl rfl)
  · refine wpList_append_own_at w hgd s x t ho B e i z size bytes ht hi hz hsize hby hzs hsz v n xs hs hown ⟨g, 0, none⟩ m cap ys hx hl (fun j y hy => ?_) h1 (by unfold maxLen; omega) ?_ hB ?_
    · have hlt := (List.getElem?_eq_some_iff.1 hy).1
      rw [Addr.add_mid, Nat.zero_add]
      rw [← hcur, List.getElem?_take_of_lt (by rw [← hl]; exact hlt)] at hy
      simp only [World.cell?, hg]
      simpa using hy
    · exact Nat.le_trans (Nat.mul_le_mul hn hbl) (by decide)
    · intro v' w' q1 q2 _ q4
      exact h v' w' q1 q2 q4
theorem Row2.cat {P : Nat → Prop} {B : Nat} {w w' : World} {out v' : Value} {ps qs : List B2} (h : Row2 P B w out ps) (hk : ∀ x ∈ qs, VsAt (fun b => P b ∧ out.ownBlock ≠ some b) w x.p x.pv ∧ VsAt (fun b => P b ∧ out.ownBlock ≠ some b) w x.b x.bv)
    (hown : w'.ownsRow B 39 2 v' (ps.length + qs.length) ((ps.flatMap fun x => [x.p, x.b]) ++ (qs.flatMap fun x => [x.p, x.b]))) (hg : w.grownBy w' out.ownBlock) (hat : v'.ownBlock = out.ownBlock ∨ v'.ownBlock = some w.heap.size) (hP : P w.heap.size) : Row2 P B w' v' (ps ++ qs) := by
  have keep : ∀ {x : Value} {xs : List V}, VsAt (fun b => P b ∧ out.ownBlock ≠ some b) w x xs → VsAt (fun b => P b ∧ v'.ownBlock ≠ some b) w' x xs := by
    intro x xs hx
    have h1 : VsAt (fun b => (P b ∧ out.ownBlock ≠ some b) ∧ v'.ownBlock ≠ some b) w x xs := hx.wider (fun b hb hlt => ⟨hb, by
      rcases hat with e | e
      · rw [e]; exact hb.2
      · rw [e]
        intro e2
        have := Option.some.inj e2
        omega⟩)
    have h2 := h1.stay (W' := w') hg.size (fun b hb hlt => hg.block b hlt (fun e => hb.1.2 e.symm))
    exact h2.wider (fun b hb _ => ⟨hb.1.1, hb.2⟩)
  refine ⟨?_, ?_, ?_⟩
  · rw [List.length_append, List.flatMap_append]
    exact hown
  · intro g hgo
    rcases hat with e | e
    · exact h.2.1 g (e.symm.trans hgo)
    · rw [e] at hgo
      cases hgo
      exact hP
  · intro p hp
    rcases List.mem_append.1 hp with hp | hp
    · exact ⟨keep (h.2.2 p hp).1, keep (h.2.2 p hp).2⟩
    · exact ⟨keep (hk p hp).1, keep (hk p hp).2⟩
theorem Row3.cat {P : Nat → Prop} {B : Nat} {w w' : World} {out v' : Value} {ps qs : List D3} (h : Row3 P B w out ps) (hk : ∀ x ∈ qs, VsAt (fun b => P b ∧ out.ownBlock ≠ some b) w x.v x.vv)
    (hown : w'.ownsRow B 41 3 v' (ps.length + qs.length) ((ps.flatMap D3.cells) ++ (qs.flatMap D3.cells))) (hg : w.grownBy w' out.ownBlock) (hat : v'.ownBlock = out.ownBlock ∨ v'.ownBlock = some w.heap.size) (hP : P w.heap.size) : Row3 P B w' v' (ps ++ qs) := by
  have keep : ∀ {x : Value} {xs : List V}, VsAt (fun b => P b ∧ out.ownBlock ≠ some b) w x xs → VsAt (fun b => P b ∧ v'.ownBlock ≠ some b) w' x xs := by
    intro x xs hx
    have h1 : VsAt (fun b => (P b ∧ out.ownBlock ≠ some b) ∧ v'.ownBlock ≠ some b) w x xs := hx.wider (fun b hb hlt => ⟨hb, by
      rcases hat with e | e
      · rw [e]; exact hb.2
      · rw [e]
        intro e2
        have := Option.some.inj e2
        omega⟩)
    have h2 := h1.stay (W' := w') hg.size (fun b hb hlt => hg.block b hlt (fun e => hb.1.2 e.symm))
    exact h2.wider (fun b hb _ => ⟨hb.1.1, hb.2⟩)
  refine ⟨?_, ?_, ?_⟩
  · rw [List.length_append, List.flatMap_append]
    exact hown
  · intro g hgo
    rcases hat with e | e
    · exact h.2.1 g (e.symm.trans hgo)
    · rw [e] at hgo
      cases hgo
      exact hP
  · intro p hp
    rcases List.mem_append.1 hp with hp | hp
    · exact keep (h.2.2 p hp)
    · exact keep (hk p hp)
/-- The same at one step, whatever comes behind it. -/
theorem wp_append_row {o : Oper} {a : Act} {K : Act → World → Prop} {Q : Exit → Act → World → Prop} {w : World} (s x : Operand) (ho : o.op = .call { callee := .builtin .append, args := #[s, x], argTypes := #[22, 22] })
    {P : Nat → Prop} {B : Nat} {v u : Value} {ps : List (T5 × Value × List V)} {vs : List V} (hs : a.eval s = v) (hx : a.eval x = u) (hrow : Row P B w v ps) (hu : VsAt (fun b => P b ∧ v.ownBlock ≠ some b) w u vs) (hn : ps.length + vs.length ≤ 1000000) (hB : B ≤ w.heap.size) (hP : P w.heap.size)
    (h : ∀ v' w' qs, Row P B w' v' (ps ++ qs) → qs.map mkV = vs → w.grownBy w' v.ownBlock → (v'.ownBlock = v.ownBlock ∨ v'.ownBlock = some w.heap.size) → K (a.put o.dst v') w') : Oper.wp Try.prog o a w K Q := by
  obtain ⟨i0, hi0, hz0, hz1, hz2⟩ := info_parts Try.info29
  obtain ⟨ua, uc, rfl, _, _⟩ := hu.slice
  obtain ⟨qs, hq1, hq2, hq3, hq4⟩ := hu.parts
  have hql : qs.length = vs.length := by rw [← hq1, List.length_map]
  by_cases h0 : 0 < vs.length
  · obtain ⟨b, off, rfl, _, _, hcell⟩ := hq4 h0
    obtain ⟨v', w', hr, h2, h3, h4, h5⟩ := run_append_own_at (P := Try.prog) w B 22 o.type 29 i0 _ 6 72 Try.underlying22 hi0 hz0 hz1 hz2 rfl (by decide) v ps.length _ hrow.1 ⟨b, off, none⟩ vs.length uc _ (by rw [flat6_len, hql]) hcell hq3 (by unfold maxLen; omega) (by omega) hB
    unfold Oper.wp execOp
    simp only [ho, resolve, invoke, builtin, Sem.run_bind, Sem.run_pure, Result.andThen_ok, List.map_toArray, List.map_cons, List.map_nil, hs, hx, hr]
    exact h v' w' qs (hrow.cat hq2 (by rw [hql]; exact h2) h3 h5 hP) hq1 h3 h5
  · have hv0 : vs = [] := List.length_eq_zero_iff.1 (by omega)
    subst hv0
    have hq0 : qs = [] := by simpa using hq1
    subst hq0
    have hr : (Builtin.append_ #[22, 22] o.type #[v, .slice ua 0 uc]).run Try.prog w = .ok v w := run_append_empty Try.underlying22 hi0 hrow.1 ua uc
    unfold Oper.wp execOp
    simp only [ho, resolve, invoke, builtin, Sem.run_bind, Sem.run_pure, Result.andThen_ok, List.map_toArray, List.map_cons, List.map_nil, hs, hx, List.length_nil, hr]
    exact h v w [] (by simpa using hrow) rfl ⟨rfl, rfl, rfl, Nat.le_refl _, fun _ _ _ => rfl⟩ (.inl rfl)
theorem step_append_row {ops : Array Oper} {o : Oper} {a : Act} {K : Act → World → Prop} {Q : Exit → Act → World → Prop} {E : Prop} {w : World} (hgd : o.guard = none) (s x : Operand) (ho : o.op = .call { callee := .builtin .append, args := #[s, x], argTypes := #[22, 22] })
    {P : Nat → Prop} {B : Nat} {v u : Value} {ps : List (T5 × Value × List V)} {vs : List V} (hs : a.eval s = v) (hx : a.eval x = u) (hrow : Row P B w v ps) (hu : VsAt (fun b => P b ∧ v.ownBlock ≠ some b) w u vs) (hn : ps.length + vs.length ≤ 1000000) (hB : B ≤ w.heap.size) (hP : P w.heap.size)
    (h : ∀ v' w' qs, Row P B w' v' (ps ++ qs) → qs.map mkV = vs → w.grownBy w' v.ownBlock → (v'.ownBlock = v.ownBlock ∨ v'.ownBlock = some w.heap.size) → K (a.put o.dst v') w') : if Region.wanted o (yielded ops a.tmps) = true then Oper.wp Try.prog o a w K Q else E := by
  have hw : Region.wanted o (yielded ops a.tmps) = true := by simp [Region.wanted, hgd]
  rw [if_pos hw]
  exact wp_append_row s x ho hs hx hrow hu hn hB hP h
/-- The row of none that a literal makes. -/
theorem Row.none (w : World) (B : Nat) (hB : B ≤ w.heap.size) : Row (fun _ => True) B (w.alloc (.cells #[] 29)) (.slice (some ⟨w.heap.size, 0, Option.none⟩) 0 0) [] :=
  ⟨World.ownsRow_lit (base := B) (e := 29) (size := 6) w #[] 0 hB (by decide) rfl, fun _ _ => trivial, fun p hp => by cases hp⟩
theorem Row2.none (w : World) (B : Nat) (hB : B ≤ w.heap.size) : Row2 (fun _ => True) B (w.alloc (.cells #[] 39)) (.slice (some ⟨w.heap.size, 0, Option.none⟩) 0 0) [] :=
  ⟨World.ownsRow_lit (base := B) (e := 39) (size := 2) w #[] 0 hB (by decide) rfl, fun _ _ => trivial, fun p hp => by cases hp⟩
theorem balloc {w w' : World} (h : Below w.heap.size w w') (o : Obj) : Below w.heap.size w (w'.alloc o) := h.alloc h.size o
theorem bgrown {w0 w w' : World} {row : Option Nat} (h : Below w0.heap.size w0 w) (hg : w.grownBy w' row) (hr : ∀ k, row = some k → w0.heap.size ≤ k) : Below w0.heap.size w0 w' := h.grown hg h.size hr
/-- The row of one that a literal makes. -/
theorem VsAt.one (w : World) (k : Int) (tx un : ByteArray) (wh fl : Bool) : VsAt (fun b => b = w.heap.size) (w.alloc (.cells #[.int .i64 k, .string tx, .string un, .bool wh, .bool fl, .slice Option.none 0 0] 29)) (.slice (some ⟨w.heap.size, 0, Option.none⟩) 1 1) [V.mk ⟨k, tx, un, wh, fl⟩ []] := by
  have h : Row (fun b => b = w.heap.size) w.heap.size (w.alloc (.cells #[.int .i64 k, .string tx, .string un, .bool wh, .bool fl, .slice Option.none 0 0] 29)) (.slice (some ⟨w.heap.size, 0, Option.none⟩) 1 1) [((⟨k, tx, un, wh, fl⟩ : T5), .slice Option.none 0 0, [])] := by
    refine ⟨World.ownsRow_lit (base := w.heap.size) (e := 29) (size := 6) w #[.int .i64 k, .string tx, .string un, .bool wh, .bool fl, .slice Option.none 0 0] 1 (Nat.le_refl _) (by decide) rfl, fun g hg => (Option.some.inj hg).symm, fun p hp => ?_⟩
    simp at hp
    subst hp
    exact VsAt.nil _ _
  exact h.vals
theorem VsAt.at {P : Nat → Prop} {w : World} {k n c : Nat} {vs : List V} (h : VsAt P w (.slice (some ⟨k, 0, Option.none⟩) n c) vs) (k' : Nat) (e : k = k') : VsAt P w (.slice (some ⟨k', 0, Option.none⟩) n c) vs := e ▸ h
/-- A row of one that was made ahead of an append to another row stays. -/
theorem VsAt.far {wA w4 : World} {k0 k1 n c : Nat} {v4 u : Value} {vs : List V} (h : VsAt (fun b => b = k1) wA u vs) (hg : wA.grownBy w4 (Value.slice (some ⟨k0, 0, Option.none⟩) n c).ownBlock) (hne : k0 ≠ k1) (hlt : k1 < wA.heap.size) (hat : v4.ownBlock = (Value.slice (some ⟨k0, 0, Option.none⟩) n c).ownBlock ∨ v4.ownBlock = some wA.heap.size) : VsAt (fun b => True ∧ v4.ownBlock ≠ some b) w4 u vs := by
  have h2 := h.stay (W' := w4) hg.size (fun b hb hl => hg.block b hl (fun e => by
    have : k0 = b := Option.some.inj e.symm
    omega))
  refine h2.wider (fun b hb _ => ⟨trivial, fun e => ?_⟩)
  rcases hat with e2 | e2
  · rw [e2] at e
    have : k0 = b := Option.some.inj e
    omega
  · rw [e2] at e
    have := Option.some.inj e
    omega
theorem owns_mono {w : World} {B B' e size n : Nat} {v : Value} {xs : List Value} (h : w.ownsRow B' e size v n xs) (hB : B ≤ B') : w.ownsRow B e size v n xs := by
  obtain ⟨hl, h⟩ := h
  rcases h with h | ⟨g, cap, cur, h1, h2, r⟩
  · exact ⟨hl, .inl h⟩
  · exact ⟨hl, .inr ⟨g, cap, cur, h1, Nat.le_trans hB h2, r⟩⟩
theorem Row2.ones {P : Nat → Prop} {B : Nat} {w : World} {out : Value} {ps : List B2} (h : Row2 P B w out ps) : ∀ y ∈ ps.flatMap (fun x => [x.p, x.b]), y.oneCell' = true := by
  intro y hy
  obtain ⟨x, hx, hy⟩ := List.mem_flatMap.1 hy
  obtain ⟨a1, c1, e1, _, _⟩ := (h.2.2 x hx).1.slice
  obtain ⟨a2, c2, e2, _, _⟩ := (h.2.2 x hx).2.slice
  simp only [List.mem_cons, List.not_mem_nil, or_false] at hy
  rcases hy with rfl | rfl
  · rw [e1]; rfl
  · rw [e2]; rfl
theorem Row3.ones {P : Nat → Prop} {B : Nat} {w : World} {out : Value} {ps : List D3} (h : Row3 P B w out ps) : ∀ y ∈ ps.flatMap D3.cells, y.oneCell' = true := by
  intro y hy
  obtain ⟨x, hx, hy⟩ := List.mem_flatMap.1 hy
  obtain ⟨a1, c1, e1, _, _⟩ := (h.2.2 x hx).slice
  simp only [D3.cells, List.mem_cons, List.not_mem_nil, or_false] at hy
  rcases hy with rfl | rfl | rfl
  · rfl
  · rw [e1]; rfl
  · rfl
theorem rules_len : ∀ (f : Nat) (l : List V), (rulesZ f l).length ≤ l.length
  | 0, _ => by simp [rulesZ]
  | _ + 1, [] => by simp [rulesZ]
  | f + 1, x :: r => by
    have h1 := rules_len f r
    have h2 : ∀ k, (rulesZ f ((x :: r).drop (k + 1))).length ≤ r.length := fun k => by
      have := rules_len f ((x :: r).drop (k + 1))
      rw [List.drop_succ_cons, List.length_drop] at this
      rw [List.drop_succ_cons]
      omega
    rw [rulesZ]
    show _ ≤ r.length + 1
    split
    · omega
    · split
      · have := h2 (nextZ [17, 23] (x :: r)); omega
      · split
        · have := h2 (nextZ [23] (x :: r)); rw [List.length_cons]; omega
        · simp
theorem decls_len : ∀ (f : Nat) (l : List V), (declsZ f l).length ≤ l.length
  | 0, _ => by simp [declsZ]
  | _ + 1, [] => by simp [declsZ]
  | f + 1, x :: r => by
    have h1 := decls_len f r
    have h2 : ∀ k, (declsZ f (r.drop k)).length ≤ r.length := fun k => by
      have := decls_len f (r.drop k)
      rw [List.length_drop] at this
      omega
    rw [declsZ, List.length_cons]
    split
    · omega
    · split
      · rw [List.drop_succ_cons]
        have := h2 (nextZ [17, 23] (x :: r)); omega
      · have := h2 (nextZ [17] r)
        rw [List.length_append]
        have : (declZ x (r.take (nextZ [17] r))).toList.length ≤ 1 := by
          cases declZ x (r.take (nextZ [17] r)) <;> simp
        omega
theorem flat2_at : ∀ (ps : List B2) (k i : Nat) (h : k < ps.length), i < 2 → (ps.flatMap fun x => [x.p, x.b])[k * 2 + i]? = [(ps[k]'h).p, (ps[k]'h).b][i]?
  | [], k, _, h, _ => by simp at h
  | t :: r, 0, i, _, hi => by
    simp only [List.flatMap_cons, Nat.zero_mul, Nat.zero_add]
    rw [List.getElem?_append_left (by simpa using hi)]
    rfl
  | t :: r, k + 1, i, h, hi => by
    have e : (k + 1) * 2 + i = 2 + (k * 2 + i) := by omega
    rw [List.flatMap_cons, e, List.getElem?_append_right (by simp)]
    have e2 : 2 + (k * 2 + i) - [t.p, t.b].length = k * 2 + i := by simp
    rw [e2]
    exact flat2_at r k i (by simpa using h) hi

end Go.Proofs.Ytihdiaklhkecmab
namespace Go.Proofs.Ytihdiaklhkecmab
open Go.RowKit
set_option maxRecDepth 100000

theorem flat3_at : ∀ (ps : List D3) (k i : Nat) (h : k < ps.length), i < 3 → (ps.flatMap D3.cells)[k * 3 + i]? = ((ps[k]'h).cells)[i]?
  | [], k, _, h, _ => by simp at h
  | t :: r, 0, i, _, hi => by
    simp only [List.flatMap_cons, Nat.zero_mul, Nat.zero_add]
    rw [List.getElem?_append_left (by simpa [D3.cells] using hi)]
    rfl
  | t :: r, k + 1, i, h, hi => by
    have e : (k + 1) * 3 + i = 3 + (k * 3 + i) := by omega
    rw [List.flatMap_cons, e, List.getElem?_append_right (by simp [D3.cells])]
    have e2 : 3 + (k * 3 + i) - (D3.cells t).length = k * 3 + i := by simp [D3.cells]
    rw [e2]
    exact flat3_at r k i (by simpa using h) hi
theorem owns_cells {w : World} {B e size n : Nat} {v : Value} {xs : List Value} (h : w.ownsRow B e size v n xs) : ∃ a cap, v = .slice a n cap ∧ n ≤ cap ∧ cap ≤ 9223372036854775807 ∧ (0 < n → ∃ g, a = some ⟨g, 0, none⟩ ∧ g < w.heap.size ∧ ∀ j y, xs[j]? = some y → w.cell? ⟨g, j, none⟩ = some y) := by
  obtain ⟨hl, hc⟩ := h
  rcases hc with ⟨rfl, h0⟩ | ⟨g, cap, cur, rfl, _, hg, hnc, hcm, hszz, hcur⟩
  · subst h0
    exact ⟨none, 0, rfl, Nat.le_refl _, by decide, fun h => absurd h (by decide)⟩
  · refine ⟨_, cap, rfl, hnc, hcm, fun _ => ⟨g, rfl, (Array.getElem?_eq_some_iff.1 hg).1, fun j y hy => ?_⟩⟩
    have hlt := (List.getElem?_eq_some_iff.1 hy).1
    rw [← hcur, List.getElem?_take_of_lt (by rw [← hl]; exact hlt)] at hy
    simp only [World.cell?, hg]
    simpa using hy
end Go.Proofs.Ytihdiaklhkecmab
