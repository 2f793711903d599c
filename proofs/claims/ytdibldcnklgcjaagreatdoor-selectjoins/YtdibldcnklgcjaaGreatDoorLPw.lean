/- selector.Parse, whatever the values. selector.Parse, whatever the values: the walk. -/
import Derived.Test.YtdibldcnklgcjaaGreatDoorLPf
namespace Go.Proofs.YtdibldcnklgcjaaGreatDoor.L
open Go.RowKit
set_option maxRecDepth 100000

mutual
def V.cnt : V → Nat
  | .mk _ l => cntL l + 1
def cntL : List V → Nat
  | [] => 0
  | v :: r => v.cnt + cntL r
end
theorem cnt_kids (v : V) : v.cnt = cntL v.kids + 1 := by
  cases v with
  | mk t l => rw [V.cnt]; rfl
theorem cntL_eq : ∀ vs : List V, cntL vs = ((vs.map V.kids).map fun k => cntL k + 1).sum
  | [] => rfl
  | v :: r => by
    rw [cntL, cntL_eq r, cnt_kids, List.map_cons, List.map_cons, List.sum_cons]
theorem sum_sub {α : Type} (f : α → Nat) {a b : List α} (h : List.Sublist a b) : (a.map f).sum ≤ (b.map f).sum := by
  induction h with
  | slnil => exact Nat.le_refl _
  | cons x _ ih => rw [List.map_cons, List.sum_cons]; omega
  | cons_cons x _ ih => rw [List.map_cons, List.sum_cons, List.map_cons, List.sum_cons]; omega
/-- A task: the slice, its values, where their list belongs. -/
abbrev T3 := Value × List V × Addr
def rowC (ts : List T3) : List Value := tsC (ts.map fun x => (x.1, x.2.2))
def wgt (ts : List T3) : Nat := (ts.map fun x => cntL x.2.1 + 1).sum
theorem wgt_len (ts : List T3) : ts.length ≤ wgt ts := by
  induction ts with
  | nil => exact Nat.le_refl _
  | cons x r ih =>
    unfold wgt at ih ⊢
    rw [List.map_cons, List.sum_cons, List.length_cons]
    omega
theorem wgt_append (a b : List T3) : wgt (a ++ b) = wgt a + wgt b := by simp [wgt]
theorem rowC_append (a b : List T3) : rowC (a ++ b) = rowC a ++ rowC b := by simp [rowC, tsC]
theorem rowC_len (a : List T3) : (rowC a).length = a.length * 2 := by
  induction a with
  | nil => rfl
  | cons x r ih =>
    have e : rowC (x :: r) = [x.1, .pointer (some x.2.2)] ++ rowC r := rfl
    rw [e, List.length_append, ih, List.length_cons]
    simp
    omega
/-- What is answered once the tasks are done. -/
def Cont (O : Nat) (ts : List T3) (S : Nat → Prop) (w : World) (R : List Cx) : Prop := ∀ W' : World, w.heap.size ≤ W'.heap.size → (∀ b o, S b → (∀ x ∈ ts, x.2.2 ≠ ⟨b, o, none⟩) → W'.cell? ⟨b, o, none⟩ = w.cell? ⟨b, o, none⟩) → (∀ x ∈ ts, ∃ L u, parseZ x.2.1 = some L ∧ W'.cell? x.2.2 = some u ∧ ClAt W' u L) → ∃ u, W'.cell? ⟨O, 0, none⟩ = some u ∧ ClAt W' u R
/-- What the loop of Parse keeps. -/
structure PaGo (W : World) (R0 : Option (List Cx)) (ts : List T3) (S : Nat → Prop) (v : Value) (w : World) : Prop where
  row : w.ownsRow (W.heap.size + 1) 59 2 v ts.length (rowC ts)
  vals : ∀ x ∈ ts, VsAt (· < W.heap.size) w x.1 x.2.1 ∧ Fit x.2.1
  low : Below W.heap.size W w
  apart : ts.Pairwise fun x y => x.2.2 ≠ y.2.2
  at' : ∀ x ∈ ts, S x.2.2.block ∧ (∃ g o, x.2.2 = ⟨g, o, none⟩) ∧ ∃ cur T, w.heap[x.2.2.block]? = some (.cells cur T (0, 0)) ∧ x.2.2.off < cur.size ∧ (T = 27 ∨ T = 40)
  inS : ∀ b, S b → W.heap.size ≤ b ∧ b < w.heap.size ∧ v.ownBlock ≠ some b ∧ ∀ c fr, w.heap[b]? ≠ some (.cells c 44 fr)
  out : S W.heap.size ∧ ∃ c, w.heap[W.heap.size]? = some (.cells c 27 (0, 0)) ∧ c.size = 1 ∧ ∃ a n k, c[0]? = some (.slice a n k)
  bad : R0 = none → ∃ x ∈ ts, parseZ x.2.1 = none
  good : ∀ R, R0 = some R → (∀ x ∈ ts, ∃ L, parseZ x.2.1 = some L) ∧ Cont W.heap.size ts S w R
  cnt : wgt ts ≤ 500001
theorem own_take {W : World} {B : Nat} {T : TypeId} {s n m g cap : Nat} {xs : List Value} (h : W.ownsRow B T s (.slice (some ⟨g, 0, none⟩) n cap) n xs) (hm : m ≤ n) : W.ownsRow B T s (.slice (some ⟨g, 0, none⟩) m cap) m (xs.take (m * s)) := by
  have hms : m * s ≤ n * s := Nat.mul_le_mul_right s hm
  refine ⟨by rw [List.length_take, h.1]; omega, .inr ?_⟩
  rcases h.2 with ⟨e, _⟩ | ⟨g', cap', cur, e, h1, h2, h3, h4, h5, h6⟩
  · cases e
  · cases e
    exact ⟨g, cap, cur, rfl, h1, h2, by omega, h4, h5, by rw [← h6, List.take_take, Nat.min_eq_left hms]⟩
/-- What Parse answers. -/
def PzPost (W : World) (R : Option (List Cx)) (e : Ending) (w' : World) : Prop := match R with
  | none => e = .returned (.tuple #[.slice none 0 0, .bool false]) ∧ Below W.heap.size W w'
  | some l => ∃ u, e = .returned (.tuple #[u, .bool true]) ∧ ClAt w' u l ∧ Below W.heap.size W w'
theorem run_append_nil (w : World) (ty : TypeId) (g n cap : Nat) (h : n ≤ cap) : (Builtin.append_ #[60, 60] ty #[.slice (some ⟨g, 0, none⟩) n cap, .slice none 0 0]).run Tryz.prog w = .ok (.slice (some ⟨g, 0, none⟩) n cap) w := by
  obtain ⟨i0, z0, hi, _⟩ := info71
  simp [Builtin.append_, run_underlying Tryz.underlying60, sizeOf, typeInfo, hi, Builtin.lenOf, h, Builtin.firstCells, storeCells]
theorem kidsL_mem {vs : List V} {l : List Cv} (h : lsZ vs = some l) {k : List V} (hk : k ∈ kidsL l) : ∃ u ∈ vs, u.kids = k := by
  have := (lsZ_sub _ vs (Nat.le_refl _) l h).subset hk
  obtain ⟨u, hu, e⟩ := List.mem_map.1 this
  exact ⟨u, hu, e⟩
theorem cell_set {w : World} {g o g' o' : Nat} {x : Value} (h : (⟨g', o', none⟩ : Addr) ≠ ⟨g, o, none⟩) : (w.setCell ⟨g, o, none⟩ x).cell? ⟨g', o', none⟩ = w.cell? ⟨g', o', none⟩ := by
  by_cases hg : g' = g
  · subst hg
    have ho : o' ≠ o := fun e => h (by rw [e])
    cases hw : w.heap[g']? with
    | none => simp [World.cell?, World.setCell, Array.getElem?_modify, hw]
    | some ob =>
      cases ob with
      | cells cs T fr =>
        rw [cellAt (set_at o x fr hw) o', cellAt hw o', Array.getElem?_setIfInBounds_ne (Ne.symm ho)]
      | _ => simp [World.cell?, World.setCell, Array.getElem?_modify, hw]
  · exact cell_of_heap (heap_ne hg)
/-- What a round of Parse leaves. -/
theorem PaGo.next {W wr w1 w2 w3 w5 w6 wq : World} {R0 : Option (List Cx)} {init n3 : List T3} {xv : Value} {xvs : List V} {ag ao : Nat} {S : Nat → Prop} {g m cp : Nat} {v v6 : Value} {l : List Cv} {xs : List (Value × Value × List Value)}
    (hgo : PaGo W R0 (init ++ [(xv, xvs, ⟨ag, ao, none⟩)]) S (.slice (some ⟨g, 0, none⟩) (m + 1) cp) wr) (hm : init.length = m)
    (hB1 : Below wr.heap.size wr w1) (hs1 : w1.heap.size = wr.heap.size + 2) (hK : KeepT (wr.heap.size + 1) w1 w2) (hlv : LvAt w1.heap.size w2 v l xs) (hvs : ∃ a n k, v = .slice a n k) (hls : lsZ xvs = some l) (hw3 : w3 = w2.setCell ⟨ag, ao, none⟩ v)
    (hB5 : Below w3.heap.size w3 w5) (hBq : Below w3.heap.size w3 wq) (hq5 : wq.heap.size ≤ w5.heap.size) (hg6 : w5.grownBy w6 (some g)) (h6 : v6.ownBlock = some g ∨ ∃ k, v6.ownBlock = some k ∧ w5.heap.size ≤ k) (ho6 : w6.ownsRow (W.heap.size + 1) 59 2 v6 (m + n3.length) (rowC init ++ rowC n3))
    (hn1 : n3.map Prod.snd = (tks l xs).map fun y => (y.1, y.2.add 6)) (hn2 : ∀ x ∈ n3, VsAt (· < W.heap.size) wq x.1 x.2.1) :
    PaGo W R0 (init ++ n3) (fun b => S b ∨ (w1.heap.size ≤ b ∧ b < w2.heap.size ∧ ∀ c fr, w2.heap[b]? ≠ some (.cells c 44 fr))) v6 w6 ∧ wgt (init ++ n3) < wgt (init ++ [(xv, xvs, ⟨ag, ao, none⟩)]) := by
  have hx : ((xv, xvs, ⟨ag, ao, none⟩) : T3) ∈ init ++ [(xv, xvs, ⟨ag, ao, none⟩)] := by simp
  obtain ⟨hSag, _, cur, T, hag, hao, hT⟩ := hgo.at' _ hx
  simp only [] at hSag hag hao
  obtain ⟨hO1, hO2, hO3, hO4⟩ := hgo.inS ag hSag
  have hlens := hlv.lens
  have hne : ∀ c ∈ l, ∀ p ∈ c.1, p ≠ [] := fun c hc p hp => (((lsZ_ok _ xvs (Nat.le_refl _) l hls).2 c hc).2 p hp).1
  have hrow := hgo.row.lt g rfl
  have hgl : W.heap.size + 1 ≤ g ∧ g < wr.heap.size := hrow
  have hsz3 : w3.heap.size = w2.heap.size := by rw [hw3]; simp
  have hsz : w1.heap.size ≤ w2.heap.size := hK.size
  have hsz5 := hB5.size
  have hsz6 := hg6.size
  have hszb := hB1.size
  -- blocks of S
  have hSw2 : ∀ b, S b → w2.heap[b]? = wr.heap[b]? := fun b hb => by
    obtain ⟨_, q2, _, q4⟩ := hgo.inS b hb
    have e1 := hB1.block b q2
    rw [hK.typ b (by omega) (by omega) (.inr (by rw [e1]; exact q4)), e1]
  have h36 : ∀ b, b < w2.heap.size → b ≠ g → w6.heap[b]? = w3.heap[b]? := fun b hb hn => by
    rw [hg6.block b (by omega) (fun e => hn (Option.some.inj e)), hB5.block b (by omega)]
  have hSg : ∀ b, S b → b ≠ g := fun b hb e => (hgo.inS b hb).2.2.1 (by rw [e]; rfl)
  have hS36 : ∀ b, S b → w6.heap[b]? = w3.heap[b]? := fun b hb => h36 b (by have := (hgo.inS b hb).2.1; omega) (hSg b hb)
  have hcellS : ∀ b o, S b → (⟨b, o, none⟩ : Addr) ≠ ⟨ag, ao, none⟩ → w6.cell? ⟨b, o, none⟩ = wr.cell? ⟨b, o, none⟩ := fun b o hb hn => by
    rw [cell_of_heap (hS36 b hb), hw3, cell_set hn]
    exact cell_of_heap (hSw2 b hb)
  have hset : w3.heap[ag]? = some (.cells (cur.setIfInBounds ao v) T (0, 0)) := by
    rw [hw3]
    exact set_at ao v (0, 0) ((hSw2 ag hSag).trans hag)
  have hcellA : w6.cell? ⟨ag, ao, none⟩ = some v := by
    rw [cell_of_heap (hS36 ag hSag), cellAt hset ao]
    simp [hao]
  have hSblk : ∀ (b : Nat) (c : Array Value) (T' : TypeId), S b → wr.heap[b]? = some (.cells c T' (0, 0)) → ∃ c', w6.heap[b]? = some (.cells c' T' (0, 0)) ∧ c'.size = c.size ∧ (b ≠ ag → c' = c) ∧ (b = ag → c' = c.setIfInBounds ao v) := fun b c T' hb hc => by
    by_cases hba : b = ag
    · subst hba
      rw [hag] at hc
      cases hc
      exact ⟨_, (hS36 b hb).trans hset, by simp, fun h => absurd rfl h, fun _ => rfl⟩
    · refine ⟨c, ?_, rfl, fun _ => rfl, fun h => absurd h hba⟩
      rw [hS36 b hb, hw3, heap_ne hba, hSw2 b hb, hc]
  have hlow : Below W.heap.size W w6 := by
    have h1 : Below W.heap.size W w1 := hgo.low.trans (hB1.mono hgo.low.size)
    have h2 : Below W.heap.size W w2 := h1.trans ((hK.low (by omega)).mono (by omega))
    have h3 : Below W.heap.size W w3 := by rw [hw3]; exact Below.set h2 hO1 v
    have h5 : Below W.heap.size W w5 := h3.trans (hB5.mono h3.size)
    exact h5.grown hg6 h5.size (fun k hk => by cases hk; omega)
  have hlowq : Below W.heap.size W wq := by
    have h1 : Below W.heap.size W w1 := hgo.low.trans (hB1.mono hgo.low.size)
    have h2 : Below W.heap.size W w2 := h1.trans ((hK.low (by omega)).mono (by omega))
    have h3 : Below W.heap.size W w3 := by rw [hw3]; exact Below.set h2 hO1 v
    exact h3.trans (hBq.mono h3.size)
  -- the new tasks
  have hn3 : ∀ x ∈ n3, ∃ y ∈ tks l xs, x.2 = (y.1, y.2.add 6) := fun x hx => by
    have : x.2 ∈ n3.map Prod.snd := List.mem_map_of_mem hx
    rw [hn1] at this
    obtain ⟨y, hy, e⟩ := List.mem_map.1 this
    exact ⟨y, hy, e.symm⟩
  have h3n : ∀ y ∈ tks l xs, ∃ x ∈ n3, x.2 = (y.1, y.2.add 6) := fun y hy => by
    have : (y.1, y.2.add 6) ∈ n3.map Prod.snd := by
      rw [hn1]
      exact List.mem_map_of_mem (f := fun y : List V × Addr => (y.1, y.2.add 6)) hy
    obtain ⟨x, hx, e⟩ := List.mem_map.1 this
    exact ⟨x, hx, e⟩
  have htk : ∀ y ∈ tks l xs, ∃ g' t c, y.2 = ⟨g', t * 7, none⟩ ∧ w1.heap.size ≤ g' ∧ g' < w2.heap.size ∧ w2.heap[g']? = some (.cells c 40 (0, 0)) ∧ t * 7 + 6 < c.size ∧ y.1 ∈ kidsL l := fun y hy => by
    have hkid : y.1 ∈ kidsL l := by rw [← tks_kids l xs hlens]; exact List.mem_map_of_mem hy
    obtain ⟨z, hz, hy⟩ := List.mem_flatMap.1 hy
    obtain ⟨i, hi, hi', j, hj, hj', rfl⟩ := prs_mem hz
    obtain ⟨t, ht, hlst, rfl⟩ := tkF_mem hy
    obtain ⟨q, e, hp⟩ := (hlv.cx i hi hi').pt j hj
    rw [List.getElem?_eq_getElem hj'] at e
    have eq := Option.some.inj e
    simp only [eq] at hkid ⊢
    obtain ⟨b1, b2, cap, c, _, b3, _, b4, b5, _⟩ := PtAt.blk hp (hne _ (List.getElem_mem hi) _ (List.getElem_mem hj))
    refine ⟨_, t, c, by rw [Nat.zero_add], b1, b2, b4, ?_, hkid⟩
    rw [b5]
    simp only [] at ht
    omega
  have hadr : ∀ x ∈ n3, ∃ g' t c, x.2.2 = ⟨g', t * 7 + 6, none⟩ ∧ w1.heap.size ≤ g' ∧ g' < w2.heap.size ∧ w2.heap[g']? = some (.cells c 40 (0, 0)) ∧ t * 7 + 6 < c.size ∧ x.2.1 ∈ kidsL l := fun x hx => by
    obtain ⟨y, hy, e⟩ := hn3 x hx
    obtain ⟨g', t, c, e1, q⟩ := htk y hy
    have e3 : y.2.add 6 = ⟨g', t * 7 + 6, none⟩ := by rw [e1, Addr.add_mid]
    rw [e]
    exact ⟨g', t, c, e3, q⟩
  have hiS : ∀ x ∈ init, S x.2.2.block ∧ x.2.2.block < wr.heap.size := fun x hx => by
    have := (hgo.at' x (by simp [hx])).1
    exact ⟨this, (hgo.inS _ this).2.1⟩
  have hnew6 : ∀ (b : Nat), w1.heap.size ≤ b → b < w2.heap.size → w6.heap[b]? = w2.heap[b]? := fun b h1 h2 => by
    rw [h36 b h2 (by omega), hw3, heap_ne (by omega)]
  have hwt : wgt n3 ≤ cntL xvs := by
    have e : wgt n3 = ((kidsL l).map fun k => cntL k + 1).sum := by
      have e1 : wgt n3 = ((n3.map Prod.snd).map fun x => cntL x.1 + 1).sum := by unfold wgt; rw [List.map_map]; rfl
      rw [e1, hn1, List.map_map, ← tks_kids l xs hlens, List.map_map]
      rfl
    rw [e, cntL_eq]
    exact sum_sub _ (lsZ_sub _ xvs (Nat.le_refl _) l hls)
  have hw1x : wgt [((xv, xvs, ⟨ag, ao, none⟩) : T3)] = cntL xvs + 1 := by simp [wgt]
  have hap := List.pairwise_append.1 hgo.apart
  refine ⟨⟨by rw [List.length_append, hm, rowC_append]; exact ho6, fun x hx => ?_, hlow, ?_, fun x hx => ?_, fun b hb => ?_, ?_, fun hR => ?_, fun R hR => ?_, ?_⟩, ?_⟩
  · rcases List.mem_append.1 hx with hx | hx
    · obtain ⟨h1, h2⟩ := hgo.vals x (by simp [hx])
      exact ⟨h1.stay (by omega) fun b hb hl => (hlow.block b hb).trans (hgo.low.block b hb).symm, h2⟩
    · refine ⟨(hn2 x hx).stay (by omega) fun b hb _ => (hlow.block b hb).trans (hlowq.block b hb).symm, ?_⟩
      obtain ⟨_, _, _, _, _, _, _, _, hk⟩ := hadr x hx
      obtain ⟨u, hu, e⟩ := kidsL_mem hls hk
      rw [← e]
      exact ((hgo.vals _ (by simp : ((xv, xvs, ⟨ag, ao, none⟩) : T3) ∈ _)).2).kids u hu
  · refine List.pairwise_append.2 ⟨hap.1, ?_, fun x hx y hy e => ?_⟩
    · have h1 := tks_apart hlens hlv.up
      have h2 : (n3.map Prod.snd).Pairwise fun x y => x.2 ≠ y.2 := by
        rw [hn1, List.pairwise_map]
        refine List.Pairwise.imp_of_mem (fun {a b} ha hb hab e => ?_) h1
        obtain ⟨g1, t1, _, e1, _⟩ := htk a ha
        obtain ⟨g2, t2, _, e2, _⟩ := htk b hb
        simp only [e1, e2, Addr.add_mid] at e
        have hg : g1 = g2 := congrArg Addr.block e
        have ho : t1 * 7 + 6 = t2 * 7 + 6 := congrArg Addr.off e
        exact hab (by rw [e1, e2, hg, show t1 = t2 by omega])
      rw [List.pairwise_map] at h2
      exact h2
    · obtain ⟨g', t, c, e1, q1, _⟩ := hadr y hy
      have := (hiS x hx).2
      rw [e, e1] at this
      simp only [] at this
      omega
  · rcases List.mem_append.1 hx with hx | hx
    · obtain ⟨h1, h2, c, T', h3, h4, h5⟩ := hgo.at' x (by simp [hx])
      obtain ⟨c', e1, e2, _⟩ := hSblk _ c T' h1 h3
      exact ⟨.inl h1, h2, c', T', e1, by rw [e2]; exact h4, h5⟩
    · obtain ⟨g', t, c, e1, q1, q2, q3, q4, _⟩ := hadr x hx
      rw [e1]
      exact ⟨.inr ⟨q1, q2, fun c' fr h => by have := ty_ne q3 h; cases this⟩, ⟨_, _, rfl⟩, c, 40, (hnew6 g' q1 q2).trans q3, q4, .inr rfl⟩
  · rcases hb with hb | ⟨b1, b2, b3⟩
    · obtain ⟨q1, q2, q3, q4⟩ := hgo.inS b hb
      refine ⟨q1, by omega, ?_, fun c fr e => ?_⟩
      · rcases h6 with e | ⟨k, e, hk⟩
        · rw [e]; exact fun h => hSg b hb (Option.some.inj h).symm
        · rw [e]; intro h; have := Option.some.inj h; omega
      · by_cases hba : b = ag
        · subst hba
          rw [hS36 b hb, hset] at e
          cases e
          rcases hT with h | h <;> cases h
        · rw [hS36 b hb, hw3, heap_ne hba, hSw2 b hb] at e
          exact q4 c fr e
    · refine ⟨by omega, by omega, ?_, fun c fr e => ?_⟩
      · rcases h6 with e | ⟨k, e, hk⟩
        · rw [e]; intro h; have := Option.some.inj h; omega
        · rw [e]; intro h; have := Option.some.inj h; omega
      · rw [hnew6 b b1 b2] at e
        exact b3 c fr e
  · obtain ⟨h1, c, h2, h3, h4⟩ := hgo.out
    obtain ⟨c', e1, e2, e3, e4⟩ := hSblk _ c 27 h1 h2
    refine ⟨.inl h1, c', e1, by omega, ?_⟩
    by_cases hba : W.heap.size = ag
    · rw [e4 hba]
      have ho : ao = 0 := by
        rw [hba] at h2
        rw [hag] at h2
        cases h2
        omega
      subst ho
      obtain ⟨a, n, k, rfl⟩ := hvs
      exact ⟨a, n, k, by simp [h3]⟩
    · rw [e3 hba]
      exact h4
  · obtain ⟨x, hx, e⟩ := hgo.bad hR
    rcases List.mem_append.1 hx with hx | hx
    · exact ⟨x, by simp [hx], e⟩
    · rw [List.mem_singleton.1 hx] at e
      simp only [] at e
      rw [parseZ_step, hls] at e
      obtain ⟨y, hy, e2⟩ := some_none hlens e
      obtain ⟨z, hz, e3⟩ := h3n y hy
      exact ⟨z, by simp [hz], by rw [e3]; exact e2⟩
  · obtain ⟨g1, g2⟩ := hgo.good R hR
    obtain ⟨L, hL⟩ := g1 _ hx
    simp only [] at hL
    have hL' := hL
    rw [parseZ_step, hls] at hL'
    have hall := all_some (xs := xs) hL'
    refine ⟨fun y hy => ?_, fun W' hs' hag' hts' => ?_⟩
    · rcases List.mem_append.1 hy with hy | hy
      · exact g1 y (by simp [hy])
      · obtain ⟨z, hz, e⟩ := hn3 y hy
        rw [e]
        exact hall z hz
    · refine g2 W' (by omega) (fun b o hb hn => ?_) (fun y hy => ?_)
      · rw [hag' b o (.inl hb) (fun y hy => ?_), hcellS b o hb (fun e => hn _ hx e.symm)]
        rcases List.mem_append.1 hy with hy | hy
        · exact hn y (by simp [hy])
        · obtain ⟨g', t, c, e1, q1, _⟩ := hadr y hy
          rw [e1]
          intro e
          have h1 : g' = b := congrArg Addr.block e
          have h2 := (hgo.inS b hb).2.1
          omega
      · rcases List.mem_append.1 hy with hy | hy
        · exact hts' y (by simp [hy])
        · rw [List.mem_singleton.1 hy]
          refine ⟨L, v, hL, ?_, ?_⟩
          · simp only []
            rw [hag' ag ao (.inl hSag) (fun z hz => ?_), hcellA]
            rcases List.mem_append.1 hz with hz | hz
            · exact hap.2.2 z hz _ (List.mem_singleton.2 rfl)
            · obtain ⟨g', t, c, e1, q1, _⟩ := hadr z hz
              rw [e1]
              intro e
              have h1 : g' = ag := congrArg Addr.block e
              omega
          · refine hlv.fill hne (by omega) (fun b o c T' hc hT' hb hn => ?_) (fun z hz => ?_) hL'
            · have hbl : b < w2.heap.size := (Array.getElem?_eq_some_iff.1 hc).1
              rw [hag' b o (.inr ⟨hb, hbl, fun c' fr e => hT' (ty_ne hc e)⟩) (fun z hz => ?_)]
              · exact cell_of_heap (hnew6 b hb hbl)
              · rcases List.mem_append.1 hz with hz | hz
                · intro e
                  have h1 : z.2.2.block = b := congrArg Addr.block e
                  have h2 := (hiS z hz).2
                  omega
                · obtain ⟨y2, hy2, e⟩ := hn3 z hz
                  rw [e]
                  exact hn y2 hy2
            · obtain ⟨x2, hx2, e⟩ := h3n z hz
              obtain ⟨L2, u2, a1, a2, a3⟩ := hts' x2 (by simp [hx2])
              rw [e] at a1 a2
              exact ⟨L2, u2, a1, a2, a3⟩
  · have h1 := hgo.cnt
    rw [wgt_append] at h1 ⊢
    omega
  · rw [wgt_append, wgt_append]
    omega
end Go.Proofs.YtdibldcnklgcjaaGreatDoor.L
namespace Go.Proofs.YtdibldcnklgcjaaGreatDoor.L
open Go.RowKit
set_option maxRecDepth 100000

theorem three {P : Nat → Prop} {w : World} {l : List Cv} {xs : List (Value × Value × List Value)} (hl : Lens l xs) {tsq : List (Value × Addr)} (hlen : tsq.length = (kidsL l).length)
    (h : ∀ i (h : i < tsq.length) (h' : i < ((tks l xs).map Prod.snd).length) (h'' : i < (kidsL l).length), (tsq[i]'h).2 = (((tks l xs).map Prod.snd)[i]'h').add 6 ∧ VsAt P w (tsq[i]'h).1 ((kidsL l)[i]'h'')) :
    ∃ n3 : List T3, rowC n3 = tsC tsq ∧ n3.length = tsq.length ∧ n3.map Prod.snd = (tks l xs).map (fun y => (y.1, y.2.add 6)) ∧ ∀ x ∈ n3, VsAt P w x.1 x.2.1 := by
  have hk := tks_kids l xs hl
  have htl : (tks l xs).length = (kidsL l).length := by rw [← hk, List.length_map]
  refine ⟨List.zipWith (fun y k => (y.1, k, y.2)) tsq (kidsL l), ?_, by rw [List.length_zipWith, hlen, Nat.min_self], ?_, fun x hx => ?_⟩
  · unfold rowC
    congr 1
    refine List.ext_getElem (by simp [hlen]) fun i h1 h2 => ?_
    simp
  · refine List.ext_getElem (by simp [hlen, htl]) fun i h1 h2 => ?_
    have hi1 : i < tsq.length := by simp [hlen] at h1; omega
    have hi2 : i < (tks l xs).length := by simpa using h2
    obtain ⟨e, _⟩ := h i hi1 (by simpa using hi2) (by omega)
    have e2 : (kidsL l)[i]'(by omega) = ((tks l xs)[i]'hi2).1 := by
      simp only [← hk, List.getElem_map]
    simp only [List.getElem_map, List.getElem_zipWith, e, e2]
  · obtain ⟨i, hi, rfl⟩ := List.mem_iff_getElem.1 hx
    have hi1 : i < tsq.length := by simp [hlen] at hi; omega
    obtain ⟨_, e⟩ := h i hi1 (by simp [htl]; omega) (by omega)
    rw [List.getElem_zipWith]
    exact e
theorem Rk.store {lo : Nat} {W0 w : World} {b : Nat} {ks : List (List V)} {vs : List V} (h : Rk lo W0 b ks vs w) {ag ao : Nat} (x : Value) (h1 : lo ≤ ag) (h2 : ag < b) : Rk lo (w.setCell ⟨ag, ao, none⟩ x) b ks vs (w.setCell ⟨ag, ao, none⟩ x) := by
  obtain ⟨kids, cs, ⟨⟨rest, a1, a2⟩, _⟩, a3, a4⟩ := h.rd
  have hst : ∀ {v l}, VsAt (· < min lo b) w v l → VsAt (· < min lo b) (w.setCell ⟨ag, ao, none⟩ x) v l := fun q => q.stay (by simp) fun j hj _ => heap_ne (by omega)
  exact ⟨⟨kids, cs, ⟨⟨rest, (heap_ne (by omega)).trans a1, hst a2⟩, KeepX.of (Below.refl _ _)⟩, own_stay a3 fun g _ hB _ => heap_ne (by omega), fun i hi => (a4 i hi).imp fun v q => ⟨q.1, hst q.2⟩⟩, .refl _ _⟩
theorem rowC_at (init : List T3) (x : T3) : (rowC (init ++ [x]))[init.length * 2]? = some x.1 ∧ (rowC (init ++ [x]))[init.length * 2 + 1]? = some (.pointer (some x.2.2)) := by
  have hl := rowC_len init
  rw [rowC_append]
  constructor
  · rw [List.getElem?_append_right (by omega), hl, Nat.sub_self]
    rfl
  · rw [List.getElem?_append_right (by omega), hl, show init.length * 2 + 1 - init.length * 2 = 1 by omega]
    rfl
theorem rowC_take (init : List T3) (x : T3) : (rowC (init ++ [x])).take (init.length * 2) = rowC init := by
  rw [rowC_append, ← rowC_len init, List.take_left]
theorem step_append_nil {ops : Array Oper} {o : Oper} {a : Act} {K : Act → World → Prop} {Q : Exit → Act → World → Prop} {E : Prop} {w : World} (hgd : o.guard = none) (s x : Operand) (ho : o.op = .call { callee := .builtin .append, args := #[s, x], argTypes := #[60, 60] })
    {g n cap : Nat} (hs : a.eval s = .slice (some ⟨g, 0, none⟩) n cap) (hx : a.eval x = .slice none 0 0) (hn : n ≤ cap) (h : K (a.put o.dst (.slice (some ⟨g, 0, none⟩) n cap)) w) : if Region.wanted o (yielded ops a.tmps) = true then Oper.wp Tryz.prog o a w K Q else E := by
  have hw : Region.wanted o (yielded ops a.tmps) = true := by simp [Region.wanted, hgd]
  rw [if_pos hw]
  unfold Oper.wp execOp
  simp only [ho, resolve, invoke, builtin, Sem.run_bind, Sem.run_pure, Result.andThen_ok, List.map_toArray, List.map_cons, List.map_nil, hs, hx, run_append_nil w o.type g n cap hn]
  exact h
theorem rowC_one (n3 : List T3) : ∀ u ∈ rowC n3, (∀ x ∈ n3, x.1.oneCell' = true) → u.oneCell' = true := fun u hu h => by
  unfold rowC tsC at hu
  obtain ⟨y, hy, hu⟩ := List.mem_flatMap.1 hu
  obtain ⟨x, hx, rfl⟩ := List.mem_map.1 hy
  simp only [List.mem_cons, List.not_mem_nil, or_false] at hu
  rcases hu with rfl | rfl
  · exact h x hx
  · rfl
theorem VsAt_one {O : Nat} {w3 w5 : World} {n3 : List T3} (h : ∃ wq, Below w3.heap.size w3 wq ∧ wq.heap.size ≤ w5.heap.size ∧ ∀ x ∈ n3, VsAt (· < O) wq x.1 x.2.1) : ∀ x ∈ n3, x.1.oneCell' = true := fun x hx => by
  obtain ⟨wq, _, _, h⟩ := h
  obtain ⟨a, c, e, _⟩ := (h x hx).slice
  rw [e]
  rfl
theorem grown_self (w : World) (r : Option Nat) : w.grownBy w r := ⟨rfl, rfl, rfl, Nat.le_refl _, fun _ _ _ => rfl⟩

set_option maxHeartbeats 2000000 in
theorem parse_any {W : World} {v : Value} {P : Nat → Prop} {vs : List V} (hv : VsAt P W v vs) (hsg : Signs W) (hf : Fit vs) (hcn : cntL vs ≤ 500000) : Calls Tryz.prog 9 #[v] W (PzPost W (parseZ vs)) := by
  obtain ⟨a, cap, rfl, hc1, hc2⟩ := hv.slice
  obtain ⟨i0, z0, hi0, hz0, hz1, hz2, hz3⟩ := info71
  obtain ⟨W1, hW1⟩ : ∃ W1, W1 = (W.alloc (.cells #[.slice none 0 0] 27)).alloc (.cells #[.slice a vs.length cap, .pointer (some ⟨W.heap.size, 0, none⟩)] 59) := ⟨_, rfl⟩
  have hB1 : Below W.heap.size W W1 := by rw [hW1]; exact ((Below.refl _ _).alloc (Nat.le_refl _) _).alloc (by simp) _
  have x0 : W1.heap[W.heap.size]? = some (.cells #[.slice none 0 0] 27 (0, 0)) := by
    rw [hW1, Below.heap_alloc _ _ _ (by simp)]
    exact heap_alloc_last W _
  have x1 : W1.heap[W.heap.size + 1]? = some (.cells #[.slice a vs.length cap, .pointer (some ⟨W.heap.size, 0, none⟩)] 59 (0, 0)) := by
    have e : W.heap.size + 1 = (W.alloc (.cells #[.slice none 0 0] 27)).heap.size := by simp
    rw [hW1, e]
    exact heap_alloc_last _ _
  have hS1 : W1.heap.size = W.heap.size + 2 := by rw [hW1]; simp
  have HGO : Hid (PaGo W (parseZ vs) [(.slice a vs.length cap, vs, ⟨W.heap.size, 0, none⟩)] (fun b => b = W.heap.size) (.slice (some ⟨W.heap.size + 1, 0, none⟩) 1 1) W1) := by
    refine ⟨⟨rfl, .inr ⟨_, 1, _, rfl, Nat.le_refl _, x1, Nat.le_refl _, by decide, rfl, rfl⟩⟩, fun x hx => ?_, hB1, List.pairwise_singleton _ _, fun x hx => ?_, fun b hb => ?_, ⟨rfl, _, x0, rfl, _, _, _, rfl⟩, fun hR => ⟨_, List.mem_singleton.2 rfl, hR⟩, fun R hR => ⟨fun x hx => ?_, fun W' _ _ hts => ?_⟩, ?_⟩
    · rw [List.mem_singleton.1 hx]
      exact ⟨(hv.wider fun g _ hl => hl).keep hB1, hf⟩
    · rw [List.mem_singleton.1 hx]
      exact ⟨rfl, ⟨_, _, rfl⟩, _, 27, x0, Nat.one_pos, .inl rfl⟩
    · subst hb
      refine ⟨Nat.le_refl _, by omega, ?_, fun c fr e => ?_⟩
      · intro e
        have : W.heap.size + 1 = W.heap.size := Option.some.inj e
        omega
      · have := ty_ne x0 e
        cases this
    · rw [List.mem_singleton.1 hx]
      exact ⟨R, hR⟩
    · obtain ⟨L, u, h1, h2, h3⟩ := hts _ (List.mem_singleton.2 rfl)
      simp only [] at h1 h2
      rw [hR] at h1
      cases h1
      exact ⟨u, h2, h3⟩
    · simp [wgt]
      omega
  have HSG : Hid (∀ w, Below W.heap.size W w → Signs w) := fun w h => hsg.keep h
  have hsb : sgB < W.heap.size := hsg.lt (j := 0) rfl
  have HW1 := hid_mk hW1
  have HCN := hid_mk hcn
  generalize parseZ vs = R0 at *
  clear hv hf hsg hB1 x0 x1 hS1 hW1 hcn
  go_enter Tryz.func9, Tryz.ntmps9
  go_wp2_with (fail)
  rw [← HW1.out]
  clear HW1
  go_loopg [5] 600000 (fun k a5 wq => ∃ (g n cp : Nat) (ts : List T3) (S : Nat → Prop), a5 = .slice (some ⟨g, 0, none⟩) n cp ∧ Hid (n = ts.length) ∧ Hid (wgt ts < k) ∧ Hid (PaGo W R0 ts S (.slice (some ⟨g, 0, none⟩) n cp) wq))
  case atStart => exact ⟨_, _, _, [(.slice a vs.length cap, vs, ⟨W.heap.size, 0, none⟩)], _, rfl, hid_mk rfl, hid_mk (by have := HGO.out.cnt; omega), HGO⟩
  case round =>
    clear HGO
    obtain ⟨g, n, cp, ts, S, rfl, HN, HWG, HGO⟩ := hrel
    rcases List.eq_nil_or_concat ts with hts | ⟨init, x, hts⟩
    · subst hts
      have hn0 : n = 0 := HN.out
      subst hn0
      obtain ⟨hSO, c, hc, _, ua, un, uc, hc0⟩ := HGO.out.out
      have k0 : wr.cell? ⟨W.heap.size, 0, none⟩ = some (.slice ua un uc) := (cellAt hc 0).trans hc0
      have HZ : Hid (PzPost W R0 (.returned (.tuple #[.slice ua un uc, .bool true])) wr) := by
        cases hR : R0 with
        | none =>
          obtain ⟨x, hx, _⟩ := HGO.out.bad hR
          cases hx
        | some R =>
          obtain ⟨_, h2⟩ := HGO.out.good R hR
          obtain ⟨u, h3, h4⟩ := h2 wr (Nat.le_refl _) (fun _ _ _ _ => rfl) (fun x hx => by cases hx)
          rw [k0] at h3
          cases h3
          exact ⟨_, rfl, h4, HGO.out.low⟩
      clear hc hc0 HGO HN HWG HSG
      go_wp2
      go_ret2
      exact HZ.out
    · rw [List.concat_eq_append] at hts
      subst hts
      obtain ⟨xv, xvs, xA⟩ := x
      obtain ⟨m, hm⟩ : ∃ m, m = init.length := ⟨_, rfl⟩
      have hn1 : n = m + 1 := by rw [HN.out, hm]; simp
      subst hn1
      have hx : ((xv, xvs, xA) : T3) ∈ init ++ [(xv, xvs, xA)] := by simp
      obtain ⟨hvx, hfx⟩ := HGO.out.vals _ hx
      obtain ⟨hSA, ⟨ag, ao, hA⟩, cur, T, hag, hao, hT⟩ := HGO.out.at' _ hx
      simp only [] at hvx hfx hSA hA hag hao
      subst hA
      simp only [] at hSA hag hao
      obtain ⟨sa, sc, rfl, hs1, hs2⟩ := hvx.slice
      obtain ⟨hO1, hO2, hO3, hO4⟩ := HGO.out.inS ag hSA
      obtain ⟨r1, r2⟩ := rowC_at init (.slice sa xvs.length sc, xvs, ⟨ag, ao, none⟩)
      have hrow : wr.ownsRow (W.heap.size + 1) 59 2 (.slice (some ⟨g, 0, none⟩) (m + 1) cp) (m + 1) (rowC (init ++ [(.slice sa xvs.length sc, xvs, ⟨ag, ao, none⟩)])) := by
        have h1 := HGO.out.row
        rw [← HN.out] at h1
        exact h1
      have c1 := own_news hrow _ _ r1
      have c2 := own_news hrow _ _ r2
      rw [Addr.add_mid, Nat.zero_add, ← hm] at c1 c2
      have hmc : m + 1 ≤ cp ∧ cp ≤ 9223372036854775807 := by
        rcases hrow.2 with ⟨e, _⟩ | ⟨g', cap', cur', e, h1, h2, h3, h4, _⟩
        · cases e
        · cases e
          exact ⟨h3, h4⟩
      have hml : m ≤ 600000 := by
        have h1 := HGO.out.cnt
        have h2 := wgt_len (init ++ [((.slice sa xvs.length sc, xvs, ⟨ag, ao, none⟩) : T3)])
        rw [List.length_append] at h2
        omega
      obtain ⟨w1, hw1⟩ : ∃ w1, w1 = (wr.alloc (.cells #[.slice sa xvs.length sc, .pointer (some ⟨ag, ao, none⟩)] 59)).alloc (.cells #[.slice sa xvs.length sc, .slice none 0 0] 63) := ⟨_, rfl⟩
      have hB1 : Below wr.heap.size wr w1 := by rw [hw1]; exact ((Below.refl _ _).alloc (Nat.le_refl _) _).alloc (by simp) _
      have hsz1 : w1.heap.size = wr.heap.size + 2 := by rw [hw1]; simp
      have y0 : w1.heap[wr.heap.size]? = some (.cells #[.slice sa xvs.length sc, .pointer (some ⟨ag, ao, none⟩)] 59 (0, 0)) := by
        rw [hw1, Below.heap_alloc _ _ _ (by simp)]
        exact heap_alloc_last wr _
      have y1 : w1.heap[wr.heap.size + 1]? = some (.cells #[.slice sa xvs.length sc, .slice none 0 0] 63 (0, 0)) := by
        have e : wr.heap.size + 1 = (wr.alloc (.cells #[.slice sa xvs.length sc, .pointer (some ⟨ag, ao, none⟩)] 59)).heap.size := by simp
        rw [hw1, e]
        exact heap_alloc_last _ _
      have hWw : Below W.heap.size W w1 := HGO.out.low.trans (hB1.mono HGO.out.low.size)
      have hRk : Rk W.heap.size w1 (wr.heap.size + 1) [] xvs w1 :=
        ⟨⟨.slice none 0 0, [], ⟨⟨_, y1, (hvx.keep hB1).wider fun g hg _ => by omega⟩, KeepX.of (Below.refl _ _)⟩, ⟨rfl, .inl ⟨rfl, rfl⟩⟩, fun i hi => absurd hi (by simp)⟩, .refl _ _⟩
      have hli := list_any hRk (HSG.out w1 hWw) (by have := HGO.out.low.size; omega) hfx (by have := hfx.len; simp; omega)
      have HM := hid_mk hm
      have HW1 := hid_mk hw1
      have HB1 := hid_mk hB1
      have HS1 := hid_mk hsz1
      have HY0 := hid_mk y0
      have HAG := hid_mk hag
      have HFX := hid_mk hfx
      have hgl := hrow.lt g rfl
      have hgt : ∃ c, wr.heap[g]? = some (.cells c 59 (0, 0)) := (own_at hrow rfl).2
      have hown0 : wr.ownsRow (W.heap.size + 1) 59 2 (.slice (some ⟨g, 0, none⟩) m cp) m (rowC init) := by
        have h1 := own_take (m := m) hrow (by omega)
        rw [hm, rowC_take] at h1
        rw [← hm] at h1
        exact h1
      have HOWN0 := hid_mk hown0
      have HGT := hid_mk hgt
      have HWW := hid_mk hWw
      obtain ⟨lr, hlr⟩ : ∃ lr, lr = lsZ xvs := ⟨_, rfl⟩
      have hpz := parseZ_step xvs
      rw [← hlr] at hli hpz
      have HPZ := hid_mk hpz
      have HLR := hid_mk hlr
      have hwrap : IntKind.i64.wrap (((m + 1 : Nat) : Int) - 1) = (m : Int) := by rw [IntKind.wrap_i64] <;> omega
      have hpos : (0 : Int) < ((m + 1 : Nat) : Int) := by omega
      have hlt1 : (m : Int) < ((m + 1 : Nat) : Int) := by omega
      have hle1 : (m : Int) ≤ (cp : Int) := by omega
      have hag1 : ag ≠ g := fun e => hO3 (by rw [e]; rfl)
      clear hm hw1 hB1 y0 y1 hvx hfx hag hRk hWw r1 r2 hx hlr hpz hrow hown0 hgt
      have x2' : ∀ w2 : World, KeepT (wr.heap.size + 1) w1 w2 → w2.heap[wr.heap.size]? = some (.cells #[.slice sa xvs.length sc, .pointer (some ⟨ag, ao, none⟩)] 59 (0, 0)) ∧ w2.heap[ag]? = some (.cells cur T (0, 0)) ∧ w2.heap[g]? = wr.heap[g]? := fun w2 hK => by
        have h1 := HS1.out
        have hne31 : T ≠ 44 := by rcases hT with e | e <;> rw [e] <;> decide
        refine ⟨(hK.typ _ (by omega) (by omega) (.inr fun c fr e => ?_)).trans HY0.out, ?_, ?_⟩
        · have := ty_ne HY0.out e
          cases this
        · have e1 := HB1.out.block ag hO2
          rw [hK.typ _ (by omega) (by omega) (.inr fun c fr e => ?_), e1, HAG.out]
          rw [e1] at e
          exact hne31 (ty_ne HAG.out e)
        · obtain ⟨c, hc⟩ := HGT.out
          have e1 := HB1.out.block g hgl.2
          rw [hK.typ _ (by omega) (by omega) (.inr fun c fr e => ?_), e1]
          rw [e1] at e
          have := ty_ne hc e
          cases this
      have HX2 := hid_mk x2'
      clear x2'
      cases lr with
      | none =>
        have HR : Hid (R0 = none) := by
          cases hR : R0 with
          | none => exact rfl
          | some R =>
            obtain ⟨L, hL⟩ := (HGO.out.good R hR).1 _ (by simp : ((.slice sa xvs.length sc, xvs, ⟨ag, ao, none⟩) : T3) ∈ _)
            simp only [] at hL
            rw [HPZ.out] at hL
            cases hL
        clear HPZ HGO HX2 HOWN0 HGT HN HWG HLR
        go_wp2_with (go_at_call 15; fail)
        rw [← HW1.out]
        refine hli.mono ?_
        rintro e w2 ⟨rfl, hkp⟩
        have HBZ : Hid (Below W.heap.size W w2) := HWW.out.trans ((hkp.low (by have := HS1.out; omega)).mono (by omega))
        clear hli hkp HW1
        go_wp2
        go_ret2
        rw [HR.out]
        exact ⟨rfl, HBZ.out⟩
      | some l =>
      go_wp2_with (go_at_call 15; fail)
      rw [← HW1.out]
      refine hli.mono ?_
      rintro e w2 ⟨v, xs, rfl, hlv, hrk⟩
      obtain ⟨va, vn, vc, rfl⟩ := own_sl hlv.row
      rw [List.nil_append] at hrk
      obtain ⟨z0', z1', z2'⟩ := HX2.out w2 hrk.keep
      obtain ⟨d0, d1, _, _⟩ := cells2 z0'
      have ca : w2.cell? ⟨ag, ao, none⟩ = some (cur[ao]'hao) := by rw [cellAt z1' ao]; simp [hao]
      have fa : w2.frozen? ⟨ag, ao, none⟩ = false := by simp [World.frozen?, z1']
      obtain ⟨w3, hw3⟩ : ∃ w3, w3 = w2.setCell ⟨ag, ao, none⟩ (.slice va vn vc) := ⟨_, rfl⟩
      have hrk3 : Rk W.heap.size w3 (wr.heap.size + 1) (kidsL l) [] w3 := by rw [hw3]; exact hrk.store _ hO1 (by omega)
      have hlv3 : LvAt w1.heap.size w3 (.slice va vn vc) l xs := by rw [hw3]; exact hlv.stayT fun T' g' c _ hg' hB => heap_ne (by have := HS1.out; omega)
      have hkl : (kidsL l).length ≤ 100000 := by
        have h1 := (lsZ_sub _ xvs (Nat.le_refl _) l HLR.out.symm).length_le
        have h2 := HFX.out.len
        simp at h1
        omega
      have hlens := hlv.lens
      have hown3 : w3.ownsRow (W.heap.size + 1) 59 2 (.slice (some ⟨g, 0, none⟩) m cp) m (rowC init) := by
        refine own_stay HOWN0.out fun g' _ _ e => ?_
        cases e
        rw [hw3, heap_ne (fun e => hag1 e.symm), z2']
      have HTK : Hid (∀ w', Below w3.heap.size w3 w' → Calls Tryz.prog 16 #[.pointer (some ⟨wr.heap.size + 1, 0, none⟩), .slice va vn vc] w' fun e w'' => ∃ (u : Value) (n3 : List T3), e = .returned u ∧ (kidsL l = [] → u = .slice none 0 0) ∧ w''.ownsRow w3.heap.size 59 2 u n3.length (rowC n3) ∧ n3.length = (kidsL l).length ∧ n3.map Prod.snd = (tks l xs).map (fun y => (y.1, y.2.add 6)) ∧ (∃ wq, Below w3.heap.size w3 wq ∧ wq.heap.size ≤ w''.heap.size ∧ ∀ x ∈ n3, VsAt (· < W.heap.size) wq x.1 x.2.1) ∧ Below w3.heap.size w3 w'') := fun w' hB => by
        have hlv' := hlv3.keep hB
        have hA : ((tks l xs).map Prod.snd).length = (kidsL l).length := by rw [List.length_map, ← tks_kids l xs hlens, List.length_map]
        have hw := within_77 (f := lstB) (fun w k => listed_any w k) hlv'.see (by rw [see_sel, hA]; omega)
        rw [see_sel] at hw
        refine (tasks_any (hrk3.then hB) hw hA (by omega)).mono ?_
        rintro e w'' ⟨u, tsq, rfl, hnil, htr, htl, hti, hBu⟩
        obtain ⟨n3, a1, a2, a3, a4⟩ := three hlens htl hti
        refine ⟨u, n3, rfl, hnil, ?_, by rw [a2, htl], a3, ⟨w', hB, hBu.size, fun x hx => (a4 x hx).wider fun g hg _ => by omega⟩, hB.trans (hBu.mono hB.size)⟩
        rw [a1, a2]
        exact own_from htr hB.size
      have HNX : Hid (∀ (w5 w6 : World) (v6 : Value) (n3 : List T3), Below w3.heap.size w3 w5 → (∃ wq, Below w3.heap.size w3 wq ∧ wq.heap.size ≤ w5.heap.size ∧ ∀ x ∈ n3, VsAt (· < W.heap.size) wq x.1 x.2.1) → w5.grownBy w6 (some g) → (v6.ownBlock = some g ∨ ∃ k, v6.ownBlock = some k ∧ w5.heap.size ≤ k) → w6.ownsRow (W.heap.size + 1) 59 2 v6 (m + n3.length) (rowC init ++ rowC n3) → n3.map Prod.snd = (tks l xs).map (fun y => (y.1, y.2.add 6)) → ∃ ts S, m + n3.length = ts.length ∧ wgt ts < wgt (init ++ [((.slice sa xvs.length sc, xvs, ⟨ag, ao, none⟩) : T3)]) ∧ PaGo W R0 ts S v6 w6) := fun w5 w6 v6 n3 h1 ⟨wq, h2, h3, h4⟩ h5 h6 h7 h8 => by
        obtain ⟨p1, p2⟩ := PaGo.next HGO.out HM.out.symm HB1.out HS1.out hrk.keep hlv ⟨_, _, _, rfl⟩ HLR.out.symm hw3 h1 h2 h3 h5 h6 h7 h8 h4
        exact ⟨_, _, by rw [List.length_append, HM.out], p2, p1⟩
      have HOW : Hid (∀ w', Below w3.heap.size w3 w' → w'.ownsRow (W.heap.size + 1) 59 2 (.slice (some ⟨g, 0, none⟩) m cp) m (rowC init)) := fun w' hB => own_stayT hown3 fun g c hc _ => hB.block g (Array.getElem?_eq_some_iff.1 hc).1
      have HW3 := hid_mk hw3
      have gd : Below w3.heap.size w3 w3.drew := (Below.refl _ _).drew
      have gr : Below w3.heap.size w3 w3 := Below.refl _ _
      have hszW : W.heap.size + 1 ≤ w3.heap.size := by
        have h1 := HS1.out
        have h2 := hrk.keep.size
        rw [hw3]
        simp
        omega
      clear hli hlv hrk z0' z1' z2' hw3 hrk3 hlv3 hlens hown3 HX2 HOWN0 HGT HPZ HGO HLR HFX HY0 HAG HB1 HS1 HWW HSG HW1
      go_upto_region 11 with (fail)
      rw [← HW3.out]
      clear HW3 ca fa d0 d1 c1 c2
      by_cases hk : kidsL l = []
      · go_region_law (first
          | (go_simp; go_at_call 16; refine (HTK.out _ ?_).mono ?_; assumption; rintro e w5 ⟨u5, n3, rfl, hnil, ho5, hl5, hs5, hq5, gg5⟩; have hu5 := hnil hk; subst hu5)
          | (refine step_append_nil (by rfl) _ _ (by rfl) (by rfl) (by rfl) (by omega) ?_))
        all_goals
          have hn30 : n3 = [] := List.length_eq_zero_iff.1 (by rw [hl5, hk]; rfl)
          subst hn30
          obtain ⟨ts', S', b1, b2, b3⟩ := HNX.out w5 w5 (.slice (some ⟨g, 0, none⟩) m cp) [] gg5 hq5 (grown_self _ _) (.inl rfl) (by rw [show rowC [] = [] from rfl, List.append_nil]; exact HOW.out w5 gg5) hs5
          have HA1 := hid_mk b1
          have HA2 := hid_mk b2
          have HA3 := hid_mk b3
          clear hnil ho5 hl5 hs5 hq5 b1 b2 b3 gg5 HNX HOW HTK gd gr
          go_wp2
          go_roundg (wgt (init ++ [((.slice sa xvs.length sc, xvs, ⟨ag, ao, none⟩) : T3)]))
          case measure => exact HWG.out
          case rel => exact ⟨_, _, _, ts', S', rfl, HA1, HA2, HA3⟩
      · go_region_law (first
          | (go_simp; go_at_call 16; refine (HTK.out _ ?_).mono ?_; assumption; rintro e w5 ⟨u5, n3, rfl, hnil, ho5, hl5, hs5, hq5, gg5⟩; have hp5 : 0 < n3.length := (by rw [hl5]; exact List.length_pos_iff.2 hk); obtain ⟨ad, c5, hu5⟩ := own_len ho5 hp5; subst hu5; obtain ⟨q, hq⟩ : ∃ q, q = n3.length := ⟨_, rfl⟩; rw [← hq] at ho5 hp5 hl5 ⊢; have hq1 : q ≤ 100000 := (by omega); have HQ := hid_mk hq; clear hl5 hq; have hnw := own_news ho5; have hown := HOW.out w5 gg5; have hge := gg5.size)
          | (refine step_append_lies _ (by rfl) _ _ _ (by rfl) (W.heap.size + 1) 59 i0 z0 2 32 Tryz.underlying60 hi0 hz0 hz1 hz2 hz3 (by omega) (.slice (some ⟨g, 0, none⟩) m cp) m (rowC init) (by rfl) hown
              ad q c5 (rowC n3) (by rfl) (by rw [rowC_len, HQ.out]) hnw (fun u hu => rowC_one n3 u hu (VsAt_one hq5)) hp5 (by unfold maxLen; omega) (by omega) (by omega) w5.heap.size rfl ?_
             intro gg6 cap6 w6 hown6 hgrow6 hgat6 hglt6))
        all_goals
          have hg6 : (Value.slice (some ⟨gg6, 0, none⟩) (m + q) cap6).ownBlock = some g ∨ ∃ k, (Value.slice (some ⟨gg6, 0, none⟩) (m + q) cap6).ownBlock = some k ∧ w5.heap.size ≤ k := by
            rcases hgat6 with e | e
            · exact .inl e.symm
            · exact .inr ⟨gg6, rfl, Nat.le_of_eq e.symm⟩
          obtain ⟨ts', S', b1, b2, b3⟩ := HNX.out w5 w6 (.slice (some ⟨gg6, 0, none⟩) (m + q) cap6) n3 gg5 hq5 hgrow6 hg6 (by rw [← HQ.out]; exact hown6) hs5
          rw [← HQ.out] at b1
          have HA1 := hid_mk b1
          have HA2 := hid_mk b2
          have HA3 := hid_mk b3
          clear hnil ho5 hs5 hq5 b1 b2 b3 gg5 HNX HOW HTK gd gr hnw hown hown6 hgrow6 hgat6 hglt6 hg6
          go_wp2
          go_roundg (wgt (init ++ [((.slice sa xvs.length sc, xvs, ⟨ag, ao, none⟩) : T3)]))
          case measure => exact HWG.out
          case rel => exact ⟨_, _, _, ts', S', rfl, HA1, HA2, HA3⟩
end Go.Proofs.YtdibldcnklgcjaaGreatDoor.L
