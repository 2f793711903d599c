/- append: what lies in other blocks than the new row's is as it was. -/
import Derived.Test.YtecbgleidohjpabUpN
namespace Go.Proofs.Ytecbgleidohjpab.N
open Go.RowKit
set_option maxRecDepth 100000

theorem run_append_far {w : World} (base : Nat) (t ty e : TypeId) (i : TypeInfo) (z : Value) (size bytes : Nat) (ht : Try.prog.underlying t = some (.slice e)) (hi : Try.prog.info? e = some i) (hz : i.zero = some z)
    (hsize : i.size = size) (hby : i.bytes = bytes) (hzs : z.cells.size = size) (hsz : 0 < size) (v : Value) (n : Nat) (xs : List Value) (hown : w.ownsRow base e size v n xs)
    (a : Addr) (m c : Nat) (news : List Value) (hl : news.length = m * size) (hnews : ∀ j u, news[j]? = some u → w.cell? (a.add j) = some u) (h1 : ∀ u ∈ news, u.oneCell' = true)
    (h63 : n + m ≤ maxLen) (hbytes : (n + m) * bytes ≤ 140737488355328) (hbase : base ≤ w.heap.size) :
    ∃ v' w', (Builtin.append_ #[t, t] ty #[v, .slice (some a) m c]).run Try.prog w = .ok v' w' ∧ w'.ownsRow base e size v' (n + m) (xs ++ news) ∧ w.grownBy w' v.ownBlock ∧ ∀ k, k < w.heap.size → v'.ownBlock ≠ some k → w'.heap[k]? = w.heap[k]? := by
  obtain ⟨v', w', hr, h2, h3, _, h5⟩ := run_append_own_at (P := Try.prog) w base t ty e i z size bytes ht hi hz hsize hby hzs hsz v n xs hown a m c news hl hnews h1 h63 hbytes hbase
  refine ⟨v', w', hr, h2, h3, ?_⟩
  subst hsize
  subst hby
  have hsmall : n + m ≤ 9223372036854775807 := by simp only [maxLen] at h63; omega
  rcases hown.2 with ⟨rfl, rfl⟩ | ⟨g, cap, cur, rfl, hbg, hg, hnc, hcm, hcs, htake⟩
  · intro k hk _
    exact h3.block k hk (by simp [Value.ownBlock])
  · by_cases hroom : n + m ≤ cap
    · have hfit : n * i.size + news.length ≤ cur.size := by rw [hl, hcs, ← Nat.add_mul]; exact Nat.mul_le_mul_right _ hroom
      have hr' := run_append_room (P := Try.prog) w t ty e i ht hi g n cap cur hg a m c news hl hnews h1 hroom hfit
      rw [hr] at hr'
      cases hr'
      intro k hk hne
      refine h3.block k hk fun e => hne ?_
      rw [e]
      rfl
    · have hr' := run_append_grow (P := Try.prog) w t ty e i z ht hi hz ⟨g, 0, none⟩ n cap xs hown.1 (hown.cells (g := g) rfl) a m c news hl hnews (by omega) (by omega) (growslice_fits (by omega) hbytes)
      rw [hr] at hr'
      cases hr'
      intro k hk _
      exact heap_alloc_old w.drew _ hk
/-- An append of whatever a slice speaks of to a row of one's own. -/
theorem wpList_append_far {ops : Array Oper} {rest : List Oper} {o : Oper} {a : Act} {Q : Exit → Act → World → Prop} {w : World} (hgd : o.guard = none) (s x : Operand) (t : TypeId) (ho : o.op = .call { callee := .builtin .append, args := #[s, x], argTypes := #[t, t] })
    {B : Nat} {e : TypeId} {i : TypeInfo} {z : Value} {size bytes : Nat} (ht : Try.prog.underlying t = some (.slice e)) (hi : Try.prog.info? e = some i) (hz : i.zero = some z) (hsize : i.size = size) (hby : i.bytes = bytes) (hzs : z.cells.size = size) (hsz : 0 < size) (hbl : bytes ≤ 1000)
    {v : Value} {ua : Option Addr} {n m c : Nat} {xs ys : List Value} (hs : a.eval s = v) (hx : a.eval x = .slice ua m c) (hown : w.ownsRow B e size v n xs) (hsrc : RowAt w size ua m c ys) (hn : n + m ≤ 1000000) (hB : B ≤ w.heap.size)
    (h : ∀ v' w', w'.ownsRow B e size v' (n + m) (xs ++ ys) → w.grownBy w' v.ownBlock → (∀ k, k < w.heap.size → v'.ownBlock ≠ some k → w'.heap[k]? = w.heap[k]?) → wpList Try.prog ops Q rest (a.put o.dst v') w') : wpList Try.prog ops Q (o :: rest) a w := by
  obtain ⟨hl, hmc, hcm, h1, hc⟩ := hsrc
  rcases hc with ⟨rfl, rfl⟩ | ⟨b, off, rfl, _, hcell⟩
  · obtain rfl : m = 0 := by omega
    have hy0 : ys = [] := List.length_eq_zero_iff.1 (by simpa using hl)
    subst hy0
    refine wpList_append_same w hgd s x t ho v _ hs hx (run_append_empty ht hi hown _ _) ?_
    exact h v w (by simpa using hown) ⟨rfl, rfl, rfl, Nat.le_refl _, fun _ _ _ => rfl⟩ (fun _ _ _ => rfl)
  · refine wpList_plain hgd fun K hK => ?_
    obtain ⟨v', w', hr, h2, h3, h4⟩ := run_append_far (w := w) B t o.type e i z size bytes ht hi hz hsize hby hzs hsz v n xs hown ⟨b, off, none⟩ m c ys hl (fun j y hy => by rw [Addr.add_mid]; exact hcell j y hy) h1 (by unfold maxLen; omega) (Nat.le_trans (Nat.mul_le_mul hn hbl) (by decide)) hB
    unfold Oper.wp execOp
    simp only [ho, resolve, invoke, builtin, Sem.run_bind, Sem.run_pure, Result.andThen_ok, List.map_toArray, List.map_cons, List.map_nil, hs, hx, hr]
    exact hK _ _ (h v' w' h2 h3 h4)
/-- What an elder part of the row holds is there still. -/
theorem part_kept {W W' : World} {B n' g off : Nat} {v' : Value} {xs : List Value} {ys zs : List Value} (h : W'.ownsRow B 3 1 v' n' (ys ++ xs ++ zs)) (hoff : off = ys.length) (hold : ∀ j u, xs[j]? = some u → W.cell? ⟨g, off + j, none⟩ = some u) (hg : g < W.heap.size) (hfar : ∀ k, k < W.heap.size → v'.ownBlock ≠ some k → W'.heap[k]? = W.heap[k]?) :
    ∀ j u, xs[j]? = some u → W'.cell? ⟨g, off + j, none⟩ = some u := by
  intro j u hu
  by_cases hb : v'.ownBlock = some g
  · have hl := h.1
    rcases h.2 with ⟨rfl, _⟩ | ⟨k, cap, cur, rfl, h1, h2, h3, h4, h5, h6⟩
    · cases hb
    · cases hb
      have hj := (List.getElem?_eq_some_iff.1 hu).1
      have h7 : (ys ++ xs ++ zs)[off + j]? = some u := by
        rw [hoff, List.getElem?_append_left (by rw [List.length_append]; omega), List.getElem?_append_right (by omega), Nat.add_sub_cancel_left]
        exact hu
      have hlt := (List.getElem?_eq_some_iff.1 h7).1
      rw [← h6, List.getElem?_take_of_lt (by rw [← hl]; exact hlt)] at h7
      simp only [World.cell?, h2]
      simpa using h7
  · exact (World.cell?_of_block (a := ⟨g, off + j, none⟩) (hfar g hg hb)).trans (hold j u hu)

end Go.Proofs.Ytecbgleidohjpab.N
