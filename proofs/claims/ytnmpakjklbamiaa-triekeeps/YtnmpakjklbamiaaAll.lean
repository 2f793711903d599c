/- trie's All: all numbers that have something, rising. -/
import Derived.Test.YtnmpakjklbamiaaTell
namespace Go.Proofs.Ytnmpakjklbamiaa
open Go.RowKit Go.Shelf S
set_option maxRecDepth 100000
attribute [local go_sem] Oper.semAt_some

theorem tell_all (l N lo hi : Nat) (J Jx : List Pr → World → Prop) (hab : ∀ s A B, J s A → Below A.heap.size A B → J s B)
    (hY : ∀ m pre x W, J pre W → pre.length < N → YieldAt Fence.wide m Try.prog l (encP x) W fun e W' => (e = .returned (.bool true) ∧ J (pre ++ [x]) W' ∧ KeepC lo hi W W') ∨ (e = .returned (.bool false) ∧ Jx (pre ++ [x]) W'))
    (W0 : World) (t : T) : ∀ (L : Nat), L ≤ 4 → wfT (L + 1) t → allS t → Held (66, 9) W0 t → lowV lo t →
    ∀ (m n : Nat) pre W, n + 16 ^ (L + 1) ≤ 1048576 → hi ≤ W.heap.size → KeepC lo hi W0 W → J pre W → pre.length + (ents t (L + 1) n).length ≤ N →
      CallsIn Fence.wide m Try.prog 43 #[t.bp, .int .i64 (n : Int), .int .i64 ((4 * L : Nat) : Int), .func (.yield l) #[] #[]] W (TellPost lo hi W J Jx pre (ents t (L + 1) n)) := by
  induction t with
  | nil =>
    intro L hL hwf hs hh hlow
    exact tell_step l N lo hi W0 J Jx hab hY .nil L hL hwf hs hh hlow (fun p _ ⟨b, k, e⟩ => by cases e)
  | val b v =>
    intro L hL hwf
    exact hwf.elim
  | node b k ih =>
    intro L hL hwf hs hh hlow
    refine tell_step l N lo hi W0 J Jx hab hY (.node b k) L hL hwf hs hh hlow (fun p hp ⟨b', k', e⟩ => ?_)
    cases L with
    | zero => exact absurd e (hwf p hp b' k')
    | succ L =>
      intro m n pre W hn hhi hW hJ hN
      have := ih p L (by omega) (hwf p hp) (hs p hp) (hh.2 p hp) (hlow.2 p hp) m n pre W hn hhi hW hJ hN
      rw [show (((4 * (L + 1) : Nat) : Int) - 4) = ((4 * L : Nat) : Int) by omega]
      exact this
theorem grown_of_below {A B : World} (h : Below A.heap.size A B) : A.grownBy B none := ⟨h.os, h.tape, h.output, h.size, fun k hk _ => h.block k hk⟩
set_option maxHeartbeats 1000000 in
/-- The function that All hands back. -/
theorem all_stops (lo hi m : Nat) (t : T) (w : World) (Bt : Nat) (hwf : wfT 5 t) (hs : allS t) (hh : Held (66, 9) w t) (hlow : lowV lo t) (hhi : hi ≤ w.heap.size) (hb : w.heap[Bt]? = some (.cells #[t.bp] 51 (0, 0))) :
    SeqStopsK Fence.wide m Try.prog 42 #[.pointer (some ⟨Bt, 0, none⟩)] encP (KeepC lo hi) (fun ys => ys = ents t 5 0) (fun pre => pre <+: ents t 5 0) (ents t 5 0).length w := by
  intro l J Jx W hW hJ _ hY h0
  have hd : Fence.wide.depth = none := rfl
  have hab : ∀ s A B, J s A → Below A.heap.size A B → J s B := fun s A B hs hB => hJ s A B none hs (grown_of_below hB) (fun r e => by cases e)
  have hc : W.cell? ⟨Bt, 0, none⟩ = some t.bp := by
    rw [cell_of_row _ _ _ _ _ _ ((hW.block _ (Array.getElem?_eq_some_iff.1 hb).1).trans hb)]
    rfl
  have hp := tell_all l (ents t 5 0).length lo hi J Jx hab (fun k pre x W1 hj hl => by
      obtain ⟨fn, tmps, assign, body, hy, hR⟩ := hY pre x W1 hj hl
      exact ⟨fn, tmps, assign, body, hy, ⟨hR.1, fun c cs _ => hR.2 c cs (fun d h => by cases h)⟩⟩) W t 4 (Nat.le_refl _) hwf hs (hh.keep hW) hlow (m - 1) 0 [] W (by decide) (Nat.le_trans hhi hW.size) (KeepC.refl _ _ _) h0 (by simp)
  have hdd : ∀ k : Nat, (Fence.wide.depth.isSome = true → 1 ≤ k) := fun k h => by cases h
  have hf43 : Fence.wide.fn 43 := trivial
  clear hY hJ hab hW hb hh hlow
  obtain ⟨P0, hP0⟩ : ∃ P0, P0 = t.bp := ⟨_, rfl⟩
  rw [← hP0] at hc
  rw [← hP0] at hp
  clear hP0
  show CallsIn Fence.wide m Try.prog 42 #[.func (.yield l) #[] #[], .pointer (some ⟨Bt, 0, none⟩)] W _
  refine callsIn_of_wp Try.func42 rfl trivial ?_ rfl
  simp only [Try.ntmps42, List.size_toArray, List.length_cons, List.length_nil, Nat.reduceAdd, Nat.reduceSub, Array.replicate_succ, Array.replicate_zero, List.push_toArray, List.append_toArray, List.nil_append, List.cons_append]
  gi_wp2_with ((try refine ⟨hdd _, ?_⟩); gi_at_call 43; refine CallsIn.mono hp ?_; clear hp; rintro e W1 (⟨rfl, hJ1, _⟩ | ⟨rfl, q, hq, hx⟩))
  · go_end0
    exact ⟨⟨_, rfl⟩, .inl ⟨_, rfl, by simpa using hJ1⟩⟩
  · go_end0
    exact ⟨⟨_, rfl⟩, .inr ⟨q, hq, by simpa using hx⟩⟩
set_option maxHeartbeats 400000 in
theorem all_any {w : World} {tp : Value} {t : T} (h : S.At w tp t) : Calls Try.prog 25 #[tp] w fun e w' => e = .returned (.func (.func 42) #[] #[.pointer (some ⟨w.heap.size, 0, none⟩)]) ∧ w' = w.alloc (.cells #[t.bp] 51) := by
  have h1 := top_any h
  obtain ⟨a, e⟩ := t.bp_ptr
  rw [e] at h1 ⊢
  clear h e
  go_enter Try.func25, Try.ntmps25
  go_wp2_with (go_at_call 33; refine h1.mono ?_; rintro e w1 ⟨rfl, rfl⟩)
  go_ret
  exact ⟨rfl, rfl⟩

theorem fn_nil (w : World) (f : Fn) (xs bs : Array Value) : (binOp .eql 56 (.func f xs bs) .nilFunc).run Try.prog w = .ok (.bool false) w := by
  have h : ∀ d : Nat, (Op.equalIn (d + 1) 56 (.func f xs bs) .nilFunc).run Try.prog w = .ok false w := fun d => by
    simp [Op.equalIn, run_underlying Try.underlying56]
  simp only [binOp]
  simp [Op.equal, Op.maxDepth, h 9999]

end Go.Proofs.Ytnmpakjklbamiaa
