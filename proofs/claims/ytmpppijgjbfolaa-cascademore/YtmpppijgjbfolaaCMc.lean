/- append([]Entry{}, l...) in a region that draws its order. -/
import Derived.Test.YtmpppijgjbfolaaCMb
namespace Go.Proofs.Ytmpppijgjbfolaa.C
open Go.RowKit
set_option maxRecDepth 100000

theorem lit_own {w : World} {X B : Nat} (h : w.heap[X]? = some (.cells #[] 26 (0, 0))) (hB : B ≤ X) : w.ownsRow B 26 8 (.slice (some ⟨X, 0, none⟩) 0 0) 0 [] :=
  ⟨by simp, .inr ⟨X, 0, #[], rfl, hB, h, Nat.le_refl _, Nat.zero_le _, by simp, by simp⟩⟩
theorem step_append_l {ops : Array Oper} {o : Oper} {a : Act} {K : Act → World → Prop} {Q : Exit → Act → World → Prop} {E : Prop} {w : World} (hgd : o.guard = none) (s x : Operand) (ho : o.op = .call { callee := .builtin .append, args := #[s, x], argTypes := #[22, 22] })
    {B X c : Nat} {pa : Option Addr} {l : List E8} (hs : a.eval s = .slice (some ⟨X, 0, none⟩) 0 0) (hx : a.eval x = .slice pa l.length c) (hX : w.heap[X]? = some (.cells #[] 26 (0, 0))) (hBX : B ≤ X) (hE : EsAt w pa c l) (hl : l.length * 80 ≤ 140737488351232)
    (h : ∀ v' w', EO w' B v' l → w.grownBy w' (some X) → (v'.ownBlock = some X ∨ v'.ownBlock = some w.heap.size) → K (a.put o.dst v') w') : if Region.wanted o (yielded ops a.tmps) = true then Oper.wp Try.prog o a w K Q else E := by
  have hw : Region.wanted o (yielded ops a.tmps) = true := by simp [Region.wanted, hgd]
  have hXl := (Array.getElem?_eq_some_iff.1 hX).1
  rw [if_pos hw]
  have hown := lit_own hX hBX
  by_cases h0 : 0 < l.length
  · obtain ⟨i0, hi0, hz0, hz1, hz2⟩ := info_parts Try.info26s
    obtain ⟨hl8, hlc, hcm, h1, hc⟩ := hE.2 h0
    rcases hc with ⟨_, e⟩ | ⟨b, off, e0, _, hcell⟩
    · omega
    · cases e0
      obtain ⟨v', w', hr, h2, h3, _, h5⟩ := run_append_own_at (P := Try.prog) w B 22 o.type 26 i0 _ 8 80 Try.underlying22 hi0 hz0 hz1 hz2 rfl (by decide) (.slice (some ⟨X, 0, none⟩) 0 0) 0 [] hown ⟨b, off, none⟩ l.length c (l.flatMap c8) hl8 (fun j y hy => by rw [Addr.add_mid]; exact hcell j y hy) h1 (by unfold maxLen; omega) (by omega) (by omega)
      unfold Oper.wp execOp
      simp only [ho, resolve, invoke, builtin, Sem.run_bind, Sem.run_pure, Result.andThen_ok, List.map_toArray, List.map_cons, List.map_nil, hs, hx, hr]
      refine h v' w' ?_ h3 h5
      rw [Nat.zero_add, List.nil_append] at h2
      exact h2
  · have hl0 : l = [] := List.length_eq_zero_iff.1 (by omega)
    subst hl0
    cases pa with
    | none =>
      unfold Oper.wp execOp
      simp only [ho, resolve, invoke, builtin, Sem.run_bind, Sem.run_pure, Result.andThen_ok, List.map_toArray, List.map_cons, List.map_nil, hs, hx, List.length_nil, run_append_none]
      exact h _ w hown (grown_self w _) (.inl rfl)
    | some ad =>
      obtain ⟨i0, hi0, hz0, hz1, hz2⟩ := info_parts Try.info26s
      obtain ⟨v', w', hr, h2, h3, _, h5⟩ := run_append_own_at (P := Try.prog) w B 22 o.type 26 i0 _ 8 80 Try.underlying22 hi0 hz0 hz1 hz2 rfl (by decide) (.slice (some ⟨X, 0, none⟩) 0 0) 0 [] hown ad 0 c [] (by simp) (fun j y hy => by simp at hy) (by simp) (by unfold maxLen; omega) (by omega) (by omega)
      unfold Oper.wp execOp
      simp only [ho, resolve, invoke, builtin, Sem.run_bind, Sem.run_pure, Result.andThen_ok, List.map_toArray, List.map_cons, List.map_nil, hs, hx, List.length_nil, hr]
      refine h v' w' ?_ h3 h5
      exact h2
/-- What the second append's source says: an entry in a block of its own. -/
def Src (w : World) (b : Nat) (x : E8) : Prop := w.heap[b]? = some (.cells #[.string x.n, .string x.v, .int .i64 x.o, .bool x.im, .int .i64 x.a, .int .i64 x.b, .int .i64 x.c, .int .i64 x.k] 26 (0, 0))
theorem step_append_x {ops : Array Oper} {o : Oper} {a : Act} {K : Act → World → Prop} {Q : Exit → Act → World → Prop} {E : Prop} {w : World} (hgd : o.guard = none) (s y : Operand) (ho : o.op = .call { callee := .builtin .append, args := #[s, y], argTypes := #[22, 22] })
    {B b c : Nat} {v : Value} {l : List E8} {x : E8} (hs : a.eval s = v) (hy : a.eval y = .slice (some ⟨b, 0, none⟩) 1 c) (hown : EO w B v l) (hS : Src w b x) (hl : l.length * 80 ≤ 140737488351232) (hB : B ≤ w.heap.size)
    (h : ∀ v' w', EO w' B v' (l ++ [x]) → w.grownBy w' v.ownBlock → K (a.put o.dst v') w') : if Region.wanted o (yielded ops a.tmps) = true then Oper.wp Try.prog o a w K Q else E := by
  have hw : Region.wanted o (yielded ops a.tmps) = true := by simp [Region.wanted, hgd]
  rw [if_pos hw]
  obtain ⟨i0, hi0, hz0, hz1, hz2⟩ := info_parts Try.info26s
  obtain ⟨v', w', hr, h2, h3, _, h5⟩ := run_append_own_at (P := Try.prog) w B 22 o.type 26 i0 _ 8 80 Try.underlying22 hi0 hz0 hz1 hz2 rfl (by decide) v l.length (l.flatMap c8) hown ⟨b, 0, none⟩ 1 c (c8 x) rfl (World.news_of_block (cs := #[.string x.n, .string x.v, .int .i64 x.o, .bool x.im, .int .i64 x.a, .int .i64 x.b, .int .i64 x.c, .int .i64 x.k]) (t := 26) (fr := (0, 0)) hS) (by simp [c8, Value.oneCell']) (by unfold maxLen; omega) (by omega) hB
  unfold Oper.wp execOp
  simp only [ho, resolve, invoke, builtin, Sem.run_bind, Sem.run_pure, Result.andThen_ok, List.map_toArray, List.map_cons, List.map_nil, hs, hy, hr]
  refine h v' w' ?_ h3
  unfold EO
  rw [List.length_append, List.flatMap_append]
  have e1 : [x].flatMap c8 = c8 x := by simp
  rw [e1]
  exact h2
end Go.Proofs.Ytmpppijgjbfolaa.C
