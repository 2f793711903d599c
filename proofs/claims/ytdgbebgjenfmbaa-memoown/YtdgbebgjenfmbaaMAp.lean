/- append([]string{}, l...). -/
import Derived.Test.YtdgbebgjenfmbaaMTx
import Derived.OwnWalk
import Derived.Laws.OwnMore
import Derived.Deep.DeepMust
namespace Go.Proofs.Ytdgbebgjenfmbaa.M
open Go.RowKit Go.Shelf
set_option maxRecDepth 100000

theorem lit_own {w : World} {X : Nat} (h : w.heap[X]? = some (.cells #[] 9 (0, 0))) : StO X w (.slice (some ⟨X, 0, none⟩) 0 0) [] :=
  ⟨by simp, .inr ⟨X, 0, #[], rfl, Nat.le_refl _, h, Nat.le_refl _, Nat.zero_le _, by simp, by simp⟩⟩
theorem run_append_nil (w : World) (ty : TypeId) (X c : Nat) : (Builtin.append_ #[29, 29] ty #[.slice (some ⟨X, 0, none⟩) 0 0, .slice none 0 c]).run Try.prog w = .ok (.slice (some ⟨X, 0, none⟩) 0 0) w := by
  obtain ⟨i0, hi, _⟩ := info_parts (P := Try.prog) (e := 9) (z := .string .empty) (size := 1) (bytes := 16) (by kernel_rfl)
  have hu : Try.prog.underlying 29 = some (.slice 9) := by kernel_rfl
  simp [Builtin.append_, run_underlying hu, sizeOf, typeInfo, hi, Builtin.lenOf, Builtin.firstCells, storeCells]
theorem run_append_l (w : World) (ty : TypeId) {P : Nat → Prop} {X : Nat} {sv : Value} {l : List ByteArray} (hX : w.heap[X]? = some (.cells #[] 9 (0, 0))) (hS : SsAt P w sv l) (hl : l.length ≤ 8796093021952) :
    ∃ v' w', (Builtin.append_ #[29, 29] ty #[.slice (some ⟨X, 0, none⟩) 0 0, sv]).run Try.prog w = .ok v' w' ∧ StO X w' v' l ∧ w.grownBy w' (some X) ∧ (v'.ownBlock = some X ∨ v'.ownBlock = some w.heap.size) := by
  obtain ⟨i0, hi0, hz0, hz1, hz2⟩ := info_parts (P := Try.prog) (e := 9) (z := .string .empty) (size := 1) (bytes := 16) (by kernel_rfl)
  have hu : Try.prog.underlying 29 = some (.slice 9) := by kernel_rfl
  have hXl := (Array.getElem?_eq_some_iff.1 hX).1
  obtain ⟨pa, c, g, o, rfl, h2, h3, h4, h5⟩ := hS
  have go : ∀ (ad : Addr) (hc : ∀ (j : Nat) (y : Value), (l.map Value.string)[j]? = some y → w.cell? (ad.add j) = some y), ∃ v' w', (Builtin.append_ #[29, 29] ty #[.slice (some ⟨X, 0, none⟩) 0 0, .slice (some ad) l.length c]).run Try.prog w = .ok v' w' ∧ StO X w' v' l ∧ w.grownBy w' (some X) ∧ (v'.ownBlock = some X ∨ v'.ownBlock = some w.heap.size) := fun ad hc => by
    obtain ⟨v', w', hr, r2, r3, _, r5⟩ := run_append_own_at (P := Try.prog) w X 29 ty 9 i0 _ 1 16 hu hi0 hz0 hz1 hz2 rfl (by decide) (.slice (some ⟨X, 0, none⟩) 0 0) 0 [] (lit_own hX) ad l.length c (l.map Value.string) (by simp) hc (fun u hu => by obtain ⟨s, _, rfl⟩ := List.mem_map.1 hu; rfl) (by unfold maxLen; omega) (by omega) (by omega)
    refine ⟨v', w', hr, ?_, r3, r5⟩
    rw [Nat.zero_add, List.nil_append] at r2
    exact r2
  by_cases h0 : 0 < l.length
  · obtain ⟨rfl, hg, _⟩ := h4 h0
    refine go _ fun j y hj => ?_
    rw [List.getElem?_map] at hj
    cases hq : l[j]? with
    | none => rw [hq] at hj; cases hj
    | some s =>
      rw [hq] at hj
      injection hj with hj
      subst hj
      rw [Addr.add_mid]
      exact h5 j s hq
  · have hl0 : l = [] := List.length_eq_zero_iff.1 (by omega)
    subst hl0
    cases pa with
    | none => exact ⟨_, w, run_append_nil w ty X c, lit_own hX, ⟨rfl, rfl, rfl, Nat.le_refl _, fun _ _ _ => rfl⟩, .inl rfl⟩
    | some ad => exact go ad fun j y hj => by simp at hj
theorem wpList_app {ops : Array Oper} {rest : List Oper} {o : Oper} {a : Act} {Q : Exit → Act → World → Prop} (w : World) (hg : o.guard = none) (s x : Operand) (hop : o.op = .call { callee := .builtin .append, args := #[s, x], argTypes := #[29, 29] })
    {P : Nat → Prop} {X : Nat} {sv : Value} {l : List ByteArray} (hs : a.eval s = .slice (some ⟨X, 0, none⟩) 0 0) (hx : a.eval x = sv) (hX : w.heap[X]? = some (.cells #[] 9 (0, 0))) (hS : SsAt P w sv l) (hl : l.length ≤ 8796093021952)
    (hK : ∀ v' w', StO X w' v' l → w.grownBy w' (some X) → (v'.ownBlock = some X ∨ v'.ownBlock = some w.heap.size) → wpList Try.prog ops Q rest (a.put o.dst v') w') : wpList Try.prog ops Q (o :: rest) a w := by
  refine wpList_plain hg fun K hK' => ?_
  obtain ⟨v', w', hr, h1, h2, h3⟩ := run_append_l w o.type hX hS hl
  unfold Oper.wp
  simp [execOp, hop, resolve, invoke, builtin, hs, hx, hr, Result.andThen]
  exact hK' _ _ (hK v' w' h1 h2 h3)
/-- A row of one's own as it is: where it lies, and a text that is put. -/
theorem StO.parts {B : Nat} {w : World} {v : Value} {l : List ByteArray} (h : StO B w v l) (h0 : 0 < l.length) : ∃ g c, v = .slice (some ⟨g, 0, none⟩) l.length c ∧ v.ownBlock = some g ∧ B ≤ g ∧ g < w.heap.size ∧ (∀ (k : Nat) (s : ByteArray), l[k]? = some s → w.cell? ⟨g, k, none⟩ = some (.string s) ∧ w.frozen? ⟨g, k, none⟩ = false) ∧ ∀ (k : Nat) (s : ByteArray), StO B (w.setCell ⟨g, k, none⟩ (.string s)) v (l.set k s) := by
  have hh := h
  obtain ⟨hl, hc⟩ := h
  rcases hc with ⟨rfl, e0⟩ | ⟨g, cap, cur, rfl, hBg, hg, hnc, hcm, hszz, hcur⟩
  · omega
  · refine ⟨g, cap, rfl, rfl, hBg, (Array.getElem?_eq_some_iff.1 hg).1, fun k s hk => ⟨?_, ?_⟩, fun k s => ?_⟩
    · have := World.ownsRow.cells hh (g := g) rfl k (.string s) (by rw [List.getElem?_map, hk]; rfl)
      rw [Addr.add_mid, Nat.zero_add] at this
      exact this
    · simp [World.frozen?, hg]
    · have := (World.ownsRow.stored hh k (.string s)).1
      unfold StO
      rw [List.length_set, List.map_set]
      exact this
end Go.Proofs.Ytdgbebgjenfmbaa.M
