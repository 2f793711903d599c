/- What a light selector is bounded by; a list of one selector; the two ways to skip are one. -/
import Derived.Test.YtdiljkmlneeboaaNef
import Derived.Test.YtdiljkmlneeboaaWgt
namespace Go.Proofs.Ytdiljkmlneeboaa
open Go.RowKit
set_option maxRecDepth 100000

theorem le_sum_map {α : Type} (f : α → Nat) : ∀ {l : List α} {x : α}, x ∈ l → f x ≤ (l.map f).sum
  | y :: l, x, h => by
    rw [List.map_cons, List.sum_cons]
    rcases List.mem_cons.1 h with e | h
    · rw [e]; omega
    · have := le_sum_map f h; omega
theorem len_sum_map {α : Type} (f : α → Nat) (hf : ∀ x, 1 ≤ f x) : ∀ (l : List α), l.length ≤ (l.map f).sum
  | [] => Nat.le_refl _
  | y :: l => by
    rw [List.map_cons, List.sum_cons, List.length_cons]
    have := len_sum_map f hf l
    have := hf y
    omega
theorem flat_len {f : Nat → List Nat} {M : Nat} (h : ∀ i, (f i).length ≤ M) : ∀ n, ((List.range n).flatMap f).length ≤ n * M
  | 0 => by simp
  | n + 1 => by
    rw [range_flat, List.length_append, Nat.succ_mul]
    have := flat_len h n
    have := h n
    omega
theorem wt_bounds {c : Cx} (h : ∀ d, wt d [c] ≤ 200) : (∀ p ∈ c.parts, ∀ x ∈ p, x.1.nm.size ≤ 5000) ∧ c.parts.length ≤ 1000000 ∧ (asksL c).length ≤ 1000000 := by
  have h1 := h 1
  have e : wt 1 [c] = 1 + c.combs.length + (c.parts.map (wtP (wt 0))).sum := by simp [wt, wtC]
  rw [e] at h1
  have hp : ∀ p ∈ c.parts, wtP (wt 0) p ≤ 200 := fun p hp => by have := le_sum_map (wtP (wt 0)) hp; omega
  have hl : c.parts.length ≤ (c.parts.map (wtP (wt 0))).sum := len_sum_map _ (fun p => by unfold wtP; omega) _
  refine ⟨fun p hpm x hx => ?_, by omega, ?_⟩
  · have h2 := hp p hpm
    unfold wtP at h2
    have h3 := le_sum_map (wtS (wt 0)) hx
    unfold wtS at h3 h2
    omega
  · have hk : ∀ p ∈ c.parts, (keysP p).length ≤ 200 := fun p hpm => by
      have h2 := hp p hpm
      unfold wtP at h2
      have h3 := len_sum_map (wtS (wt 0)) (fun x => by unfold wtS; omega) p
      have h4 : (keysP p).length ≤ p.length := by unfold keysP; rw [List.length_map]; exact List.length_filter_le _ _
      omega
    unfold asksL
    split
    · refine Nat.le_trans (flat_len (M := 200) (fun i => ?_) _) (by omega)
      unfold asksI
      split
      · rcases Nat.lt_or_ge i c.parts.length with hi | hi
        · rw [List.getD_eq_getElem?_getD, List.getElem?_eq_getElem hi]
          exact hk _ (List.getElem_mem hi)
        · rw [List.getD_eq_getElem?_getD, List.getElem?_eq_none hi]
          simp [keysP]
      · simp
    · simp
/-- A list of one. -/
theorem ClAt.one {W : World} {v pv cv : Value} {c : Cx} {b bc oc bp op : Nat} {qv : Nat → Value} {bq oq : Nat → Nat} {lv : Nat → Nat → Value} (hs : Sl W v 1 b 0) (h0 : W.cell? ⟨b, 0, none⟩ = some pv) (h1 : W.cell? ⟨b, 1, none⟩ = some cv) (hc : CxAt (ClAt W) W pv cv c bc oc bp op qv bq oq lv) : ClAt W v [c] := by
  refine .mk v [c] b 0 (fun _ => pv) (fun _ => cv) (fun _ => bc) (fun _ => oc) (fun _ => bp) (fun _ => op) (fun _ => qv) (fun _ => bq) (fun _ => oq) (fun _ => lv) hs (fun i hi => ?_) (fun i hi => ?_) (fun i hi t ht => ?_) (fun i hi => ?_) (fun i hi j hj => ?_) (fun i hi j hj => ?_) (fun i hi j hj t ht y u hu => ?_) (fun i hi j hj t ht => ?_) <;>
    (have ei : i = 0 := by simpa using hi) <;> subst ei
  · exact ⟨h0, h1⟩
  · exact hc.cs
  · exact hc.cc t ht
  · exact hc.ps
  · exact hc.pc j hj
  · exact hc.qs j hj
  · exact hc.qc j hj t ht y u hu
  · exact hc.ls j hj t ht
/-- The two ways to skip. -/
theorem skip_same (f : Flt) (l : List Nat) : (!(addAll f l).eqb f) = lackB f (putsL l) := by
  cases h : (addAll f l).eqb f with
  | true =>
    have h1 := (addAll_there l f).1 ((eqb_iff _ _).1 h)
    symm
    unfold lackB
    rw [Bool.not_true, List.any_eq_false]
    intro k hk
    rw [(eqb_iff _ _).2 (h1 k ((puts_mem _ _).1 hk))]
    simp
  | false =>
    symm
    unfold lackB
    rw [Bool.not_false, List.any_eq_true]
    apply Decidable.byContradiction
    intro hn
    have h1 : addAll f l = f := (addAll_there l f).2 fun k hk => by
      cases hk2 : (f.add k).eqb f with
      | true => exact (eqb_iff _ _).1 hk2
      | false => exact absurd ⟨k, (puts_mem _ _).2 hk, by rw [hk2]; rfl⟩ hn
    rw [(eqb_iff _ _).2 h1] at h
    cases h
end Go.Proofs.Ytdiljkmlneeboaa
