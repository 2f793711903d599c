/- Skip of any selector. -/
import Derived.Test.YtdiljkmlneeboaaKed
import Derived.Test.YtdiljkmlneeboaaMth
namespace Go.Proofs.Ytdiljkmlneeboaa
open Go.RowKit
set_option maxRecDepth 100000

theorem eqb_iff (f g : Flt) : f.eqb g = true ↔ f = g := by
  unfold Flt.eqb
  rw [decide_eq_true_eq]
  constructor
  · rintro ⟨h1, h2, h3, h4⟩
    cases f; cases g
    dsimp only at h1 h2 h3 h4
    subst h1 h2 h3 h4
    rfl
  · rintro rfl
    exact ⟨rfl, rfl, rfl, rfl⟩
/-- Nothing is added just if each is there. -/
theorem addAll_there : ∀ (l : List Nat) (f : Flt), addAll f l = f ↔ ∀ k ∈ l, f.add k = f
  | l, f => by
    constructor
    · intro h k hk
      have h1 := addAll_mem f hk
      rw [h] at h1
      exact h1
    · intro h
      induction l with
      | nil => rfl
      | cons x l ih =>
        show addAll (f.add x) l = f
        rw [h x (by simp)]
        exact ih fun k hk => h k (by simp [hk])

set_option maxHeartbeats 2000000 in
theorem skip_any {w : World} (f : Flt) (hf : f.ok) {pv cv : Value} {c : Cx} {bc oc bp op : Nat} {qv : Nat → Value} {bq oq : Nat → Nat} {lv : Nat → Nat → Value} (hc : CxAt (ClAt w) w pv cv c bc oc bp op qv bq oq lv) (hn : ∀ p ∈ c.parts, ∀ x ∈ p, x.1.nm.size ≤ 140737488351232) (hl : c.parts.length ≤ 100000000000000) :
    Calls Try.prog 17 #[f.v, .agg #[pv, cv]] w fun e w' => e = .returned (.bool (!(addAll f (asksL c)).eqb f)) ∧ Below w.heap.size w w' := by
  obtain ⟨w1, hw1⟩ : ∃ w1, w1 = ((w.alloc (.cells #[.int .u64 (f.a : Int), .int .u64 (f.b : Int), .int .u64 (f.c : Int), .int .u64 (f.d : Int)] 27)).alloc (.cells #[pv, cv] 36)).alloc (.cells #[.int .u64 (f.a : Int), .int .u64 (f.b : Int), .int .u64 (f.c : Int), .int .u64 (f.d : Int)] 27) := ⟨_, rfl⟩
  have hB1 : Below w.heap.size w w1 := by rw [hw1]; exact (((Below.refl _ _).alloc (Nat.le_refl _) _).alloc (by simp) _).alloc (by simp; omega) _
  have hs1 : w1.heap.size = w.heap.size + 3 := by rw [hw1]; simp
  have hf1 : FAt w1 (w.heap.size + 2) 27 f := by rw [hw1]; exact alloc_at _ _ _ (by simp)
  have hf0 : FAt w1 w.heap.size 27 f := by
    rw [hw1]
    unfold FAt
    rw [Below.heap_alloc _ _ _ (by simp; omega), Below.heap_alloc _ _ _ (by simp)]
    exact heap_alloc_last w _
  have hask := asksG_26 (J := fun l W => KeepX (w.heap.size + 2) w1 W ∧ FAt W (w.heap.size + 2) 27 (addAll f l)) (pv := pv) (cv := cv) (c := c) (bc := bc) (oc := oc) (bp := bp) (op := op) (qv := qv) (bq := bq) (oq := oq) (lv := lv) (b := w.heap.size + 2)
    (fun l W W' h hb => ⟨h.1.trans (KeepX.of hb), h.2.keep hb⟩)
    (fun l W h => hc.keep (hB1.trans (h.1.below (by omega) (by omega))))
    hn hl
    (fun l W k hk h => (tell26 (ok_addAll l hf) h.2 k hk).mono fun e W' q => ⟨q.1, ⟨h.1.trans q.2.2, by rw [addAll_app]; exact q.2.1⟩, q.2.2⟩)
    (w := w1) (l := []) ⟨KeepX.of (Below.refl _ _), hf1⟩ (by omega)
  rw [List.nil_append] at hask
  obtain ⟨pa, pc, epv, _⟩ := hc.ps
  obtain ⟨ca, cc, ecv, _⟩ := hc.cs
  have HE : Hid (∀ V, _) := fun V => flt_eq V (addAll f (asksL c)) f
  generalize addAll f (asksL c) = r at *
  have HF0 := hid_mk hf0
  have HB1 := hid_mk hB1
  have HS1 := hid_mk hs1
  have HW1 := hid_mk hw1
  subst epv ecv
  clear hB1 hs1 hf1 hf0 hw1 hc hn
  generalize r.eqb f = z at *
  unfold Flt.v
  go_enter Try.func17, Try.ntmps17
  go_wp2_with (go_at_call 24; fail)
  rw [← HW1.out]
  refine hask.mono ?_
  rintro e w2 ⟨rfl, hX, hF2⟩
  have hF0 : FAt w2 w.heap.size 27 f := (hX.block _ (by rw [HS1.out]; omega) (by omega)).trans HF0.out
  have HB := hid_mk (HB1.out.trans (hX.below (B := w.heap.size) (by omega) (by rw [HS1.out]; omega)))
  obtain ⟨k0, k1, k2, k3⟩ := hF2.cells.1
  obtain ⟨m0, m1, m2, m3⟩ := hF0.cells.1
  have hE := HE.out
  clear hask hF2 hX hF0 HF0 HB1 HS1 HW1 HE
  go_wp2
  go_ret
  exact ⟨rfl, HB.out⟩
end Go.Proofs.Ytdiljkmlneeboaa
