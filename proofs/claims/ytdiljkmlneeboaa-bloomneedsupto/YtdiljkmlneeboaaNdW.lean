/- BloomNeeds: the walk, as soon as slices.Sort of keys sorts. -/
import Derived.Test.YtdiljkmlneeboaaNdB
import Derived.Test.YtdiljkmlneeboaaLiv
namespace Go.Proofs.Ytdiljkmlneeboaa
open Go.RowKit
set_option maxRecDepth 100000

theorem RdK.keep {W W' : World} {v : Value} {l : List Nat} (h : RdK W v l) (hb : Below W.heap.size W W') : RdK W' v l := by
  obtain ⟨a, c, h1, h2, h3, h4⟩ := h
  refine ⟨a, c, h1, h2, h3, fun t ht => ?_⟩
  obtain ⟨g, o, e, hg, hc⟩ := h4 t ht
  exact ⟨g, o, e, Nat.lt_of_lt_of_le hg hb.size, (hb.cell (p := ⟨g, o + t, none⟩) hg).trans hc⟩

set_option maxHeartbeats 4000000 in
theorem needs_walk (HS : SortC) {W : World} {pv cv : Value} {c : Cx} {bc oc bp op : Nat} {qv : Nat → Value} {bq oq : Nat → Nat} {lv : Nat → Nat → Value} (hc : CxAt (ClAt W) W pv cv c bc oc bp op qv bq oq lv) (hwt : ∀ d, wt d [c] ≤ 10000000) (f : Flt) (hf : f.ok) :
    Calls Try.prog 4 #[.agg #[pv, cv], f.v] W fun e w' => e = .returned (.bool true) ∧ Below W.heap.size W w' := by
  obtain ⟨w1, hw1⟩ : ∃ w1, w1 = (W.alloc (.cells #[pv, cv] 36)).alloc (.cells #[.int .u64 (f.a : Int), .int .u64 (f.b : Int), .int .u64 (f.c : Int), .int .u64 (f.d : Int)] 23) := ⟨_, rfl⟩
  have hB1 : Below W.heap.size W w1 := by rw [hw1]; exact ((Below.refl _ _).alloc (Nat.le_refl _) _).alloc (by simp) _
  have hs1 : w1.heap.size = W.heap.size + 2 := by rw [hw1]; simp
  have hx1 : w1.heap[W.heap.size]? = some (.cells #[pv, cv] 36 (0, 0)) := by
    rw [hw1, Below.heap_alloc _ _ _ (by simp)]
    exact heap_alloc_last W _
  have hf1 : FAt w1 (W.heap.size + 1) 23 f := by rw [hw1]; exact alloc_at _ _ _ (by simp)
  obtain ⟨w2, hw2⟩ : ∃ w2, w2 = w1.alloc (.cells #[pv, cv] 36) := ⟨_, rfl⟩
  have hB2 : Below w1.heap.size w1 w2 := by rw [hw2]; exact (Below.refl _ _).alloc (Nat.le_refl _) _
  have hx2 : w2.heap[w1.heap.size]? = some (.cells #[pv, cv] 36 (0, 0)) := by rw [hw2]; exact heap_alloc_last w1 _
  have hB12 : Below W.heap.size W w2 := hB1.trans (hB2.mono hB1.size)
  have hcl : ClAt w2 (.slice (some ⟨w1.heap.size, 0, none⟩) 1 1) [c] := ClAt.one (b := w1.heap.size) ⟨_, 1, rfl, Nat.le_refl _, by decide, fun _ => ⟨rfl, by rw [hw2]; simp⟩⟩ (cellAt hx2 0) (cellAt hx2 1) (hc.keep hB12)
  have hwe := weight_any hcl 200 (by decide) (by decide) hwt w2 (Below.refl _ _)
  have c0 : w1.cell? ⟨W.heap.size, 0, none⟩ = some pv := cellAt hx1 0
  have c1 : w1.cell? ⟨W.heap.size, 1, none⟩ = some cv := cellAt hx1 1
  have HC := hid_mk hc
  have HX1 := hid_mk ((hB2.block _ (by omega)).trans hx1)
  have HF1 := hid_mk (hf1.keep hB2)
  have HLV := hid_mk lives_any
  have HW1 := hid_mk hw1
  have HW2 := hid_mk hw2
  have HB12 := hid_mk hB12
  obtain ⟨pa, pc, epv, _⟩ := hc.ps
  obtain ⟨ca, cc, ecv, _⟩ := hc.cs
  subst epv ecv
  clear hw1 hw2 hB1 hB2 hx1 hx2 hf1 hcl hc hB12 hwt
  unfold Flt.v
  go_enter Try.func4, Try.ntmps4
  go_upto_region 1 with (fail)
  rw [← HW1.out]
  go_wp2_with (go_at_call 13; fail)
  rw [← HW2.out]
  rw [hs1] at hwe
  refine hwe.mono ?_
  rintro e w3 ⟨r, rfl, _, hr, hB3⟩
  have hB0 : Below W.heap.size W w3 := HB12.out.trans (hB3.mono HB12.out.size)
  have hX3 : w3.heap[W.heap.size]? = some (.cells #[.slice pa c.parts.length pc, .slice ca c.combs.length cc] 36 (0, 0)) := (hB3.block _ (Array.getElem?_eq_some_iff.1 HX1.out).1).trans HX1.out
  have hF3 : FAt w3 (W.heap.size + 1) 23 f := HF1.out.keep hB3
  have HB0 := hid_mk hB0
  by_cases h200 : r ≤ 200
  · have hd : decide ((200 : Int) < (r : Int)) = false := decide_eq_false (by omega)
    obtain ⟨hn, hlc, hal⟩ := wt_bounds (c := c) fun d => Nat.le_trans (hr (by omega) d) h200
    have HF : Hid (∀ w', Below w3.heap.size w3 w' → w'.cell? ⟨W.heap.size, 0, none⟩ = some (.slice pa c.parts.length pc) ∧ w'.cell? ⟨W.heap.size, 1, none⟩ = some (.slice ca c.combs.length cc) ∧ w'.cell? ⟨W.heap.size + 1, 0, none⟩ = some (.int .u64 (f.a : Int)) ∧ w'.cell? ⟨W.heap.size + 1, 1, none⟩ = some (.int .u64 (f.b : Int)) ∧ w'.cell? ⟨W.heap.size + 1, 2, none⟩ = some (.int .u64 (f.c : Int)) ∧ w'.cell? ⟨W.heap.size + 1, 3, none⟩ = some (.int .u64 (f.d : Int))) := fun w' hw' => by
      have h1 : w'.heap[W.heap.size]? = _ := (hw'.block _ (Array.getElem?_eq_some_iff.1 hX3).1).trans hX3
      obtain ⟨m0, m1, m2, m3⟩ := (hF3.keep hw').cells.1
      exact ⟨cellAt h1 0, cellAt h1 1, m0, m1, m2, m3⟩
    have HCX : Hid (∀ w', Below w3.heap.size w3 w' → CxAt (ClAt w') w' (.slice pa c.parts.length pc) (.slice ca c.combs.length cc) c bc oc bp op qv bq oq lv) := fun w' hw' => HC.out.keep (hB0.trans (hw'.mono hB0.size))
    have HK15 : Hid (∀ w', Below w3.heap.size w3 w' → Calls Try.prog 15 #[.agg #[.slice pa c.parts.length pc, .slice ca c.combs.length cc]] w' fun e w'' => ∃ a n k, e = .returned (.slice a n k) ∧ RdK w'' (.slice a n k) (putsL (asksL c)) ∧ Below w3.heap.size w3 w'') := fun w' hw' => (needs_any HS (HCX.out w' hw') hn hlc hal).mono fun e w'' ⟨v, h1, h2, h3⟩ => by
      obtain ⟨a, k, h4, h5⟩ := h2
      subst h4
      exact ⟨a, _, k, h1, ⟨a, k, rfl, h5⟩, hw'.trans (h3.mono hw'.size)⟩
    have HK16 : Hid (∀ w', Below w3.heap.size w3 w' → Calls Try.prog 16 #[.agg #[.slice pa c.parts.length pc, .slice ca c.combs.length cc]] w' fun e w'' => ∃ a n k, e = .returned (.slice a n k) ∧ RdK w'' (.slice a n k) (putsL (asksL c)) ∧ Below w3.heap.size w3 w'' ∧ Below w'.heap.size w' w'') := fun w' hw' => (rneeds_any (HCX.out w' hw') hn hlc hal).mono fun e w'' ⟨v, h1, h2, h3⟩ => by
      have h2 := h2.rd
      obtain ⟨a, k, h4, h5⟩ := h2
      subst h4
      exact ⟨a, _, k, h1, ⟨a, k, rfl, h5⟩, hw'.trans (h3.mono hw'.size), h3⟩
    have HK14 : Hid (∀ w' v u, RdK w' v (putsL (asksL c)) → RdK w' u (putsL (asksL c)) → Below w3.heap.size w3 w' → Calls Try.prog 14 #[v, u] w' fun e w'' => e = .returned (.bool true) ∧ Below w3.heap.size w3 w'') := fun w' v u h1 h2 hw' => (rsame_any h1 h2).mono fun e w'' h => ⟨by rw [h.1, decide_eq_true rfl], hw'.trans (h.2.mono hw'.size)⟩
    obtain ⟨z, hz⟩ : ∃ z, z = lackB f (putsL (asksL c)) := ⟨_, rfl⟩
    have HK17 : Hid (∀ w', Below w3.heap.size w3 w' → Calls Try.prog 17 #[.agg #[.int .u64 (f.a : Int), .int .u64 (f.b : Int), .int .u64 (f.c : Int), .int .u64 (f.d : Int)], .agg #[.slice pa c.parts.length pc, .slice ca c.combs.length cc]] w' fun e w'' => e = .returned (.bool z) ∧ Below w3.heap.size w3 w'') := fun w' hw' => (skip_any f hf (HCX.out w' hw') (fun p hp x hx => Nat.le_trans (hn p hp x hx) (by decide)) (by omega)).mono fun e w'' h => ⟨by rw [h.1, skip_same, hz], hw'.trans (h.2.mono hw'.size)⟩
    have HK18 : Hid (∀ w', Below w3.heap.size w3 w' → Calls Try.prog 18 #[.agg #[.int .u64 (f.a : Int), .int .u64 (f.b : Int), .int .u64 (f.c : Int), .int .u64 (f.d : Int)], .agg #[.slice pa c.parts.length pc, .slice ca c.combs.length cc]] w' fun e w'' => e = .returned (.bool z) ∧ Below w3.heap.size w3 w'') := fun w' hw' => (rskip_any f hf (HCX.out w' hw') hn hlc hal).mono fun e w'' h => ⟨by rw [h.1, hz], hw'.trans (h.2.mono hw'.size)⟩
    have HK6 : Hid (∀ w', Below w3.heap.size w3 w' → Calls Try.prog 6 #[] w' fun e w'' => e = .returned (.bool true) ∧ Below w3.heap.size w3 w'') := fun w' hw' => (HLV.out w').mono fun e w'' h => ⟨h.1, hw'.trans (h.2.mono hw'.size)⟩
    have hzz : (z == z) = true := by cases z <;> rfl
    have gd : Below w3.heap.size w3 w3 := Below.refl _ _
    have ge : Below w3.heap.size w3 w3.drew := (Below.refl _ _).drew
    generalize putsL (asksL c) = L at *
    clear hwe hr hB3 hB0 hX3 hF3 HC HCX HX1 HF1 HLV HW1 HW2 HB12 hf hz hn hlc hal c0 c1 HS h200
    go_upto_region 4 with (fail)
    go_region_held3 (fun w' => w'.cell? ⟨W.heap.size, 0, none⟩ = some (.slice pa c.parts.length pc) ∧ w'.cell? ⟨W.heap.size, 1, none⟩ = some (.slice ca c.combs.length cc) ∧ w'.cell? ⟨W.heap.size + 1, 0, none⟩ = some (.int .u64 (f.a : Int)) ∧ w'.cell? ⟨W.heap.size + 1, 1, none⟩ = some (.int .u64 (f.b : Int)) ∧ w'.cell? ⟨W.heap.size + 1, 2, none⟩ = some (.int .u64 (f.c : Int)) ∧ w'.cell? ⟨W.heap.size + 1, 3, none⟩ = some (.int .u64 (f.d : Int)))
      (first | with_reducible exact HF.out _ gd | with_reducible exact HF.out _ ge | with_reducible exact HF.out _ ga | with_reducible exact HF.out _ gb | with_reducible exact HF.out _ gc | with_reducible exact HF.out _ gf | with_reducible exact HF.out _ gg | with_reducible exact HF.out _ gh)
      (first
        | (go_at_call 15; with_reducible refine (HK15.out _ ge).mono ?_; rintro e wa ⟨aa, na, ka, rfl, hra, ga⟩)
        | (go_at_call 16; with_reducible refine (HK16.out _ ga).mono ?_; rintro e wb ⟨ab, nb, kb, rfl, hrb, gb, gb'⟩)
        | (go_at_call 14; with_reducible refine (HK14.out _ _ _ (hra.keep gb') hrb gb).mono ?_; rintro e wc ⟨rfl, gc⟩)
        | (go_at_call 17; with_reducible refine (HK17.out _ gc).mono ?_; rintro e wf ⟨rfl, gf⟩)
        | (go_at_call 18; with_reducible refine (HK18.out _ gf).mono ?_; rintro e wg ⟨rfl, gg⟩)
        | (go_at_call 6; with_reducible refine (HK6.out _ gg).mono ?_; rintro e wh ⟨rfl, gh⟩))
    have HZ := hid_mk (HB0.out.trans (gh.mono HB0.out.size))
    clear gd ge ga gb gb' gc gf gg gh HF HK15 HK16 HK14 HK17 HK18 HK6 hra hrb
    go_wp2
    go_ret
    exact ⟨rfl, HZ.out⟩
  · have hd : decide ((200 : Int) < (r : Int)) = true := decide_eq_true (by omega)
    clear hwe hr hB3 hB0 hX3 hF3 HC HX1 HF1 HW1 HW2 HB12 h200 HS hf c0 c1
    go_wp2_with (go_at_call 6; fail)
    refine (HLV.out w3).mono ?_
    rintro e w4 ⟨rfl, hB4⟩
    go_wp2
    go_ret
    exact ⟨rfl, HB0.out.trans (hB4.mono HB0.out.size)⟩
end Go.Proofs.Ytdiljkmlneeboaa
