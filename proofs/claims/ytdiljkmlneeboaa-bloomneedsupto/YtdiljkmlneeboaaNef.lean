/- Needs of any selector, as soon as slices.Sort of keys sorts: the whole call. -/
import Derived.Test.YtdiljkmlneeboaaNee
namespace Go.Proofs.Ytdiljkmlneeboaa
open Go.RowKit Go.Lib Go.Sort
set_option maxRecDepth 100000

theorem OwnK.holds2 {w : World} {B : Nat} {v : Value} {l : List Nat} (h : OwnK w B v l) : (v = .slice none 0 0 ∧ l = []) ∨ ∃ g cap, v = .slice (some ⟨g, 0, none⟩) l.length cap ∧ B ≤ g ∧ g < w.heap.size ∧ l.length ≤ cap ∧ cap ≤ 9223372036854775807 ∧ Holds (Value.int .u32) w g 0 (intsL l).toArray := by
  have h0 := h
  rcases h.2 with ⟨e, hn⟩ | ⟨g, cap, cur, rfl, hBg, hg, hnc, hcm, _⟩
  · exact .inl ⟨e, List.eq_nil_of_length_eq_zero hn⟩
  · refine .inr ⟨g, cap, rfl, hBg, (Array.getElem?_eq_some_iff.1 hg).1, hnc, hcm, fun j hj => ⟨?_, by simp [World.frozen?, hg]⟩⟩
    have hjl : j < l.length := by simpa [intsL] using hj
    rw [Nat.zero_add, World.ownsRow.cellAt h0 j (by omega)]
    simp [keysV, intsL, hjl]
/-- Sorted and made each once: what is told. -/
theorem holds_rd {w : World} {g cap : Nat} {ys : List Int} {l : List Nat} (q : Nat) (hH : Holds (Value.int .u32) w g 0 ys.toArray) (hg : g < w.heap.size) (hc : compactUpTo ys.toArray ys.toArray.size = intsL (putsL l)) (hle : (intsL (putsL l)).length ≤ ys.length) (hcap : ys.length ≤ cap) (hcm : cap ≤ 9223372036854775807) :
    RdK (putRow (Value.int .u32) (Sort.ahead w q) g 0 (compactUpTo ys.toArray ys.toArray.size ++ List.replicate (ys.toArray.size - (compactUpTo ys.toArray ys.toArray.size).length) 0).toArray) (.slice (some ⟨g, 0, none⟩) (compactUpTo ys.toArray ys.toArray.size).length cap) (putsL l) := by
  rw [hc]
  have hln : (intsL (putsL l)).length = (putsL l).length := by simp [intsL]
  refine ⟨_, cap, by rw [hln], by omega, hcm, fun t ht => ⟨g, 0, rfl, by simpa using hg, ?_⟩⟩
  have hsz : (intsL (putsL l) ++ List.replicate (ys.toArray.size - (intsL (putsL l)).length) 0).toArray.size = ys.toArray.size := by simp; omega
  rw [cell?_putRow (Value.int .u32) (Sort.ahead w q) g 0 ys.toArray _ (holds_ahead _ _ _ _ _ _ hH) hsz t (by rw [hsz]; simp; omega)]
  congr 1
  rw [getElem!_pos _ t (by rw [hsz]; simp; omega)]
  simp [intsL, ht]

set_option maxHeartbeats 1000000 in
theorem gathered_any (HS : SortC) {wB w : World} {pv cv : Value} {c : Cx} {bc oc bp op : Nat} {qv : Nat → Value} {bq oq : Nat → Nat} {lv : Nat → Nat → Value} {bx : Nat}
    (hc : CxAt (ClAt wB) wB pv cv c bc oc bp op qv bq oq lv) (hn : ∀ p ∈ c.parts, ∀ x ∈ p, x.1.nm.size ≤ 5000) (hlc : c.parts.length ≤ 1000000) (hal : (asksL c).length ≤ 1000000)
    (hB : Below wB.heap.size wB w) (hx : w.heap[bx]? = some (.cells #[pv, cv] 36 (0, 0))) :
    Calls Try.prog 22 #[.func (.func 23) #[] #[.pointer (some ⟨bx, 0, none⟩)]] w fun e w' => ∃ v, e = .returned v ∧ RdK w' v (putsL (asksL c)) ∧ Below w.heap.size w w' := by
  obtain ⟨w2, hw2⟩ : ∃ w2, w2 = w.alloc (.cells #[.slice none 0 0] 40) := ⟨_, rfl⟩
  have hB2 : Below w.heap.size w w2 := by rw [hw2]; exact (Below.refl _ _).alloc (Nat.le_refl _) _
  have hs2 : w2.heap.size = w.heap.size + 1 := by rw [hw2]; simp
  have hk2 : w2.heap[w.heap.size]? = some (.cells #[.slice none 0 0] 40 (0, 0)) := by rw [hw2]; exact heap_alloc_last w _
  have hn23 := need23_any (b := w.heap.size) hc hn hlc hal (hB.trans (hB2.mono hB.size)) hB.size ((hB2.block _ (Array.getElem?_eq_some_iff.1 hx).1).trans hx) hk2
  have HW2 := hid_mk hw2
  have HB2 := hid_mk hB2
  have HS2 := hid_mk hs2
  clear hw2 hB2 hs2 hk2 hc hn hB hx
  generalize asksL c = L at *
  go_enter Try.func22, Try.ntmps22
  go_wp2_with (go_at_call 23; fail)
  rw [← HW2.out]
  refine hn23.mono ?_
  rintro e w3 ⟨rfl, ⟨v, hv, ho⟩, hX⟩
  have HB3 : Hid (Below w.heap.size w w3) := HB2.out.trans (hX.below (B := w.heap.size) (Nat.le_refl _) (by rw [HS2.out]; omega))
  have k0 : w3.cell? ⟨w.heap.size, 0, none⟩ = some v := cellAt hv 0
  have HV := hid_mk hv
  clear hn23 hX hv
  rcases ho.holds2 with ⟨rfl, rfl⟩ | ⟨g, cap, rfl, hBg, hgl, hlc2, hcm, hH⟩
  · have HRD : Hid (RdK w3 (.slice none 0 0) (putsL [])) := ⟨none, 0, rfl, Nat.le_refl _, Nat.zero_le _, fun t ht => absurd ht (by simp [putsL])⟩
    have hso := sort_nil w3
    have hco := compact_nil w3
    clear ho HS HV HW2 HS2 HB2
    go_wp2_with (go_at_call 28; fail)
    refine hso.mono ?_
    rintro e w4 ⟨rfl, rfl⟩
    clear hso
    go_wp2_with (go_at_call 29; fail)
    refine hco.mono ?_
    rintro e w5 ⟨rfl, rfl⟩
    clear hco
    go_wp2
    go_ret
    exact ⟨_, rfl, HRD.out, HB3.out⟩
  · have hil : (intsL L).length = L.length := by simp [intsL]
    have hso := HS g cap (intsL L) w3 hH hgl (by omega) (by omega)
    rw [hil] at hso
    clear ho HS hH
    go_wp2_with (go_at_call 28; fail)
    refine hso.mono ?_
    rintro e w4 ⟨rfl, ys, hp, hsd, hH4, hX4⟩
    have hyl : ys.toArray.size = L.length := by rw [List.size_toArray, hp.length_eq, hil]
    have hco := compact_any g 0 cap ys.toArray w4 hH4 (by omega) (by omega)
    have k1 : w4.cell? ⟨w.heap.size, 0, none⟩ = some (.slice (some ⟨g, 0, none⟩) L.length cap) := by
      rw [World.cell?_of_block (hX4.block w.heap.size (Array.getElem?_eq_some_iff.1 HV.out).1 (by rw [HS2.out] at hBg; omega))]
      exact k0
    have HB4 : Hid (Below w.heap.size w w4) := HB3.out.trans (hX4.below (B := w.heap.size) (by rw [HS2.out] at hBg; omega) HB3.out.size)
    have hcp := compact_of hp hsd
    have hle : (intsL (putsL L)).length ≤ ys.length := by
      have := puts_len L
      rw [List.size_toArray] at hyl
      simp [intsL]
      omega
    have HRD : Hid (∀ q, RdK (putRow (Value.int .u32) (Sort.ahead w4 q) g 0 (compactUpTo ys.toArray ys.toArray.size ++ List.replicate (ys.toArray.size - (compactUpTo ys.toArray ys.toArray.size).length) 0).toArray) (.slice (some ⟨g, 0, none⟩) (compactUpTo ys.toArray ys.toArray.size).length cap) (putsL L)) := fun q => holds_rd q hH4 (Nat.lt_of_lt_of_le hgl hX4.size) hcp hle (by rw [List.size_toArray] at hyl; omega) hcm
    have HKP : Hid (∀ q d, Below w.heap.size w (putRow (Value.int .u32) (Sort.ahead w4 q) g 0 d)) := fun q d => HB4.out.trans ((putRow_keep (Value.int .u32) w4 q g 0 d).below (B := w.heap.size) (by rw [HS2.out] at hBg; omega) HB4.out.size)
    rw [hyl] at hco HRD
    generalize compactUpTo ys.toArray L.length = Z at *
    clear hso hp hsd hH4 hX4 k0 hcp hle HV HW2
    go_wp2_with (go_at_call 29; fail)
    refine hco.mono ?_
    rintro e w5 ⟨rfl, q, rfl⟩
    clear hco k1
    go_wp2
    go_ret
    exact ⟨_, rfl, HRD.out q, HKP.out q _⟩

set_option maxHeartbeats 1000000 in
theorem needs_any (HS : SortC) {w : World} {pv cv : Value} {c : Cx} {bc oc bp op : Nat} {qv : Nat → Value} {bq oq : Nat → Nat} {lv : Nat → Nat → Value}
    (hc : CxAt (ClAt w) w pv cv c bc oc bp op qv bq oq lv) (hn : ∀ p ∈ c.parts, ∀ x ∈ p, x.1.nm.size ≤ 5000) (hlc : c.parts.length ≤ 1000000) (hal : (asksL c).length ≤ 1000000) :
    Calls Try.prog 15 #[.agg #[pv, cv]] w fun e w' => ∃ v, e = .returned v ∧ RdK w' v (putsL (asksL c)) ∧ Below w.heap.size w w' := by
  obtain ⟨w1, hw1⟩ : ∃ w1, w1 = w.alloc (.cells #[pv, cv] 36) := ⟨_, rfl⟩
  have hB1 : Below w.heap.size w w1 := by rw [hw1]; exact (Below.refl _ _).alloc (Nat.le_refl _) _
  have hx1 : w1.heap[w.heap.size]? = some (.cells #[pv, cv] 36 (0, 0)) := by rw [hw1]; exact heap_alloc_last w _
  have hg := gathered_any HS hc hn hlc hal hB1 hx1
  obtain ⟨pa, pc, epv, _⟩ := hc.ps
  obtain ⟨ca, cc, ecv, _⟩ := hc.cs
  subst epv ecv
  have HW1 := hid_mk hw1
  have HB1 := hid_mk hB1
  clear hw1 hB1 hx1 hc hn hal HS
  generalize putsL (asksL c) = L at *
  go_enter Try.func15, Try.ntmps15
  go_wp2_with (go_at_call 22; fail)
  rw [← HW1.out]
  refine hg.mono ?_
  rintro e w2 ⟨v, rfl, hr, hB2⟩
  have HH := hid_mk (And.intro hr (HB1.out.trans (hB2.mono HB1.out.size)))
  clear hg hr hB2
  go_wp2
  go_ret
  exact ⟨_, rfl, HH.out⟩
end Go.Proofs.Ytdiljkmlneeboaa
