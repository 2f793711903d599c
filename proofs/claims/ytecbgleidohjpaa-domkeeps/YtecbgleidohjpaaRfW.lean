/- The document's with and without. -/
import Derived.Test.YtecbgleidohjpaaRfD
namespace Go.Proofs.Ytecbgleidohjpaa.N
open Go.RowKit
set_option maxRecDepth 100000

theorem row_one {W : World} {g : Nat} {v : Value} {t : TypeId} (h : W.heap[g]? = some (.cells #[v] t (0, 0))) (h1 : v.oneCell' = true) : RowAt W 1 (some ⟨g, 0, none⟩) 1 1 [v] := by
  refine ⟨rfl, Nat.le_refl _, by decide, fun u hu => ?_, .inr ⟨g, 0, rfl, (Array.getElem?_eq_some_iff.1 h).1, fun j u hu => ?_⟩⟩
  · rw [List.mem_singleton] at hu
    rw [hu]
    exact h1
  · have hj : j < 1 := (List.getElem?_eq_some_iff.1 hu).1
    obtain rfl : j = 0 := by omega
    simp only [List.getElem?_cons_zero] at hu
    simp [World.cell?, h, hu]
theorem intsV_take (a : List Int) (n : Nat) : intsV (a.take n) = (intsV a).take n := by simp [intsV, List.map_take]
theorem intsV_drop (a : List Int) (n : Nat) : intsV (a.drop n) = (intsV a).drop n := by simp [intsV, List.map_drop]

set_option maxHeartbeats 4000000 in
theorem rwithout_any {w : World} {a : Option Addr} {n c : Nat} {ks : List Int} (h : RowAt w 1 a n c (intsV ks)) (hn : n ≤ 200000) (id : Int) : Calls Try.prog 68 #[.slice a n c, .int .i64 id] w fun x w' => ∃ a' c', x = .returned (.slice a' (rmv ks id).length c') ∧ RowAt w' 1 a' (rmv ks id).length c' (intsV (rmv ks id)) ∧ NewAt w.heap.size a' ∧ Below w.heap.size w w' := by
  obtain rfl : n = ks.length := by have := h.1; rw [intsV_len] at this; omega
  have hb1 := h.2.1
  have hm1 := h.2.2.1
  unfold maxLen at hm1
  have HC : Hid (∀ w', Below w.heap.size w w' → ∀ t (ht : t < ks.length), ∃ ab ao, a = some ⟨ab, ao, none⟩ ∧ w'.cell? ⟨ab, ao + t, none⟩ = some (.int .i64 ks[t])) := fun w' hw' t ht => by
    rcases (h.keep hw').2.2.2.2 with ⟨_, h0⟩ | ⟨ab, ao, e1, l1, g1⟩
    · omega
    · exact ⟨ab, ao, e1, g1 t _ (intsV_at ht)⟩
  clear h
  obtain ⟨i3, z3, hi0, hz0, hz1, hz2, rfl⟩ := info3r
  have HI3 := hid_mk hi0
  have HZ0 := hid_mk hz0
  have HZ1 := hid_mk hz1
  have HZ2 := hid_mk hz2
  clear hi0 hz0 hz1 hz2
  go_enter Try.func68, Try.ntmps68
  go_wp2
  go_loopw [5, 10] (fun a5 a10 wq => ∃ t : Nat, t ≤ ks.length ∧ a10 = .int .i64 (t : Int) ∧ Hid (wq.ownsRow w.heap.size 3 1 a5 (rmv (ks.take t) id).length (intsV (rmv (ks.take t) id))) ∧ Hid (Below w.heap.size w wq)) (fun _ a10 _ => ks.length + 1 - (intOf a10).toNat)
  case atStart => exact ⟨0, Nat.zero_le _, rfl, ⟨by simp [rmv, intsV], .inl ⟨rfl, by simp [rmv]⟩⟩, hid_mk (Below.refl _ _)⟩
  case round =>
    obtain ⟨t, ht, rfl, HO, HB⟩ := hrel
    by_cases htl : t < ks.length
    · obtain ⟨ab, ao, rfl, hcl⟩ := HC.out wr HB.out t htl
      have htake : ks.take (t + 1) = ks.take t ++ [ks[t]] := by rw [List.take_add_one, List.getElem?_eq_getElem htl]; rfl
      by_cases hq : ks[t] = id
      · have hb : (ks[t] != id) = false := by simpa using hq
        have HE : Hid (rmv (ks.take (t + 1)) id = rmv (ks.take t) id) := by
          show _ = _
          have e1 : [ks[t]].filter (fun y => y != id) = [] := by simp [hq]
          unfold rmv
          rw [htake, List.filter_append, e1, List.append_nil]
        have HO2 : Hid (wr.ownsRow w.heap.size 3 1 u5 (rmv (ks.take (t + 1)) id).length (intsV (rmv (ks.take (t + 1)) id))) := by rw [HE.out]; exact HO
        generalize ks[t] = kk at *
        clear HC hq htake HO HE
        go_wp2
        exact ⟨⟨t + 1, htl, by go_num, HO2, HB⟩, by simp only [intOf]; omega⟩
      · have hb : (ks[t] != id) = true := by simpa using hq
        have HE : Hid (rmv (ks.take (t + 1)) id = rmv (ks.take t) id ++ [ks[t]]) := by
          show _ = _
          have e1 : [ks[t]].filter (fun y => y != id) = [ks[t]] := by simp [hq]
          unfold rmv
          rw [htake, List.filter_append, e1]
        have hlen : (rmv (ks.take t) id).length ≤ 200000 := by
          have : (rmv (ks.take t) id).length ≤ (ks.take t).length := List.length_filter_le _ _
          rw [List.length_take] at this
          omega
        have hA : Below wr.heap.size wr (wr.alloc (.cells #[.int .i64 ks[t]] 3)) := (Below.refl _ _).alloc (Nat.le_refl _) _
        have hown := ownsRow_below HO.out hA
        have hrow : RowAt (wr.alloc (.cells #[.int .i64 ks[t]] 3)) 1 (some ⟨wr.heap.size, 0, none⟩) 1 1 (intsV [ks[t]]) := row_one (heap_alloc_last wr _) rfl
        have hBs : w.heap.size ≤ (wr.alloc (.cells #[.int .i64 ks[t]] 3)).heap.size := Nat.le_trans HB.out.size hA.size
        have HBA := hid_mk (HB.out.trans (hA.mono HB.out.size))
        have hi0 := HI3.out
        have hz0 := HZ0.out
        have hz1 := HZ1.out
        have hz2 := HZ2.out
        generalize ks[t] = kk at *
        clear HC hq htake HO hA
        go_wp2_with (at_builtin; go_must (refine wpList_append_rowAt rfl _ _ 49 rfl (B := w.heap.size) Try.underlying49 hi0 hz0 hz1 hz2 rfl (by decide) (by decide) rfl rfl hown hrow (by omega) hBs ?_); intro v' w3 hown3 hgrow3 _; have HO3 := hid_mk hown3; have HB3 : Hid (Below w.heap.size w w3) := HBA.out.grown hgrow3 HBA.out.size (fun k hk => (hown.lt k hk).1); clear hown3 hgrow3)
        have HO4 : Hid (w3.ownsRow w.heap.size 3 1 v' (rmv (ks.take (t + 1)) id).length (intsV (rmv (ks.take (t + 1)) id))) := by
          rw [HE.out, List.length_append, intsV_app]
          exact HO3
        exact ⟨⟨t + 1, htl, by go_num, HO4, HB3⟩, by simp only [intOf]; omega⟩
    · obtain rfl : t = ks.length := by omega
      have hO := HO.out
      rw [List.take_length] at hO
      obtain ⟨a', c', rfl, hr, hw⟩ := RowAt.of_owns hO (intsV_one _)
      have HR := hid_mk hr
      have HW := hid_mk hw
      clear HC hO hr hw HO
      go_wp2
      go_ret
      exact ⟨a', c', rfl, HR.out, HW.out, HB.out⟩

theorem ret_sl {a : Option Addr} {n n' c : Nat} (h : n = n') : Ending.returned (.slice a n c) = .returned (.slice a n' c) := by rw [h]
theorem ins_intsV (ks : List Int) (i : Nat) (x : Int) : intsV (ins ks i x) = (intsV ks).take i ++ intsV [x] ++ (intsV ks).drop i := by
  unfold ins
  rw [intsV_app, intsV_app, intsV_take, intsV_drop]
set_option maxHeartbeats 4000000 in
theorem rwith_any {w : World} {a : Option Addr} {n c : Nat} {ks : List Int} (h : RowAt w 1 a n c (intsV ks)) (hn : n ≤ 200000) (i : Nat) (hi : i ≤ n) (id : Int) : Calls Try.prog 65 #[.slice a n c, .int .i64 (i : Int), .int .i64 id] w fun x w' => ∃ a' c', x = .returned (.slice a' (n + 1) c') ∧ RowAt w' 1 a' (n + 1) c' (intsV (ins ks i id)) ∧ NewAt w.heap.size a' ∧ Below w.heap.size w w' := by
  have hb1 := h.2.1
  have hm1 := h.2.2.1
  unfold maxLen at hm1
  have HH := hid_mk h
  clear h
  obtain ⟨i3, z3, hi0, hz0, hz1, hz2, rfl⟩ := info3r
  have hBa : Below w.heap.size w (w.alloc (.cells #[] 3)) := (Below.refl _ _).alloc (Nat.le_refl _) _
  have hown := own_empty w 3 1
  have hrow := (HH.out.take i hi).keep hBa
  have hBs : w.heap.size ≤ (w.alloc (.cells #[] 3)).heap.size := hBa.size
  have HBa := hid_mk hBa
  clear hBa
  go_enter Try.func65, Try.ntmps65
  go_upto_region 2 with (at_builtin; go_must (refine wpList_append_rowAt rfl _ _ 49 rfl (B := w.heap.size) Try.underlying49 hi0 hz0 hz1 hz2 rfl (by decide) (by decide) rfl rfl hown hrow (by omega) hBs ?_); intro v1 w1 hown1 hgrow1 _; rw [Nat.zero_add, List.nil_append, Nat.mul_one] at hown1; have HO1 := hid_mk hown1; have HB1 : Hid (Below w.heap.size w w1) := HBa.out.grown hgrow1 HBa.out.size (fun k hk => (hown.lt k hk).1); clear hown1 hgrow1)
  clear hown hrow hBs HBa
  have hA : Below w1.heap.size w1 (w1.alloc (.cells #[.int .i64 id] 3)) := (Below.refl _ _).alloc (Nat.le_refl _) _
  have hown := ownsRow_below HO1.out hA
  have hrow : RowAt (w1.alloc (.cells #[.int .i64 id] 3)) 1 (some ⟨w1.heap.size, 0, none⟩) 1 1 (intsV [id]) := row_one (heap_alloc_last w1 _) rfl
  have hBs : w.heap.size ≤ (w1.alloc (.cells #[.int .i64 id] 3)).heap.size := Nat.le_trans HB1.out.size hA.size
  have HBA := hid_mk (HB1.out.trans (hA.mono HB1.out.size))
  clear hA HO1
  go_upto_region 3 with (at_builtin; go_must (refine wpList_append_rowAt rfl _ _ 49 rfl (B := w.heap.size) Try.underlying49 hi0 hz0 hz1 hz2 rfl (by decide) (by decide) rfl rfl hown hrow (by omega) hBs ?_); intro v2 w2 hown2 hgrow2 _; have HO2 := hid_mk hown2; have HB2 : Hid (Below w.heap.size w w2) := HBA.out.grown hgrow2 HBA.out.size (fun k hk => (hown.lt k hk).1); clear hown2 hgrow2)
  clear hown hrow hBs HBA
  have hown := HO2.out
  have hBs : w.heap.size ≤ w2.heap.size := HB2.out.size
  rcases HH.out.2.2.2.2 with ⟨ha, hc0⟩ | ⟨ab, ao, ha, hal, _⟩
  · subst ha
    obtain rfl : n = 0 := by omega
    obtain rfl : i = 0 := by omega
    have hk0 : ks = [] := by
      have := HH.out.1
      rw [intsV_len] at this
      exact List.length_eq_zero_iff.1 (by omega)
    subst hk0
    subst hc0
    have hrow : RowAt w2 1 none 0 0 [] := RowAt.nil w2 1
    go_wp2_with (at_builtin; go_must (refine wpList_append_rowAt rfl _ _ 49 rfl (B := w.heap.size) Try.underlying49 hi0 hz0 hz1 hz2 rfl (by decide) (by decide) rfl rfl hown hrow (by omega) hBs ?_); intro v3 w3 hown3 hgrow3 _; obtain ⟨a', c', rfl, hr, hw⟩ := RowAt.of_owns hown3 (by simpa [intsV] using intsV_one [id]); have HR := hid_mk hr; have HW := hid_mk hw; have HB3 : Hid (Below w.heap.size w w3) := HB2.out.grown hgrow3 HB2.out.size (fun k hk => (hown.lt k hk).1); clear hown3 hgrow3 hr hw)
    go_ret
    exact ⟨a', c', rfl, by simpa [ins, intsV] using HR.out, HW.out, HB3.out⟩
  · subst ha
    have hrow0 := (HH.out.drop i hi).keep HB2.out
    rw [Nat.mul_one] at hrow0
    have hrow : RowAt w2 1 (if c = i then some ⟨ab, ao, none⟩ else some ⟨ab, ao + i, none⟩) (n - i) (c - i) ((intsV ks).drop i) := by
      split
      · next e =>
        refine ⟨hrow0.1, hrow0.2.1, hrow0.2.2.1, hrow0.2.2.2.1, .inr ⟨ab, ao, rfl, Nat.lt_of_lt_of_le hal HB2.out.size, fun j u hu => ?_⟩⟩
        have h1 := (List.getElem?_eq_some_iff.1 hu).1
        have h2 := hrow0.1
        omega
      · exact hrow0
    clear hrow0
    have H1 : Hid (∀ u ∈ (intsV ks).take i ++ intsV [id] ++ (intsV ks).drop i, u.oneCell' = true) := by rw [← ins_intsV]; exact intsV_one _
    go_wp2_with (at_builtin; go_must (refine wpList_append_rowAt rfl _ _ 49 rfl (B := w.heap.size) Try.underlying49 hi0 hz0 hz1 hz2 rfl (by decide) (by decide) rfl rfl hown hrow (by omega) hBs ?_); intro v3 w3 hown3 hgrow3 _; obtain ⟨a', c', rfl, hr, hw⟩ := RowAt.of_owns hown3 H1.out; have HR := hid_mk hr; have HW := hid_mk hw; have HB3 : Hid (Below w.heap.size w w3) := HB2.out.grown hgrow3 HB2.out.size (fun k hk => (hown.lt k hk).1); clear hown3 hgrow3 hr hw)
    all_goals
      have e1 : i + 1 + (n - i) = n + 1 := by omega
      have HR2 : Hid (RowAt w3 1 a' (n + 1) c' (intsV (ins ks i id))) := by
        have := HR.out
        rw [e1] at this
        rw [Hid, ins_intsV]
        exact this
      go_ret
      exact ⟨a', c', ret_sl e1, HR2.out, HW.out, HB3.out⟩

end Go.Proofs.Ytecbgleidohjpaa.N
