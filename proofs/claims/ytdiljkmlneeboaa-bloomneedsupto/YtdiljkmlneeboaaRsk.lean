/- Which keys are among those put in; the document's Skip. -/
import Derived.Test.YtdiljkmlneeboaaRne
namespace Go.Proofs.Ytdiljkmlneeboaa
open Go.RowKit
set_option maxRecDepth 100000

theorem stepP_mem (k : Nat) (s : List Nat × Bool) (x y : Nat) : y ∈ (stepP k s x).1 ↔ y ∈ s.1 ∨ (y = x ∧ x ≠ k) ∨ (y = k ∧ s.2 = false ∧ (stepP k s x).2 = true) := by
  obtain ⟨o, d⟩ := s
  unfold stepP
  dsimp only
  by_cases h1 : k ≤ x ∧ d = false
  · rw [if_pos h1, if_pos h1]
    by_cases h2 : x = k
    · rw [if_pos h2, List.mem_append, List.mem_singleton]
      simp [h2, h1.2]
    · rw [if_neg h2, List.mem_append, List.mem_append, List.mem_singleton, List.mem_singleton]
      simp only [h1.2, h2, ne_eq, not_false_eq_true, and_true]
      constructor
      · rintro ((h | h) | h)
        · exact .inl h
        · exact .inr (.inr h)
        · exact .inr (.inl h)
      · rintro (h | h | h)
        · exact .inl (.inl h)
        · exact .inr h
        · exact .inl (.inr h)
  · rw [if_neg h1, if_neg h1]
    by_cases h2 : x = k
    · rw [if_pos h2]
      cases d <;> simp [h2]
    · rw [if_neg h2, List.mem_append, List.mem_singleton]
      cases d <;> simp [h2]
theorem stepP_more (k : Nat) (s : List Nat × Bool) (x : Nat) (h : s.2 = true) : (stepP k s x).2 = true := by
  unfold stepP
  dsimp only
  split
  · rfl
  · exact h
theorem foldP_more (k : Nat) : ∀ (l : List Nat) (s : List Nat × Bool), s.2 = true → (l.foldl (stepP k) s).2 = true
  | [], _, h => h
  | x :: l, s, h => foldP_more k l _ (stepP_more k s x h)
theorem foldP_mem (k : Nat) : ∀ (l : List Nat) (s : List Nat × Bool) (y : Nat), y ∈ (l.foldl (stepP k) s).1 ↔ y ∈ s.1 ∨ (y ∈ l ∧ y ≠ k) ∨ (y = k ∧ s.2 = false ∧ (l.foldl (stepP k) s).2 = true)
  | [], s, y => by
    rw [List.foldl_nil]
    constructor
    · exact .inl
    · rintro (h | h | ⟨_, h, h2⟩)
      · exact h
      · exact absurd h.1 (by simp)
      · rw [h] at h2; cases h2
  | x :: l, s, y => by
    rw [List.foldl_cons, foldP_mem k l, stepP_mem, List.mem_cons]
    constructor
    · rintro ((h | ⟨h, h2⟩ | ⟨h, h2, h3⟩) | h | ⟨h, h2, h3⟩)
      · exact .inl h
      · exact .inr (.inl ⟨.inl h, by rw [h]; exact h2⟩)
      · exact .inr (.inr ⟨h, h2, foldP_more k l _ h3⟩)
      · exact .inr (.inl ⟨.inr h.1, h.2⟩)
      · refine .inr (.inr ⟨h, ?_, h3⟩)
        cases hs : s.2 with
        | false => rfl
        | true => rw [stepP_more k s x hs] at h2; cases h2
    · rintro (h | ⟨h | h, h2⟩ | ⟨h, h2, h3⟩)
      · exact .inl (.inl h)
      · exact .inl (.inr (.inl ⟨h, by rw [← h]; exact h2⟩))
      · exact .inr (.inl ⟨h, h2⟩)
      · cases hs : (stepP k s x).2 with
        | false => exact .inr (.inr ⟨h, rfl, h3⟩)
        | true => exact .inl (.inr (.inr ⟨h, h2, rfl⟩))
/-- Who is among them. -/
theorem putL_mem (l : List Nat) (k y : Nat) : y ∈ putL l k ↔ y = k ∨ y ∈ l := by
  have h := foldP_mem k l ([], false) y
  unfold putL
  have e : putS k l = l.foldl (stepP k) ([], false) := rfl
  rw [← e] at h
  split
  · rename_i h1
    rw [h, h1]
    simp only [List.not_mem_nil, false_or, and_true]
    by_cases hy : y = k <;> simp [hy]
  · rename_i h1
    rw [List.mem_append, h, List.mem_singleton]
    by_cases hy : y = k <;> simp [hy, h1]
theorem puts_mem' : ∀ (l m : List Nat) (y : Nat), y ∈ l.foldl putL m ↔ y ∈ m ∨ y ∈ l
  | [], m, y => by simp
  | k :: l, m, y => by
    rw [List.foldl_cons, puts_mem' l, putL_mem, List.mem_cons]
    constructor
    · rintro ((h | h) | h)
      · exact .inr (.inl h)
      · exact .inl h
      · exact .inr (.inr h)
    · rintro (h | h | h)
      · exact .inl (.inr h)
      · exact .inl (.inl h)
      · exact .inr h
theorem puts_mem (l : List Nat) (y : Nat) : y ∈ putsL l ↔ y ∈ l := by
  unfold putsL
  rw [puts_mem']
  simp
/-- They rise. -/
theorem foldP_rise (k : Nat) : ∀ (l : List Nat) (s : List Nat × Bool), l.Pairwise (· < ·) → s.1.Pairwise (· < ·) → (∀ a ∈ s.1, ∀ x ∈ l, a < x ∨ (a = k ∧ x = k)) → (s.2 = true → ∀ x ∈ l, k ≤ x) → (s.2 = false → ∀ a ∈ s.1, a < k) →
    (l.foldl (stepP k) s).1.Pairwise (· < ·) ∧ ((l.foldl (stepP k) s).2 = false → ∀ a ∈ (l.foldl (stepP k) s).1, a < k)
  | [], s, _, h2, _, _, h5 => ⟨h2, h5⟩
  | x :: l, s, h1, h2, h3, h4, h5 => by
    rw [List.foldl_cons]
    have h1' := List.pairwise_cons.1 h1
    obtain ⟨o, d⟩ := s
    dsimp only at h2 h3 h4 h5
    have ho : ∀ a ∈ o, x ≠ k → a < x := fun a ha hx => (h3 a ha x (by simp)).elim id fun h => absurd h.2 hx
    have hcase : stepP k (o, d) x = (if x = k then (if k ≤ x ∧ d = false then o ++ [k] else o) else (if k ≤ x ∧ d = false then o ++ [k] else o) ++ [x], if k ≤ x ∧ d = false then true else d) := rfl
    by_cases c1 : k ≤ x ∧ d = false
    · rw [if_pos c1, if_pos c1] at hcase
      have hok : (o ++ [k]).Pairwise (· < ·) := by
        rw [List.pairwise_append]
        exact ⟨h2, by simp, fun a ha b hb => by rw [List.mem_singleton.1 hb]; exact h5 c1.2 a ha⟩
      by_cases c2 : x = k
      · rw [if_pos c2] at hcase
        rw [hcase]
        refine foldP_rise k l _ h1'.2 hok (fun a ha y hy => .inl ?_) (fun _ y hy => ?_) (fun h => by cases h)
        · have := h1'.1 y hy
          rcases List.mem_append.1 ha with ha | ha
          · have := h5 c1.2 a ha; omega
          · have := List.mem_singleton.1 ha; omega
        · have := h1'.1 y hy; omega
      · rw [if_neg c2] at hcase
        rw [hcase]
        have hall : (o ++ [k] ++ [x]).Pairwise (· < ·) := by
          rw [List.pairwise_append]
          refine ⟨hok, by simp, fun a ha b hb => ?_⟩
          rw [List.mem_singleton.1 hb]
          rcases List.mem_append.1 ha with ha | ha
          · exact ho a ha c2
          · have := List.mem_singleton.1 ha; omega
        refine foldP_rise k l _ h1'.2 hall (fun a ha y hy => .inl ?_) (fun _ y hy => ?_) (fun h => by cases h)
        · have hxy := h1'.1 y hy
          rcases List.mem_append.1 ha with ha | ha
          · rcases List.mem_append.1 ha with ha | ha
            · have := ho a ha c2; omega
            · have := List.mem_singleton.1 ha; omega
          · have := List.mem_singleton.1 ha; omega
        · have := h1'.1 y hy; omega
    · rw [if_neg c1, if_neg c1] at hcase
      by_cases c2 : x = k
      · rw [if_pos c2] at hcase
        rw [hcase]
        have hd : d = true := by
          cases d with
          | true => rfl
          | false => exact absurd ⟨by omega, rfl⟩ c1
        refine foldP_rise k l _ h1'.2 h2 (fun a ha y hy => ?_) (fun _ y hy => ?_) (fun h => by dsimp only at h; rw [hd] at h; cases h)
        · have hxy := h1'.1 y hy
          rcases h3 a ha x (by simp) with h | h
          · exact .inl (by omega)
          · exact .inl (by omega)
        · have := h1'.1 y hy; omega
      · rw [if_neg c2] at hcase
        rw [hcase]
        have hall : (o ++ [x]).Pairwise (· < ·) := by
          rw [List.pairwise_append]
          exact ⟨h2, by simp, fun a ha b hb => by rw [List.mem_singleton.1 hb]; exact ho a ha c2⟩
        refine foldP_rise k l _ h1'.2 hall (fun a ha y hy => .inl ?_) (fun hd y hy => h4 hd y (by simp [hy])) (fun hd a ha => ?_)
        · have hxy := h1'.1 y hy
          rcases List.mem_append.1 ha with ha | ha
          · have := ho a ha c2; omega
          · have := List.mem_singleton.1 ha; omega
        · dsimp only at hd
          have : ¬ k ≤ x := fun h => c1 ⟨h, hd⟩
          rcases List.mem_append.1 ha with ha | ha
          · exact h5 hd a ha
          · have := List.mem_singleton.1 ha; omega
theorem putL_rise (l : List Nat) (k : Nat) (h : l.Pairwise (· < ·)) : (putL l k).Pairwise (· < ·) := by
  have h1 := foldP_rise k l ([], false) h .nil (by simp) (by simp) (by simp)
  unfold putL
  have e : putS k l = l.foldl (stepP k) ([], false) := rfl
  rw [← e] at h1
  split
  · exact h1.1
  · rename_i h2
    rw [List.pairwise_append]
    exact ⟨h1.1, by simp, fun a ha b hb => by rw [List.mem_singleton.1 hb]; exact h1.2 (by simpa using h2) a ha⟩
theorem puts_rise' : ∀ (l m : List Nat), m.Pairwise (· < ·) → (l.foldl putL m).Pairwise (· < ·)
  | [], _, h => h
  | k :: l, m, h => puts_rise' l _ (putL_rise m k h)
theorem puts_rise (l : List Nat) : (putsL l).Pairwise (· < ·) := puts_rise' l [] .nil
/-- Two that rise and have the same ones are the same. -/
theorem rise_ext : ∀ {l m : List Nat}, l.Pairwise (· < ·) → m.Pairwise (· < ·) → (∀ y, y ∈ l ↔ y ∈ m) → l = m
  | [], [], _, _, _ => rfl
  | [], b :: m, _, _, h => absurd ((h b).2 (by simp)) (by simp)
  | a :: l, [], _, _, h => absurd ((h a).1 (by simp)) (by simp)
  | a :: l, b :: m, h1, h2, h => by
    have h1' := List.pairwise_cons.1 h1
    have h2' := List.pairwise_cons.1 h2
    have hab : a = b := by
      have ha := (h a).1 (by simp)
      have hb := (h b).2 (by simp)
      rcases List.mem_cons.1 ha with e | ha
      · exact e
      · rcases List.mem_cons.1 hb with e | hb
        · exact e.symm
        · have := h2'.1 a ha
          have := h1'.1 b hb
          omega
    subst hab
    congr 1
    refine rise_ext h1'.2 h2'.2 fun y => ⟨fun hy => ?_, fun hy => ?_⟩
    · rcases List.mem_cons.1 ((h y).1 (by simp [hy])) with e | h3
      · have := h1'.1 y hy; omega
      · exact h3
    · rcases List.mem_cons.1 ((h y).2 (by simp [hy])) with e | h3
      · have := h2'.1 y hy; omega
      · exact h3
/-- Whether one of them lacks. -/
def lackB (f : Flt) (l : List Nat) : Bool := l.any fun k => !(f.add k).eqb f
theorem lack_take {f : Flt} {l : List Nat} {t : Nat} (h : t < l.length) : lackB f (l.take (t + 1)) = (lackB f (l.take t) || !(f.add l[t]).eqb f) := by
  unfold lackB
  rw [List.take_add_one, List.getElem?_eq_getElem h, Option.toList_some, List.any_append]
  simp
theorem lack_at {f : Flt} {l : List Nat} {t : Nat} (h : t < l.length) (hk : (f.add l[t]).eqb f = false) : lackB f l = true := by
  unfold lackB
  rw [List.any_eq_true]
  exact ⟨l[t], List.getElem_mem h, by rw [hk]; rfl⟩
theorem asks_lt {c : Cx} {k : Nat} (h : k ∈ asksL c) : k < 4294967296 := by
  unfold asksL at h
  split at h
  · obtain ⟨i, _, h2⟩ := List.mem_flatMap.1 h
    unfold asksI at h2
    split at h2
    · unfold keysP at h2
      obtain ⟨x, _, rfl⟩ := List.mem_map.1 h2
      exact keyAt_lt (by decide) _ _
    · exact absurd h2 (by simp)
  · exact absurd h (by simp)

set_option maxHeartbeats 2000000 in
theorem rskip_any {w : World} (f : Flt) (hf : f.ok) {pv cv : Value} {c : Cx} {bc oc bp op : Nat} {qv : Nat → Value} {bq oq : Nat → Nat} {lv : Nat → Nat → Value}
    (hc : CxAt (ClAt w) w pv cv c bc oc bp op qv bq oq lv) (hn : ∀ p ∈ c.parts, ∀ x ∈ p, x.1.nm.size ≤ 5000) (hlc : c.parts.length ≤ 1000000) (hal : (asksL c).length ≤ 1000000) :
    Calls Try.prog 18 #[f.v, .agg #[pv, cv]] w fun e w' => e = .returned (.bool (lackB f (putsL (asksL c)))) ∧ Below w.heap.size w w' := by
  have HLT : Hid (∀ k ∈ putsL (asksL c), k < 4294967296) := fun k hk => asks_lt ((puts_mem _ _).1 hk)
  have hlen : (putsL (asksL c)).length ≤ 1000000 := Nat.le_trans (puts_len _) hal
  have HND : Hid (∀ W, Below w.heap.size w W → Calls Try.prog 16 #[.agg #[pv, cv]] W fun e w' => ∃ v', e = .returned v' ∧ OwnK w' W.heap.size v' (putsL (asksL c)) ∧ Below W.heap.size W w') := fun W hW => rneeds_any (hc.keep hW) hn hlc hal
  obtain ⟨pa, pc, epv, _⟩ := hc.ps
  obtain ⟨ca, cc, ecv, _⟩ := hc.cs
  clear hc hn hal
  generalize putsL (asksL c) = L at *
  obtain ⟨w1, hw1⟩ : ∃ w1, w1 = (w.alloc (.cells #[.int .u64 (f.a : Int), .int .u64 (f.b : Int), .int .u64 (f.c : Int), .int .u64 (f.d : Int)] 23)).alloc (.cells #[pv, cv] 36) := ⟨_, rfl⟩
  have hB1 : Below w.heap.size w w1 := by rw [hw1]; exact ((Below.refl _ _).alloc (Nat.le_refl _) _).alloc (by simp) _
  have hf0 : FAt w1 w.heap.size 23 f := by
    rw [hw1]
    unfold FAt
    rw [Below.heap_alloc _ _ _ (by simp)]
    exact heap_alloc_last w _
  have hnd := HND.out w1 hB1
  have HW1 := hid_mk hw1
  have HB1 := hid_mk hB1
  have HF0 := hid_mk hf0
  have HRH : Hid (∀ k, k < 4294967296 → ∀ W, _) := fun k hk W => rhas_any f hf k hk W
  subst epv ecv
  clear hw1 hB1 hf0 HND
  unfold Flt.v at HRH ⊢
  go_enter Try.func18, Try.ntmps18
  go_wp2_with (go_at_call 16; fail)
  rw [← HW1.out]
  refine hnd.mono ?_
  rintro e w2 ⟨v2, rfl, hO2, hB2⟩
  have HF2 : Hid (FAt w2 w.heap.size 23 f) := HF0.out.keep hB2
  have HB2 : Hid (Below w.heap.size w w2) := HB1.out.trans (hB2.mono HB1.out.size)
  have HCL : Hid (∀ W, Below w2.heap.size w2 W → ∀ t (ht : t < L.length), ∃ g, (∃ a c, v2 = .slice a L.length c ∧ a = some ⟨g, 0, none⟩) ∧ W.cell? ⟨g, t, none⟩ = some (.int .u32 ((L[t]'ht : Nat) : Int))) := fun W hW t ht => by
    obtain ⟨a, c, e, _, _, hc⟩ := (hO2.keep hW).at
    obtain ⟨g, e2, _, hcell⟩ := hc t ht
    exact ⟨g, ⟨a, c, e, e2⟩, hcell⟩
  obtain ⟨a, c2, rfl, hlc2, hcm2, _⟩ := hO2.at
  have HBZ := hid_mk (Below.refl w2.heap.size w2)
  clear hnd hO2 hB2 HF0 HB1 HW1
  go_wp2
  go_loopw [10] (fun a10 wq => ∃ t : Nat, t ≤ L.length ∧ a10 = .int .i64 (t : Int) ∧ Hid (lackB f (L.take t) = false) ∧ Hid (Below w2.heap.size w2 wq)) (fun a10 _ => L.length + 1 - (intOf a10).toNat)
  case atStart => exact ⟨0, Nat.zero_le _, rfl, rfl, HBZ⟩
  case round =>
    obtain ⟨t, ht, rfl, HLK, HBt⟩ := hrel
    clear HBZ
    by_cases htl : t < L.length
    · obtain ⟨g, ⟨_, _, e1, e2⟩, q1⟩ := HCL.out wr HBt.out t htl
      cases e1
      subst e2
      have hrh := HRH.out L[t] (HLT.out _ (List.getElem_mem htl)) wr
      have HS := hid_mk (lack_take (f := f) htl)
      have HA : Hid ((f.add L[t]).eqb f = false → lackB f L = true) := lack_at htl
      obtain ⟨⟨k0, k1, k2, k3⟩, _⟩ := (HF2.out.keep HBt.out).cells
      clear HCL HRH HLT
      generalize (f.add L[t]).eqb f = z at *
      generalize L[t] = x at *
      go_wp2_with (go_at_call 12; fail)
      refine hrh.mono ?_
      rintro e w3 ⟨rfl, hB3⟩
      have HB3 : Hid (Below w2.heap.size w2 w3) := HBt.out.trans (hB3.mono HBt.out.size)
      clear hrh hB3 k0 k1 k2 k3 q1
      cases z with
      | true =>
        have HZ : Hid (lackB f (L.take (t + 1)) = false) := by rw [Hid, HS.out, HLK.out]; rfl
        clear HS HA HLK
        go_wp2
        exact ⟨⟨t + 1, htl, by go_num, HZ, HB3⟩, by simp only [intOf]; omega⟩
      | false =>
        have HZ := hid_mk (HA.out rfl)
        clear HS HA HLK
        go_wp2
        go_ret
        exact ⟨by rw [HZ.out]; rfl, HB2.out.trans (HB3.out.mono HB2.out.size)⟩
    · obtain rfl : t = L.length := by omega
      rw [List.take_length] at HLK
      clear HCL HRH HLT
      go_wp2
      go_ret
      exact ⟨by rw [HLK.out]; rfl, HB2.out.trans (HBt.out.mono HB2.out.size)⟩
end Go.Proofs.Ytdiljkmlneeboaa
