/- dom.spliced. -/
import Derived.Test.YtdiljkmlneeboaaGreatCatN
namespace Go.Proofs.YtdiljkmlneeboaaGreat.N
open Go.RowKit
set_option maxRecDepth 100000

theorem cat3I {w W : World} {a1 a2 a3 : Option Addr} {n1 n2 n3 c1 c2 c3 : Nat} {x1 x2 x3 : List Value} (hW : Below w.heap.size w W) (hb : W.heap[w.heap.size]? = some (.cells #[.slice a1 n1 c1, .slice a2 n2 c2, .slice a3 n3 c3] 43 (0, 0)))
    (r1 : RowAt w 1 a1 n1 c1 x1) (r2 : RowAt w 1 a2 n2 c2 x2) (r3 : RowAt w 1 a3 n3 c3 x3) (h1 : n1 ≤ 300000) (h2 : n2 ≤ 300000) (h3 : n3 ≤ 300000) :
    Calls Tryz.prog 121 #[.slice (some ⟨w.heap.size, 0, none⟩) 3 3] W fun e w' => ∃ a' c', e = .returned (.slice a' (n1 + n2 + n3) c') ∧ RowAt w' 1 a' (n1 + n2 + n3) c' (x1 ++ x2 ++ x3) ∧ NewAt w.heap.size a' ∧ Below w.heap.size w w' := by
  have h := catI (w := W) (b := w.heap.size) (p := fun k => if k = 0 then a1 else if k = 1 then a2 else a3) (n := fun k => if k = 0 then n1 else if k = 1 then n2 else n3) (c := fun k => if k = 0 then c1 else if k = 1 then c2 else c3) (x := fun k => if k = 0 then x1 else if k = 1 then x2 else x3) (Array.getElem?_eq_some_iff.1 hb).1 (fun k hk => by
      have : k = 0 ∨ k = 1 ∨ k = 2 := by omega
      rcases this with rfl | rfl | rfl <;> simp [World.cell?, hb]) (fun k hk => by
      have : k = 0 ∨ k = 1 ∨ k = 2 := by omega
      rcases this with rfl | rfl | rfl
      · exact r1.keep hW
      · exact r2.keep hW
      · exact r3.keep hW) (fun k hk => by
      have : k = 0 ∨ k = 1 ∨ k = 2 := by omega
      rcases this with rfl | rfl | rfl <;> simp <;> assumption)
  refine h.mono ?_
  rintro e w' ⟨a', c', rfl, hr, hnw, hB⟩
  have e1 : sumN (fun k => if k = 0 then n1 else if k = 1 then n2 else n3) 3 = n1 + n2 + n3 := by simp [sumN]
  have e2 : catN (fun k => if k = 0 then x1 else if k = 1 then x2 else x3) 3 = x1 ++ x2 ++ x3 := by simp [catN]
  rw [e1, e2] at hr
  exact ⟨a', c', by rw [e1], hr, hnw.mono hW.size, hW.trans (hB.mono hW.size)⟩
set_option maxHeartbeats 400000 in
theorem splI_some {w : World} {b off : Nat} {ua : Option Addr} {n c m uc f t : Nat} {xs ys : List Value} (h : RowAt w 1 (some ⟨b, off, none⟩) n c xs) (h2 : RowAt w 1 ua m uc ys) (hf : f ≤ n) (ht : t ≤ n) (hn : n ≤ 300000) (hm : m ≤ 300000) (hct : ¬ c = t) :
    Calls Tryz.prog 88 #[.slice (some ⟨b, off, none⟩) n c, .int .i64 f, .int .i64 t, .slice ua m uc] w fun e w' => ∃ a' c', e = .returned (.slice a' (f + m + (n - t)) c') ∧ RowAt w' 1 a' (f + m + (n - t)) c' (xs.take (f * 1) ++ ys ++ xs.drop (t * 1)) ∧ NewAt w.heap.size a' ∧ Below w.heap.size w w' := by
  have hnc := h.2.1
  have hcm := h.2.2.1
  unfold maxLen at hcm
  have h0 : ¬ ((f : Int) < 0) := by omega
  have h1 : ¬ ((c : Int) < f) := by omega
  have h3 : ¬ ((t : Int) < 0) := by omega
  have h4 : ¬ ((n : Int) < t) := by omega
  have r1 := h.take f hf
  have r3 : RowAt w 1 (some ⟨b, off + t, none⟩) (n - t) (c - t) (xs.drop (t * 1)) := by simpa only [Nat.mul_one] using h.drop t ht
  have HC : Hid (∀ W, Below w.heap.size w W → W.heap[w.heap.size]? = some (.cells #[.slice (some ⟨b, off, none⟩) f c, .slice ua m uc, .slice (some ⟨b, off + t, none⟩) (n - t) (c - t)] 43 (0, 0)) → Calls Tryz.prog 121 #[.slice (some ⟨w.heap.size, 0, none⟩) 3 3] W fun e w' => ∃ a' c', e = .returned (.slice a' (f + m + (n - t)) c') ∧ RowAt w' 1 a' (f + m + (n - t)) c' (xs.take (f * 1) ++ ys ++ xs.drop (t * 1)) ∧ NewAt w.heap.size a' ∧ Below w.heap.size w w') :=
    fun W hW hb => cat3I hW hb r1 h2 r3 (by omega) hm (by omega)
  have HL : Hid (∀ o, Below w.heap.size w (w.alloc o).drew) := fun o => ((Below.refl _ w).alloc (Nat.le_refl _) o).drew
  clear r1 r3 h h2
  go_enter Tryz.func88, Tryz.ntmps88
  go_wp2_with (fail)
  go_region_with (go_at_call 121; refine (HC.out _ (HL.out _) (by exact heap_alloc_last w _)).mono ?_; rintro e w2 ⟨a', c', rfl, q1, q0, q2⟩; have HQ1 := hid_mk q1; have HQ0 := hid_mk q0; have HQ2 := hid_mk q2; clear q1 q0 q2)
  go_wp2
  go_ret
  exact ⟨_, _, rfl, HQ1.out, HQ0.out, HQ2.out⟩
set_option maxHeartbeats 400000 in
theorem splI_full {w : World} {b off : Nat} {ua : Option Addr} {m uc f t : Nat} {xs ys : List Value} (h : RowAt w 1 (some ⟨b, off, none⟩) t t xs) (h2 : RowAt w 1 ua m uc ys) (hf : f ≤ t) (hn : t ≤ 300000) (hm : m ≤ 300000) :
    Calls Tryz.prog 88 #[.slice (some ⟨b, off, none⟩) t t, .int .i64 f, .int .i64 t, .slice ua m uc] w fun e w' => ∃ a' c', e = .returned (.slice a' (f + m + 0) c') ∧ RowAt w' 1 a' (f + m + 0) c' (xs.take (f * 1) ++ ys ++ []) ∧ NewAt w.heap.size a' ∧ Below w.heap.size w w' := by
  have hnc := h.2.1
  have h0 : ¬ ((f : Int) < 0) := by omega
  have h1 : ¬ ((t : Int) < f) := by omega
  have h3 : ¬ ((t : Int) < 0) := by omega
  have r1 := h.take f hf
  have r3 : RowAt w 1 (some ⟨b, off, none⟩) 0 0 [] := by
    obtain ⟨_, _, _, _, h5⟩ := h
    refine ⟨by simp, Nat.le_refl _, Nat.zero_le _, (fun _ hu => (List.not_mem_nil hu).elim), ?_⟩
    rcases h5 with ⟨h, _⟩ | ⟨b', off', e, hl, hc⟩
    · cases h
    · exact .inr ⟨b', off', e, hl, fun j u hu => by simp at hu⟩
  have HC : Hid (∀ W, Below w.heap.size w W → W.heap[w.heap.size]? = some (.cells #[.slice (some ⟨b, off, none⟩) f t, .slice ua m uc, .slice (some ⟨b, off, none⟩) 0 0] 43 (0, 0)) → Calls Tryz.prog 121 #[.slice (some ⟨w.heap.size, 0, none⟩) 3 3] W fun e w' => ∃ a' c', e = .returned (.slice a' (f + m + 0) c') ∧ RowAt w' 1 a' (f + m + 0) c' (xs.take (f * 1) ++ ys ++ []) ∧ NewAt w.heap.size a' ∧ Below w.heap.size w w') :=
    fun W hW hb => cat3I hW hb r1 h2 r3 (by omega) hm (by omega)
  have HL : Hid (∀ o, Below w.heap.size w (w.alloc o).drew) := fun o => ((Below.refl _ w).alloc (Nat.le_refl _) o).drew
  clear r1 r3 h h2
  go_enter Tryz.func88, Tryz.ntmps88
  go_wp2_with (fail)
  go_region_with (go_at_call 121; refine (HC.out _ (HL.out _) (by exact heap_alloc_last w _)).mono ?_; rintro e w2 ⟨a', c', rfl, q1, q0, q2⟩; have HQ1 := hid_mk q1; have HQ0 := hid_mk q0; have HQ2 := hid_mk q2; clear q1 q0 q2)
  go_wp2
  go_ret
  exact ⟨_, _, rfl, HQ1.out, HQ0.out, HQ2.out⟩
set_option maxHeartbeats 400000 in
theorem splI_none {w : World} {ua : Option Addr} {m uc : Nat} {ys : List Value} (h2 : RowAt w 1 ua m uc ys) (hm : m ≤ 300000) :
    Calls Tryz.prog 88 #[.slice none 0 0, .int .i64 0, .int .i64 0, .slice ua m uc] w fun e w' => ∃ a' c', e = .returned (.slice a' m c') ∧ RowAt w' 1 a' m c' ([] ++ ys ++ []) ∧ NewAt w.heap.size a' ∧ Below w.heap.size w w' := by
  have HC : Hid (∀ W, Below w.heap.size w W → W.heap[w.heap.size]? = some (.cells #[.slice none 0 0, .slice ua m uc, .slice none 0 0] 43 (0, 0)) → Calls Tryz.prog 121 #[.slice (some ⟨w.heap.size, 0, none⟩) 3 3] W fun e w' => ∃ a' c', e = .returned (.slice a' m c') ∧ RowAt w' 1 a' m c' ([] ++ ys ++ []) ∧ NewAt w.heap.size a' ∧ Below w.heap.size w w') :=
    fun W hW hb => by simpa only [Nat.zero_add, Nat.add_zero] using cat3I hW hb (RowAt.nil w 1) h2 (RowAt.nil w 1) (by omega) hm (by omega)
  have HL : Hid (∀ o, Below w.heap.size w (w.alloc o).drew) := fun o => ((Below.refl _ w).alloc (Nat.le_refl _) o).drew
  clear h2
  go_enter Tryz.func88, Tryz.ntmps88
  go_wp2_with (fail)
  go_region_with (go_at_call 121; refine (HC.out _ (HL.out _) (by exact heap_alloc_last w _)).mono ?_; rintro e w2 ⟨a', c', rfl, q1, q0, q2⟩; have HQ1 := hid_mk q1; have HQ0 := hid_mk q0; have HQ2 := hid_mk q2; clear q1 q0 q2)
  go_wp2
  go_ret
  exact ⟨_, _, rfl, HQ1.out, HQ0.out, HQ2.out⟩
/-- spliced, whatever the slice is. -/
theorem splI {w : World} {a ua : Option Addr} {n c m uc f t : Nat} {xs ys : List Value} (h : RowAt w 1 a n c xs) (h2 : RowAt w 1 ua m uc ys) (hf : f ≤ n) (ht : t ≤ n) (hn : n ≤ 300000) (hm : m ≤ 300000) :
    Calls Tryz.prog 88 #[.slice a n c, .int .i64 f, .int .i64 t, .slice ua m uc] w fun e w' => ∃ a' c', e = .returned (.slice a' (f + m + (n - t)) c') ∧ RowAt w' 1 a' (f + m + (n - t)) c' (xs.take (f * 1) ++ ys ++ xs.drop (t * 1)) ∧ NewAt w.heap.size a' ∧ Below w.heap.size w w' := by
  have hnc := h.2.1
  have hl := h.1
  rcases h.2.2.2.2 with ⟨rfl, rfl⟩ | ⟨b, off, rfl, _, _⟩
  · obtain rfl : n = 0 := by omega
    obtain rfl : f = 0 := by omega
    obtain rfl : t = 0 := by omega
    have hx : xs = [] := List.length_eq_zero_iff.1 (by simpa using hl)
    subst hx
    have h3 := splI_none h2 hm
    refine h3.mono ?_
    rintro e w' ⟨a', c', rfl, hr, hnw, hB⟩
    rw [show 0 + m + (0 - 0) = m by omega]
    exact ⟨a', c', rfl, by simpa using hr, hnw, hB⟩
  · by_cases hct : c = t
    · obtain rfl : n = t := by omega
      subst hct
      have h3 := splI_full h h2 hf hn hm
      refine h3.mono ?_
      rintro e w' ⟨a', c', rfl, hr, hnw, hB⟩
      rw [Nat.sub_self, List.drop_of_length_le (by omega)]
      exact ⟨a', c', rfl, hr, hnw, hB⟩
    · exact splI_some h h2 hf ht hn hm hct
theorem cat3A {w W : World} {a1 a2 a3 : Option Addr} {n1 n2 n3 c1 c2 c3 : Nat} {x1 x2 x3 : List Value} (hW : Below w.heap.size w W) (hb : W.heap[w.heap.size]? = some (.cells #[.slice a1 n1 c1, .slice a2 n2 c2, .slice a3 n3 c3] 74 (0, 0)))
    (r1 : RowAt w 2 a1 n1 c1 x1) (r2 : RowAt w 2 a2 n2 c2 x2) (r3 : RowAt w 2 a3 n3 c3 x3) (h1 : n1 ≤ 300000) (h2 : n2 ≤ 300000) (h3 : n3 ≤ 300000) :
    Calls Tryz.prog 127 #[.slice (some ⟨w.heap.size, 0, none⟩) 3 3] W fun e w' => ∃ a' c', e = .returned (.slice a' (n1 + n2 + n3) c') ∧ RowAt w' 2 a' (n1 + n2 + n3) c' (x1 ++ x2 ++ x3) ∧ NewAt w.heap.size a' ∧ Below w.heap.size w w' := by
  have h := catA (w := W) (b := w.heap.size) (p := fun k => if k = 0 then a1 else if k = 1 then a2 else a3) (n := fun k => if k = 0 then n1 else if k = 1 then n2 else n3) (c := fun k => if k = 0 then c1 else if k = 1 then c2 else c3) (x := fun k => if k = 0 then x1 else if k = 1 then x2 else x3) (Array.getElem?_eq_some_iff.1 hb).1 (fun k hk => by
      have : k = 0 ∨ k = 1 ∨ k = 2 := by omega
      rcases this with rfl | rfl | rfl <;> simp [World.cell?, hb]) (fun k hk => by
      have : k = 0 ∨ k = 1 ∨ k = 2 := by omega
      rcases this with rfl | rfl | rfl
      · exact r1.keep hW
      · exact r2.keep hW
      · exact r3.keep hW) (fun k hk => by
      have : k = 0 ∨ k = 1 ∨ k = 2 := by omega
      rcases this with rfl | rfl | rfl <;> simp <;> assumption)
  refine h.mono ?_
  rintro e w' ⟨a', c', rfl, hr, hnw, hB⟩
  have e1 : sumN (fun k => if k = 0 then n1 else if k = 1 then n2 else n3) 3 = n1 + n2 + n3 := by simp [sumN]
  have e2 : catN (fun k => if k = 0 then x1 else if k = 1 then x2 else x3) 3 = x1 ++ x2 ++ x3 := by simp [catN]
  rw [e1, e2] at hr
  exact ⟨a', c', by rw [e1], hr, hnw.mono hW.size, hW.trans (hB.mono hW.size)⟩
set_option maxHeartbeats 400000 in
theorem splA_some {w : World} {b off : Nat} {ua : Option Addr} {n c m uc f t : Nat} {xs ys : List Value} (h : RowAt w 2 (some ⟨b, off, none⟩) n c xs) (h2 : RowAt w 2 ua m uc ys) (hf : f ≤ n) (ht : t ≤ n) (hn : n ≤ 300000) (hm : m ≤ 300000) (hct : ¬ c = t) :
    Calls Tryz.prog 100 #[.slice (some ⟨b, off, none⟩) n c, .int .i64 f, .int .i64 t, .slice ua m uc] w fun e w' => ∃ a' c', e = .returned (.slice a' (f + m + (n - t)) c') ∧ RowAt w' 2 a' (f + m + (n - t)) c' (xs.take (f * 2) ++ ys ++ xs.drop (t * 2)) ∧ NewAt w.heap.size a' ∧ Below w.heap.size w w' := by
  have hnc := h.2.1
  have hcm := h.2.2.1
  unfold maxLen at hcm
  have h0 : ¬ ((f : Int) < 0) := by omega
  have h1 : ¬ ((c : Int) < f) := by omega
  have h3 : ¬ ((t : Int) < 0) := by omega
  have h4 : ¬ ((n : Int) < t) := by omega
  have r1 := h.take f hf
  have r3 : RowAt w 2 (some ⟨b, off + t * 2, none⟩) (n - t) (c - t) (xs.drop (t * 2)) := by simpa only [Nat.mul_one] using h.drop t ht
  have HC : Hid (∀ W, Below w.heap.size w W → W.heap[w.heap.size]? = some (.cells #[.slice (some ⟨b, off, none⟩) f c, .slice ua m uc, .slice (some ⟨b, off + t * 2, none⟩) (n - t) (c - t)] 74 (0, 0)) → Calls Tryz.prog 127 #[.slice (some ⟨w.heap.size, 0, none⟩) 3 3] W fun e w' => ∃ a' c', e = .returned (.slice a' (f + m + (n - t)) c') ∧ RowAt w' 2 a' (f + m + (n - t)) c' (xs.take (f * 2) ++ ys ++ xs.drop (t * 2)) ∧ NewAt w.heap.size a' ∧ Below w.heap.size w w') :=
    fun W hW hb => cat3A hW hb r1 h2 r3 (by omega) hm (by omega)
  have HL : Hid (∀ o, Below w.heap.size w (w.alloc o).drew) := fun o => ((Below.refl _ w).alloc (Nat.le_refl _) o).drew
  clear r1 r3 h h2
  go_enter Tryz.func100, Tryz.ntmps100
  go_wp2_with (fail)
  go_region_with (go_at_call 127; refine (HC.out _ (HL.out _) (by exact heap_alloc_last w _)).mono ?_; rintro e w2 ⟨a', c', rfl, q1, q0, q2⟩; have HQ1 := hid_mk q1; have HQ0 := hid_mk q0; have HQ2 := hid_mk q2; clear q1 q0 q2)
  go_wp2
  go_ret
  exact ⟨_, _, rfl, HQ1.out, HQ0.out, HQ2.out⟩
set_option maxHeartbeats 400000 in
theorem splA_full {w : World} {b off : Nat} {ua : Option Addr} {m uc f t : Nat} {xs ys : List Value} (h : RowAt w 2 (some ⟨b, off, none⟩) t t xs) (h2 : RowAt w 2 ua m uc ys) (hf : f ≤ t) (hn : t ≤ 300000) (hm : m ≤ 300000) :
    Calls Tryz.prog 100 #[.slice (some ⟨b, off, none⟩) t t, .int .i64 f, .int .i64 t, .slice ua m uc] w fun e w' => ∃ a' c', e = .returned (.slice a' (f + m + 0) c') ∧ RowAt w' 2 a' (f + m + 0) c' (xs.take (f * 2) ++ ys ++ []) ∧ NewAt w.heap.size a' ∧ Below w.heap.size w w' := by
  have hnc := h.2.1
  have h0 : ¬ ((f : Int) < 0) := by omega
  have h1 : ¬ ((t : Int) < f) := by omega
  have h3 : ¬ ((t : Int) < 0) := by omega
  have r1 := h.take f hf
  have r3 : RowAt w 2 (some ⟨b, off, none⟩) 0 0 [] := by
    obtain ⟨_, _, _, _, h5⟩ := h
    refine ⟨by simp, Nat.le_refl _, Nat.zero_le _, (fun _ hu => (List.not_mem_nil hu).elim), ?_⟩
    rcases h5 with ⟨h, _⟩ | ⟨b', off', e, hl, hc⟩
    · cases h
    · exact .inr ⟨b', off', e, hl, fun j u hu => by simp at hu⟩
  have HC : Hid (∀ W, Below w.heap.size w W → W.heap[w.heap.size]? = some (.cells #[.slice (some ⟨b, off, none⟩) f t, .slice ua m uc, .slice (some ⟨b, off, none⟩) 0 0] 74 (0, 0)) → Calls Tryz.prog 127 #[.slice (some ⟨w.heap.size, 0, none⟩) 3 3] W fun e w' => ∃ a' c', e = .returned (.slice a' (f + m + 0) c') ∧ RowAt w' 2 a' (f + m + 0) c' (xs.take (f * 2) ++ ys ++ []) ∧ NewAt w.heap.size a' ∧ Below w.heap.size w w') :=
    fun W hW hb => cat3A hW hb r1 h2 r3 (by omega) hm (by omega)
  have HL : Hid (∀ o, Below w.heap.size w (w.alloc o).drew) := fun o => ((Below.refl _ w).alloc (Nat.le_refl _) o).drew
  clear r1 r3 h h2
  go_enter Tryz.func100, Tryz.ntmps100
  go_wp2_with (fail)
  go_region_with (go_at_call 127; refine (HC.out _ (HL.out _) (by exact heap_alloc_last w _)).mono ?_; rintro e w2 ⟨a', c', rfl, q1, q0, q2⟩; have HQ1 := hid_mk q1; have HQ0 := hid_mk q0; have HQ2 := hid_mk q2; clear q1 q0 q2)
  go_wp2
  go_ret
  exact ⟨_, _, rfl, HQ1.out, HQ0.out, HQ2.out⟩
set_option maxHeartbeats 400000 in
theorem splA_none {w : World} {ua : Option Addr} {m uc : Nat} {ys : List Value} (h2 : RowAt w 2 ua m uc ys) (hm : m ≤ 300000) :
    Calls Tryz.prog 100 #[.slice none 0 0, .int .i64 0, .int .i64 0, .slice ua m uc] w fun e w' => ∃ a' c', e = .returned (.slice a' m c') ∧ RowAt w' 2 a' m c' ([] ++ ys ++ []) ∧ NewAt w.heap.size a' ∧ Below w.heap.size w w' := by
  have HC : Hid (∀ W, Below w.heap.size w W → W.heap[w.heap.size]? = some (.cells #[.slice none 0 0, .slice ua m uc, .slice none 0 0] 74 (0, 0)) → Calls Tryz.prog 127 #[.slice (some ⟨w.heap.size, 0, none⟩) 3 3] W fun e w' => ∃ a' c', e = .returned (.slice a' m c') ∧ RowAt w' 2 a' m c' ([] ++ ys ++ []) ∧ NewAt w.heap.size a' ∧ Below w.heap.size w w') :=
    fun W hW hb => by simpa only [Nat.zero_add, Nat.add_zero] using cat3A hW hb (RowAt.nil w 2) h2 (RowAt.nil w 2) (by omega) hm (by omega)
  have HL : Hid (∀ o, Below w.heap.size w (w.alloc o).drew) := fun o => ((Below.refl _ w).alloc (Nat.le_refl _) o).drew
  clear h2
  go_enter Tryz.func100, Tryz.ntmps100
  go_wp2_with (fail)
  go_region_with (go_at_call 127; refine (HC.out _ (HL.out _) (by exact heap_alloc_last w _)).mono ?_; rintro e w2 ⟨a', c', rfl, q1, q0, q2⟩; have HQ1 := hid_mk q1; have HQ0 := hid_mk q0; have HQ2 := hid_mk q2; clear q1 q0 q2)
  go_wp2
  go_ret
  exact ⟨_, _, rfl, HQ1.out, HQ0.out, HQ2.out⟩
/-- spliced, whatever the slice is. -/
theorem splA {w : World} {a ua : Option Addr} {n c m uc f t : Nat} {xs ys : List Value} (h : RowAt w 2 a n c xs) (h2 : RowAt w 2 ua m uc ys) (hf : f ≤ n) (ht : t ≤ n) (hn : n ≤ 300000) (hm : m ≤ 300000) :
    Calls Tryz.prog 100 #[.slice a n c, .int .i64 f, .int .i64 t, .slice ua m uc] w fun e w' => ∃ a' c', e = .returned (.slice a' (f + m + (n - t)) c') ∧ RowAt w' 2 a' (f + m + (n - t)) c' (xs.take (f * 2) ++ ys ++ xs.drop (t * 2)) ∧ NewAt w.heap.size a' ∧ Below w.heap.size w w' := by
  have hnc := h.2.1
  have hl := h.1
  rcases h.2.2.2.2 with ⟨rfl, rfl⟩ | ⟨b, off, rfl, _, _⟩
  · obtain rfl : n = 0 := by omega
    obtain rfl : f = 0 := by omega
    obtain rfl : t = 0 := by omega
    have hx : xs = [] := List.length_eq_zero_iff.1 (by simpa using hl)
    subst hx
    have h3 := splA_none h2 hm
    refine h3.mono ?_
    rintro e w' ⟨a', c', rfl, hr, hnw, hB⟩
    rw [show 0 + m + (0 - 0) = m by omega]
    exact ⟨a', c', rfl, by simpa using hr, hnw, hB⟩
  · by_cases hct : c = t
    · obtain rfl : n = t := by omega
      subst hct
      have h3 := splA_full h h2 hf hn hm
      refine h3.mono ?_
      rintro e w' ⟨a', c', rfl, hr, hnw, hB⟩
      rw [Nat.sub_self, List.drop_of_length_le (by omega)]
      exact ⟨a', c', rfl, hr, hnw, hB⟩
    · exact splA_some h h2 hf ht hn hm hct

end Go.Proofs.YtdiljkmlneeboaaGreat.N
