/- cascade.Sort and cascade.Chain. -/
import Derived.Test.YtmpppijgjbfolaaCRv
namespace Go.Proofs.Ytmpppijgjbfolaa.C
open Go.RowKit
set_option maxRecDepth 100000

theorem Fall.len {L : List R9} {es : List E8} (h : Fall L es) : es.length = L.length := by
  obtain ⟨ys, rfl, hp, _⟩ := h
  rw [List.length_map, hp.length_eq]
theorem Fall.perm {L L' : List R9} {es : List E8} (h : Fall L es) (hp : L.Perm L') : Fall L' es := by
  obtain ⟨ys, e, h1, h2⟩ := h
  exact ⟨ys, e, h1.trans hp, h2⟩

set_option maxHeartbeats 4000000 in
theorem sort_any {w : World} {a : Option Addr} {c : Nat} {l : List E8} (h : EsAt w a c l) (hL : l.length ≤ 900000) : Calls Try.prog 16 #[.slice a l.length c] w fun e w' => ∃ v es, e = .returned v ∧ EO w' w.heap.size v es.reverse ∧ Fall (tagF l 0) es ∧ Below w.heap.size w w' := by
  obtain ⟨w1, hw1⟩ : ∃ w1, w1 = w.alloc (.cells #[.slice none 0 0] 51) := ⟨_, rfl⟩
  have hb1 : Below w.heap.size w w1 := by rw [hw1]; exact (Below.refl _ _).alloc (Nat.le_refl _) _
  have hx1 : w1.heap[w.heap.size]? = some (.cells #[.slice none 0 0] 51 (0, 0)) := by rw [hw1]; exact heap_alloc_last w _
  have hF0 : FdGo w.heap.size w.heap.size w1 [] w1 := ⟨Below.refl _ _, [], .inl ⟨rfl, hx1, Nat.le_refl _⟩, fun c x y _ h0 => by simp at h0, List.Perm.refl _⟩
  have hfd := feed_any bt_ord hF0 (fun w' hw' => h.keep (hb1.trans hw')) hL hb1.size
  have HB1 := hid_mk hb1
  have HW1 := hid_mk hw1
  clear h hw1 hb1 hx1 hF0
  go_enter Try.func16, Try.ntmps16
  go_wp2_with (go_at_call 26; fail)
  rw [← HW1.out]
  refine hfd.mono ?_
  rintro e w2 ⟨⟨v2, rfl⟩, hB2, K, hP, hH, hp⟩
  obtain ⟨g, hPE, hg1, hg2, hB3, hB4⟩ := hP.pe
  have hKl : K.length ≤ 900000 := by rw [hp.length_eq, tagF_len]; exact hL
  have hco := coll_any hPE hH hKl ⟨hg1, hg2⟩ ⟨hB3, hB4⟩
  have HB2 : Hid (Below w.heap.size w w2) := HB1.out.trans hB2
  have HP := hid_mk hp
  clear hfd hPE hH hP hg1 hg2 hB3 hB4 hB2 hp
  go_wp2_with (go_at_call 28; fail)
  refine hco.mono ?_
  rintro e w3 ⟨v3, es, rfl, h1, h2, h3⟩
  have hel : es.length ≤ 900000 := by rw [h2.len]; exact hKl
  have hrv := reverse_any (l := es) h1 hel
  have HF : Hid (Fall (tagF l 0) es) := h2.perm HP.out
  have HB3 : Hid (Below w.heap.size w w3) := HB2.out.trans h3
  have HLE : Hid (w.heap.size ≤ w2.heap.size) := HB2.out.size
  clear hco h1 h2 h3
  go_wp2_with (go_at_call 30; fail)
  refine hrv.mono ?_
  rintro e w4 ⟨⟨u, rfl⟩, h4, h5⟩
  have HE : Hid (EO w4 w.heap.size v3 es.reverse) := own_mono h4 HLE.out
  have HB4 : Hid (Below w.heap.size w w4) := HB3.out.trans (h5.mono HLE.out)
  clear hrv h4 h5
  go_wp2
  go_ret
  exact ⟨v3, es, rfl, HE.out, HF.out, HB4.out⟩

set_option maxHeartbeats 4000000 in
theorem chain_any {w : World} {a : Option Addr} {c : Nat} {l : List E8} (h : EsAt w a c l) (hL : l.length ≤ 900000) (name : ByteArray) : Calls Try.prog 22 #[.slice a l.length c, .string name] w fun e w' => ∃ v es, e = .returned v ∧ EO w' w.heap.size v es ∧ Fall (tagF (l.filter (nmd name)) 0) es ∧ Below w.heap.size w w' := by
  obtain ⟨w1, hw1⟩ : ∃ w1, w1 = w.alloc (.cells #[.slice none 0 0] 51) := ⟨_, rfl⟩
  have hb1 : Below w.heap.size w w1 := by rw [hw1]; exact (Below.refl _ _).alloc (Nat.le_refl _) _
  have hx1 : w1.heap[w.heap.size]? = some (.cells #[.slice none 0 0] 51 (0, 0)) := by rw [hw1]; exact heap_alloc_last w _
  have hF0 : FdGo w.heap.size w.heap.size w1 [] w1 := ⟨Below.refl _ _, [], .inl ⟨rfl, hx1, Nat.le_refl _⟩, fun c x y _ h0 => by simp at h0, List.Perm.refl _⟩
  have hfd := feedNamed_any bt_ord name hF0 (fun w' hw' => h.keep (hb1.trans hw')) hL hb1.size
  have hfl : (l.filter (nmd name)).length ≤ 900000 := Nat.le_trans (List.length_filter_le _ _) hL
  have HB1 := hid_mk hb1
  have HW1 := hid_mk hw1
  clear h hw1 hb1 hx1 hF0
  generalize l.filter (nmd name) = f at *
  go_enter Try.func22, Try.ntmps22
  go_wp2_with (go_at_call 31; fail)
  rw [← HW1.out]
  refine hfd.mono ?_
  rintro e w2 ⟨⟨v2, rfl⟩, hB2, K, hP, hH, hp⟩
  obtain ⟨g, hPE, hg1, hg2, hB3, hB4⟩ := hP.pe
  have hKl : K.length ≤ 900000 := by rw [hp.length_eq, tagF_len]; exact hfl
  have hco := coll_any hPE hH hKl ⟨hg1, hg2⟩ ⟨hB3, hB4⟩
  have HB2 : Hid (Below w.heap.size w w2) := HB1.out.trans hB2
  have HP := hid_mk hp
  clear hfd hPE hH hP hg1 hg2 hB3 hB4 hB2 hp
  go_wp2_with (go_at_call 28; fail)
  refine hco.mono ?_
  rintro e w3 ⟨v3, es, rfl, h1, h2, h3⟩
  have HF : Hid (Fall (tagF f 0) es) := h2.perm HP.out
  have HB3 : Hid (Below w.heap.size w w3) := HB2.out.trans h3
  have HE : Hid (EO w3 w.heap.size v3 es) := own_mono h1 HB2.out.size
  clear hco h1 h2 h3
  go_wp2
  go_ret
  exact ⟨v3, es, rfl, HE.out, HF.out, HB3.out⟩
end Go.Proofs.Ytmpppijgjbfolaa.C
