/- take. -/
import Derived.Test.YtlnpiadjnjdfiaaEPo
namespace Go.Proofs.Ytlnpiadjnjdfiaa.E
open Go.RowKit
set_option maxRecDepth 100000

theorem ES.other {w : World} {X : EX} {v : Value} {L : List It} (h : ES w X v L) {b : Nat} (h1 : b ≠ X.b) (h2 : v.ownBlock ≠ some b) (o : Nat) (u : Value) : ES (w.setCell ⟨b, o, none⟩ u) X v L :=
  ⟨h.bx.keep (Below.heap_setCell w ⟨b, o, none⟩ u X.b (Ne.symm h1)), ownsRow_keep h.row (fun k _ e => Below.heap_setCell w ⟨b, o, none⟩ u k (fun e2 => h2 (by rw [e, e2]))), h.ne⟩
theorem Kv.new {b : Nat} {v v' : Value} {a w : World} (h : Kv b v a v' w) {c : Nat} (hc : a.heap.size ≤ c) (o : Nat) (u : Value) : Kv b v a v' (w.setCell ⟨c, o, none⟩ u) :=
  ⟨h.os, h.tape, h.output, Nat.le_trans h.size (by simp [World.setCell]), fun k hk h1 h2 => (Below.heap_setCell w ⟨c, o, none⟩ u k (by dsimp only; omega)).trans (h.block k hk h1 h2), h.own⟩
theorem ES.lt {w : World} {X : EX} {v : Value} {L : List It} (h : ES w X v L) {g : Nat} (hg : v.ownBlock = some g) : g < w.heap.size := by
  rcases h.row.2 with ⟨rfl, _⟩ | ⟨k, cap, cur, rfl, h1, h2, _⟩
  · cases hg
  · cases hg
    exact (Array.getElem?_eq_some_iff.1 h2).1

set_option maxHeartbeats 2000000 in
theorem take_any {w : World} {X : EX} {g cap : Nat} {L : List It} (h : PAt w X g cap L) (hh : HeapL bt L.length L) (hL : L.length ≤ 1000000) (h0 : 0 < L.length) : Calls Try.prog 40 #[.pointer (some ⟨X.b, 12, none⟩)] w fun e w' => e = .returned (rv (L[0]'h0)) ∧ ∃ v' K, HeapL bt K.length K ∧ ES w' X v' K ∧ (L[0]'h0 :: K).Perm L ∧ Kv X.b (.slice (some ⟨g, 0, none⟩) L.length cap) w v' w' := by
  obtain ⟨c0, c1⟩ := h.row.at h0
  have hcB := h.cell
  have hcap := h.row.cap_le
  unfold maxLen at hcap
  have hXl := h.bx.lt
  obtain ⟨w1, hw1⟩ : ∃ w1, w1 = (w.alloc (.cells #[.int .i64 0, .int .i64 0] 48)).alloc (.cells #[.int .i64 (L[0]'h0).1, .int .i64 (L[0]'h0).2] 48) := ⟨_, rfl⟩
  have hbo : Below w.heap.size w w1 ∧ w1.heap[w.heap.size]? = some (.cells #[.int .i64 0, .int .i64 0] 48) ∧ w1.heap[w.heap.size + 1]? = some (.cells #[.int .i64 (L[0]'h0).1, .int .i64 (L[0]'h0).2] 48) := by
    obtain ⟨a, b, c⟩ := two_boxes w (.cells #[.int .i64 0, .int .i64 0] 48) (.cells #[.int .i64 (L[0]'h0).1, .int .i64 (L[0]'h0).2] 48)
    rw [hw1]
    exact ⟨((Below.refl _ _).alloc (Nat.le_refl _) _).alloc (by simp) _, a, b⟩
  have hpp := hpop_any (h.keep hbo.1) hh hL h0
  have HW1 := hid_mk hw1
  have HBO := hid_mk hbo
  have HLT := hid_mk hcap.2.2
  have hcap0 : 0 < cap := by omega
  have hXW : Hid (X.b < w.heap.size) := hXl
  clear h hh hbo
  unfold rv at *
  generalize L[0] = r at *
  obtain ⟨x1, x2⟩ := r
  dsimp only at *
  clear hw1
  have hlen1 : 1 ≤ L.length := h0
  go_enter Try.func40, Try.ntmps40
  go_wp2_with (go_at_call 52; fail)
  rw [← HW1.out]
  refine hpp.mono ?_
  rintro e w2 ⟨rfl, hE⟩
  have HE := hid_mk hE
  obtain ⟨v', K, _, hes, _, hx⟩ := hE
  obtain ⟨hb, hbz, hbt⟩ := HBO.out
  have hs1 := hb.size
  have hlt0 := (Array.getElem?_eq_some_iff.1 hbz).1
  have hlt1 := (Array.getElem?_eq_some_iff.1 hbt).1
  have k0 : w2.heap[w.heap.size]? = some (.cells #[.int .i64 0, .int .i64 0] 48) := (hx.block _ hlt0 (by have := hXW.out; omega) (by intro e; cases e; exact absurd HLT.out (Nat.lt_irrefl _))).trans hbz
  have k1 : w2.heap[w.heap.size + 1]? = some (.cells #[.int .i64 x1, .int .i64 x2] 48) := (hx.block _ hlt1 (by have := hXW.out; omega) (by intro e; have e : g = _ := Option.some.inj e; have := HLT.out; omega)).trans hbt
  have a0 : w2.cell? ⟨w.heap.size, 0, none⟩ = some (.int .i64 0) := by simp [World.cell?, k0]
  have a1 : w2.cell? ⟨w.heap.size, 1, none⟩ = some (.int .i64 0) := by simp [World.cell?, k0]
  have a2 : w2.cell? ⟨w.heap.size + 1, 0, none⟩ = some (.int .i64 x1) := by simp [World.cell?, k1]
  have a3 : w2.cell? ⟨w.heap.size + 1, 1, none⟩ = some (.int .i64 x2) := by simp [World.cell?, k1]
  have hf : ∀ o, w2.frozen? ⟨w.heap.size, o, none⟩ = false := fun o => by simp [World.frozen?, k0]
  clear hx k0 k1 hpp hes hb hbz hbt hs1 hlt0 hlt1
  go_wp2
  refine bodyPost_ret (v := .agg #[.int .i64 x1, .int .i64 x2]) (by simp [results, Try.results40, go_sem, a0, a1]) rfl ⟨rfl, ?_⟩
  obtain ⟨v', K, hH, hes, hp, hx⟩ := HE.out
  have hne : v'.ownBlock ≠ some w.heap.size := fun e => by
    rcases hx.own _ e with e | e
    · have e : g = _ := Option.some.inj e
      have := HLT.out; omega
    · have := (Array.getElem?_eq_some_iff.1 HBO.out.2.1).1; omega
  have hxb : w.heap.size ≠ X.b := by have := hXW.out; omega
  have hk : Kv X.b (.slice (some ⟨g, 0, none⟩) L.length cap) w v' w2 := (Kv.of_below HBO.out.1).trans hx
  exact ⟨v', K, hH, (hes.other hxb hne _ _).other hxb hne _ _, hp, (hk.new (Nat.le_refl _) _ _).new (Nat.le_refl _) _ _⟩
end Go.Proofs.Ytlnpiadjnjdfiaa.E
