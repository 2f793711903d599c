/- The pile's Pop; container/heap's Pop; take. -/
import Derived.Test.YtlnpiadjnjdfiaaEDn
namespace Go.Proofs.Ytlnpiadjnjdfiaa.E
open Go.RowKit
set_option maxRecDepth 100000

/-- All blocks but b and that of what waits are as they were; what waits lies where it lay, or in new memory. -/
structure Kv (b : Nat) (v : Value) (w : World) (v' : Value) (w' : World) : Prop where
  os : w'.os = w.os
  tape : w'.tape = w.tape
  output : w'.output = w.output
  size : w.heap.size ≤ w'.heap.size
  block : ∀ k, k < w.heap.size → k ≠ b → v.ownBlock ≠ some k → w'.heap[k]? = w.heap[k]?
  own : ∀ k, v'.ownBlock = some k → v.ownBlock = some k ∨ w.heap.size ≤ k
theorem Kv.refl (b : Nat) (v : Value) (w : World) : Kv b v w v w := ⟨rfl, rfl, rfl, Nat.le_refl _, fun _ _ _ _ => rfl, fun _ h => .inl h⟩
theorem Kv.trans {b : Nat} {v v' v'' : Value} {w w' w'' : World} (h : Kv b v w v' w') (k : Kv b v' w' v'' w'') : Kv b v w v'' w'' :=
  ⟨k.os.trans h.os, k.tape.trans h.tape, k.output.trans h.output, Nat.le_trans h.size k.size, fun i hi h1 h2 => (k.block i (Nat.lt_of_lt_of_le hi h.size) h1 (fun e => by
    rcases h.own i e with e | e
    · exact h2 e
    · omega)).trans (h.block i hi h1 h2), fun i e => by
    rcases k.own i e with e | e
    · exact h.own i e
    · exact .inr (Nat.le_trans h.size e)⟩
theorem Kv.of_below {b : Nat} {v : Value} {w w' : World} (h : Below w.heap.size w w') : Kv b v w v w' := ⟨h.os, h.tape, h.output, h.size, fun k hk _ _ => h.block k hk, fun _ h => .inl h⟩
theorem Kv.of_kx {b g : Nat} {v : Value} {w w' : World} (h : Kx b g w w') (hv : v.ownBlock = some g) : Kv b v w v w' := ⟨h.os, h.tape, h.output, h.size, fun k hk h1 h2 => h.block k hk h1 (fun e => h2 (by rw [hv, e])), fun _ h => .inl h⟩
theorem Kv.setB {b : Nat} {v v' : Value} {w w' : World} (h : Kv b v w v' w') (o : Nat) (u : Value) : Kv b v w v' (w'.setCell ⟨b, o, none⟩ u) :=
  ⟨h.os, h.tape, h.output, Nat.le_trans h.size (by simp [World.setCell]), fun k hk h1 h2 => (Below.heap_setCell w' ⟨b, o, none⟩ u k h1).trans (h.block k hk h1 h2), h.own⟩
theorem Kv.toNil {b : Nat} {v v' : Value} {w w' : World} (h : Kv b v w v' w') {v'' : Value} (hv : v''.ownBlock = none) : Kv b v w v'' w' := ⟨h.os, h.tape, h.output, h.size, h.block, fun k e => by rw [hv] at e; cases e⟩
theorem Kv.same {b : Nat} {v v' : Value} {w w' : World} (h : Kv b v w v' w') {v'' : Value} (hv : v''.ownBlock = v'.ownBlock) : Kv b v w v'' w' := ⟨h.os, h.tape, h.output, h.size, h.block, fun k e => h.own k (by rw [← hv]; exact e)⟩
/-- What is below both is as it was. -/
theorem Kv.below {b : Nat} {v v' : Value} {w w' : World} (h : Kv b v w v' w') {n0 : Nat} (hn : n0 ≤ w.heap.size) (hb : n0 ≤ b) (hv : ∀ k, v.ownBlock = some k → n0 ≤ k) : Below n0 w w' := ⟨h.os, h.tape, h.output, h.size, fun k hk => h.block k (by omega) (by omega) (fun e => by have := hv k e; omega)⟩

/-- Epochs, and what waits: a slice v that holds the items L. -/
structure ES (w : World) (X : EX) (v : Value) (L : List It) : Prop where
  bx : Bx w X.b X.n X.now X.S X.m v
  row : w.ownsRow 0 48 2 v L.length (L.flatMap c2)
  ne : v.ownBlock ≠ some X.b
theorem PAt.es {w : World} {X : EX} {g cap : Nat} {L : List It} (h : PAt w X g cap L) : ES w X (.slice (some ⟨g, 0, none⟩) L.length cap) L := ⟨h.bx, h.row, fun e => h.ne (Option.some.inj e).symm⟩
theorem ES.keep {w w' : World} {X : EX} {v : Value} {L : List It} (h : ES w X v L) (hb : Below w.heap.size w w') : ES w' X v L :=
  ⟨h.bx.keep (hb.block X.b h.bx.lt), ownsRow_below h.row hb, h.ne⟩
theorem ES.at {w : World} {X : EX} {v : Value} {L : List It} (h : ES w X v L) (h0 : 0 < L.length) : ∃ g cap, v = .slice (some ⟨g, 0, none⟩) L.length cap ∧ PAt w X g cap L := by
  have hr := h.row
  rcases hr.2 with ⟨rfl, e⟩ | ⟨g, cap, cur, rfl, h1⟩
  · omega
  · exact ⟨g, cap, rfl, h.bx, h.row, fun e => h.ne (by rw [e]; rfl)⟩

theorem flat2_take : ∀ (L : List It) (m : Nat), (L.take m).flatMap c2 = (L.flatMap c2).take (m * 2)
  | [], m => by simp
  | r :: l, 0 => by simp
  | r :: l, m + 1 => by
    rw [List.take_succ_cons, List.flatMap_cons, List.flatMap_cons, flat2_take l m, List.take_append, show (m + 1) * 2 = (c2 r).length + m * 2 by simp [c2]; omega]
    rw [List.take_of_length_le (l := c2 r) (by omega)]
    congr 2
    omega
theorem Pl.take {w : World} {g cap : Nat} {L : List It} (h : Pl w g cap L) (m : Nat) (hm : m ≤ L.length) : Pl w g cap (L.take m) := by
  have hlen : (L.take m).length = m := by rw [List.length_take]; omega
  unfold Pl at h ⊢
  rw [hlen, flat2_take]
  obtain ⟨hl, hc⟩ := h
  refine ⟨by rw [List.length_take]; omega, ?_⟩
  rcases hc with ⟨e, _⟩ | ⟨k, c, cur, e, h1, h2, h3, h4, h5, h6⟩
  · cases e
  · cases e
    refine .inr ⟨_, _, cur, rfl, h1, h2, by omega, h4, h5, ?_⟩
    rw [← h6, List.take_take]
    congr 1
    omega
theorem PAt.pop {w : World} {X : EX} {g cap : Nat} {L : List It} (h : PAt w X g cap L) (m : Nat) (hm : m ≤ L.length) : PAt (w.setCell ⟨X.b, 12, none⟩ (.slice (some ⟨g, 0, none⟩) m cap)) X g cap (L.take m) := by
  have hlen : (L.take m).length = m := by rw [List.length_take]; omega
  refine ⟨?_, (h.row.take m hm).keep (Below.heap_setCell w ⟨X.b, 12, none⟩ _ g h.ne.symm), h.ne⟩
  rw [hlen]
  exact h.bx.setWaits _
theorem ES.nil {w : World} {X : EX} {v : Value} {L : List It} (h : ES w X v L) : ES (w.setCell ⟨X.b, 12, none⟩ (.slice none 0 0)) X (.slice none 0 0) [] := ⟨h.bx.setWaits _, own_nil _ _ _ _, by simp [Value.ownBlock]⟩

set_option maxHeartbeats 2000000 in
theorem ppop_any {w : World} {X : EX} {g cap : Nat} {L : List It} (h : PAt w X g cap L) {m : Nat} (hm : L.length = m + 1) : Calls Try.prog 112 #[.pointer (some ⟨X.b, 12, none⟩)] w fun e w' => e = .returned (.iface 48 (rv (L[m]'(by omega)))) ∧ ∃ v', ES w' X v' (L.take m) ∧ Kv X.b (.slice (some ⟨g, 0, none⟩) L.length cap) w v' w' := by
  have hmL : m < L.length := by omega
  obtain ⟨c0, c1⟩ := h.row.at hmL
  have hcB := h.cell
  have hfB := h.bx.unfrozen 12
  have hcap := h.row.cap_le
  unfold maxLen at hcap
  have hB := h.bx.lt
  have hl2 : (L.take m).length = m := by rw [List.length_take]; omega
  have HE : Hid (m ≠ 0 → ∀ o, ∃ v', ES ((w.setCell ⟨X.b, 12, none⟩ (.slice (some ⟨g, 0, none⟩) m cap)).alloc o) X v' (L.take m) ∧ Kv X.b (.slice (some ⟨g, 0, none⟩) L.length cap) w v' ((w.setCell ⟨X.b, 12, none⟩ (.slice (some ⟨g, 0, none⟩) m cap)).alloc o)) := fun _ o => by
    have h1 := h.pop m (by omega)
    have hb : Below (w.setCell ⟨X.b, 12, none⟩ (.slice (some ⟨g, 0, none⟩) m cap)).heap.size _ ((w.setCell ⟨X.b, 12, none⟩ (.slice (some ⟨g, 0, none⟩) m cap)).alloc o) := (Below.refl _ _).alloc (Nat.le_refl _) _
    exact ⟨_, (h1.keep hb).es, (((Kv.refl X.b (.slice (some ⟨g, 0, none⟩) L.length cap) w).setB 12 _).trans (Kv.of_below hb)).same (by rfl)⟩
  have HE0 : Hid (m = 0 → ∀ o, ∃ v', ES (((w.setCell ⟨X.b, 12, none⟩ (.slice (some ⟨g, 0, none⟩) 0 cap)).setCell ⟨X.b, 12, none⟩ (.slice none 0 0)).alloc o) X v' (L.take m) ∧ Kv X.b (.slice (some ⟨g, 0, none⟩) L.length cap) w v' (((w.setCell ⟨X.b, 12, none⟩ (.slice (some ⟨g, 0, none⟩) 0 cap)).setCell ⟨X.b, 12, none⟩ (.slice none 0 0)).alloc o)) := fun e o => by
    subst e
    have h1 := (h.pop 0 (by omega)).es.nil
    have hk := (((Kv.refl X.b (.slice (some ⟨g, 0, none⟩) L.length cap) w).setB 12 (.slice (some ⟨g, 0, none⟩) 0 cap)).setB 12 (.slice none 0 0)).toNil (v'' := .slice none 0 0) (by rfl)
    have hb := (Below.refl (((w.setCell ⟨X.b, 12, none⟩ (.slice (some ⟨g, 0, none⟩) 0 cap)).setCell ⟨X.b, 12, none⟩ (.slice none 0 0))).heap.size ((w.setCell ⟨X.b, 12, none⟩ (.slice (some ⟨g, 0, none⟩) 0 cap)).setCell ⟨X.b, 12, none⟩ (.slice none 0 0))).alloc (Nat.le_refl _) o
    exact ⟨_, h1.keep hb, hk.trans (Kv.of_below hb)⟩
  unfold rv
  generalize L[m] = x at *
  obtain ⟨x1, x2⟩ := x
  dsimp only at *
  have e1 : ((m : Int) + 1 - 1) = (m : Int) := by omega
  rw [hm] at hcB hcap
  clear h hmL hl2
  have HM := hid_mk hm
  clear hm
  have hBg : ∀ u, (w.setCell ⟨X.b, 12, none⟩ u).cell? ⟨X.b, 12, none⟩ = some u := fun u => World.cell?_setCell_same w ⟨X.b, 12, none⟩ u hcB
  by_cases h0 : m = 0
  · subst h0
    go_enter Try.func112, Try.ntmps112
    go_wp2
    go_ret
    exact ⟨rfl, HE0.out trivial _⟩
  · have hm0 : ((m : Int) == 0) = false := by
      rw [beq_eq_false_iff_ne]; omega
    go_enter Try.func112, Try.ntmps112
    go_wp2
    go_ret
    exact ⟨rfl, HE.out h0 _⟩

theorem heap_down0 {L : List It} {m : Nat} (h : HeapL bt L.length L) (hm : L.length = m + 1) : DownAt bt (swapL L 0 m (by omega) (by omega)) 0 m := by
  refine ⟨by rw [swapL_len]; omega, ?_, fun c x y _ _ h0 => by omega⟩
  intro c x y h0 hc hp hx hy
  have hpc : par c < c := by unfold par; omega
  rw [swapL_get, if_neg (by omega), if_neg (by omega)] at hx
  rw [swapL_get, if_neg (by omega), if_neg hp] at hy
  exact h c x y h0 (by omega) hx hy
theorem HeapL.take {b : It → It → Bool} {n : Nat} {L : List It} (h : HeapL b n L) : HeapL b (L.take n).length (L.take n) := by
  intro c x y h0 hc hx hy
  have hn : (L.take n).length ≤ n := by rw [List.length_take]; omega
  have hpc : par c < c := by unfold par; omega
  rw [List.getElem?_take_of_lt (by omega)] at hx hy
  exact h c x y h0 (by omega) hx hy

set_option maxHeartbeats 2000000 in
theorem hpop_any {w : World} {X : EX} {g cap : Nat} {L : List It} (h : PAt w X g cap L) (hh : HeapL bt L.length L) (hL : L.length ≤ 1000000) (h0 : 0 < L.length) : Calls Try.prog 52 #[.iface 78 (.pointer (some ⟨X.b, 12, none⟩))] w fun e w' => e = .returned (.iface 48 (rv (L[0]'h0))) ∧ ∃ v' K, HeapL bt K.length K ∧ ES w' X v' K ∧ (L[0]'h0 :: K).Perm L ∧ Kv X.b (.slice (some ⟨g, 0, none⟩) L.length cap) w v' w' := by
  obtain ⟨m, hm⟩ : ∃ m, L.length = m + 1 := ⟨L.length - 1, by omega⟩
  have hml : m < L.length := by omega
  have hml1 : L.length ≤ m + 1 := by omega
  have hmb : m ≤ 1000000 := by omega
  have HP := hid_mk h
  have HO := hid_mk bt_ord
  have HD : Hid (DownAt bt (swapL L 0 m h0 hml) 0 m) := heap_down0 hh hm
  have HM := hid_mk hm
  have hl := m_len h.cell
  have hs := m_swap h.cell
  rw [hm] at hl hs
  have HSW := swap_at h h0 hml
  rw [hm, show ((0 : Nat) : Int) = 0 from rfl] at HSW
  have e1 : ((m : Int) + 1 - 1) = (m : Int) := by omega
  obtain ⟨r, hr⟩ : ∃ r, r = L[0]'h0 := ⟨_, rfl⟩
  rw [← hr]
  have HR := hid_mk hr
  clear h hh hm hr
  unfold rv
  go_enter Try.func52, Try.ntmps52
  go_wp2_with (go_at_call 109; fail)
  refine (plen_any _ _ _ _).mono ?_
  rintro e w' ⟨rfl, hw⟩
  rw [hw]
  clear hw w'
  go_wp2_with (go_at_call 111; fail)
  refine HSW.mono ?_
  rintro e w1 ⟨⟨v1, rfl⟩, hP1, hx1⟩
  have HX1 := hid_mk hx1
  have HP1 := hid_mk hP1
  obtain ⟨K1, hK1⟩ : ∃ K1, K1 = swapL L 0 m h0 hml := ⟨_, rfl⟩
  rw [← hK1] at HP1 HD
  have HK1 := hid_mk hK1
  clear hl hs HSW hx1 hP1 hK1
  go_wp2_with (go_at_call 63; fail)
  refine (down_any HO.out HP1.out (by rw [HK1.out, swapL_len]; omega) HD.out).mono ?_
  rintro e w2 ⟨⟨v2, rfl⟩, K2, hH2, hP2, hp2, hf2, hx2⟩
  have hl2 : K2.length = m + 1 := by rw [hp2.length_eq, HK1.out, swapL_len, HM.out]
  have HX2 : Hid (Kx X.b g w w2) := HX1.out.trans hx2
  have hget : K2[m]'(by omega) = r := by
    rw [HR.out]
    have h3 := hf2 m (Nat.le_refl _)
    rw [HK1.out, swapL_get, if_pos rfl, List.getElem?_eq_getElem (by omega)] at h3
    exact Option.some.inj h3
  have hperm : (r :: K2.take m).Perm L := by
    have h4 : K2 = K2.take m ++ [K2[m]'(by omega)] := by
      rw [List.take_append_getElem]
      rw [List.take_of_length_le (by omega)]
    have h5 := hp2
    rw [HK1.out] at h5
    have h6 := h5.trans (swapL_perm L 0 m h0 hml)
    rw [h4, hget] at h6
    exact (List.perm_append_singleton _ _).symm.trans h6
  have hpp := ppop_any hP2 hl2
  rw [hget, hl2] at hpp
  have HPM := hid_mk hperm
  have HH : Hid (HeapL bt (K2.take m).length (K2.take m)) := hH2.take
  have hmp := m_pop w2 X.b
  clear hH2 hP2 hp2 hf2 hx2 hl2 hget hperm HX1 HP1 HK1 HD
  unfold rv at hpp
  go_wp2_with (go_at_call 112; fail)
  refine hpp.mono ?_
  rintro e w3 ⟨rfl, v3, hE3, hx3⟩
  have HE : Hid (∃ v' K, HeapL bt K.length K ∧ ES w3 X v' K ∧ (r :: K).Perm L ∧ Kv X.b (.slice (some ⟨g, 0, none⟩) L.length cap) w v' w3) := ⟨v3, _, HH.out, hE3, HPM.out, ((Kv.of_kx (v := .slice (some ⟨g, 0, none⟩) L.length cap) HX2.out rfl).same (v'' := .slice (some ⟨g, 0, none⟩) (m + 1) cap) rfl).trans hx3⟩
  clear hpp hE3 hx3 hmp
  go_wp2
  go_ret
  exact ⟨rfl, HE.out⟩
end Go.Proofs.Ytlnpiadjnjdfiaa.E
