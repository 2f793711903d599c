/- The pile's Pop; container/heap's Pop; take. -/
import Derived.Test.YtmpppijgjbfolaaCDn
namespace Go.Proofs.Ytmpppijgjbfolaa.C
open Go.RowKit
set_option maxRecDepth 100000

/-- A row as a value. -/
def rv (r : R9) : Value := .agg #[.string r.1.n, .string r.1.v, .int .i64 r.1.o, .bool r.1.im, .int .i64 r.1.a, .int .i64 r.1.b, .int .i64 r.1.c, .int .i64 r.1.k, .int .i64 r.2]
theorem flat9_take : ∀ (L : List R9) (m : Nat), (L.take m).flatMap c9 = (L.flatMap c9).take (m * 9)
  | [], m => by simp
  | r :: l, 0 => by simp
  | r :: l, m + 1 => by
    rw [List.take_succ_cons, List.flatMap_cons, List.flatMap_cons, flat9_take l m, List.take_append, show (m + 1) * 9 = (c9 r).length + m * 9 by simp [c9]; omega]
    rw [List.take_of_length_le (l := c9 r) (by omega)]
    congr 2
    omega
theorem Pl.take {w : World} {n0 g cap : Nat} {L : List R9} (h : Pl w n0 g cap L) (m : Nat) (hm : m ≤ L.length) : Pl w n0 g cap (L.take m) := by
  have hlen : (L.take m).length = m := by rw [List.length_take]; omega
  unfold Pl at h ⊢
  rw [hlen, flat9_take]
  obtain ⟨hl, hc⟩ := h
  refine ⟨by rw [List.length_take]; omega, ?_⟩
  rcases hc with ⟨e, _⟩ | ⟨k, c, cur, e, h1, h2, h3, h4, h5, h6⟩
  · cases e
  · cases e
    refine .inr ⟨_, _, cur, rfl, h1, h2, by omega, h4, h5, ?_⟩
    rw [← h6, List.take_take]
    congr 1
    omega
theorem PAt.pop {w : World} {n0 B g cap : Nat} {L : List R9} (h : PAt w n0 B g cap L) (m : Nat) (hm : m ≤ L.length) : PAt (w.setCell ⟨B, 0, none⟩ (.slice (some ⟨g, 0, none⟩) m cap)) n0 B g cap (L.take m) := by
  have hlen : (L.take m).length = m := by rw [List.length_take]; omega
  refine ⟨?_, (h.row.take m hm).keep (Below.heap_setCell w ⟨B, 0, none⟩ _ g h.ne.symm), h.ne, h.lo⟩
  rw [hlen]
  exact heap_setCell_same w B 0 _ 51 _ h.box
theorem Kx.setB {B g : Nat} {a w : World} (h : Kx B g a w) (o : Nat) (u : Value) : Kx B g a (w.setCell ⟨B, o, none⟩ u) :=
  h.trans ⟨rfl, rfl, rfl, by simp [World.setCell], fun k _ hk _ => Below.heap_setCell w ⟨B, o, none⟩ u k hk⟩

set_option maxHeartbeats 2000000 in
theorem ppop_any {w : World} {n0 B g cap : Nat} {L : List R9} (h : PAt w n0 B g cap L) {m : Nat} (hm : L.length = m + 1) : Calls Try.prog 83 #[.pointer (some ⟨B, 0, none⟩)] w fun e w' => e = .returned (.iface 69 (rv (L[m]'(by omega)))) ∧ PAt w' n0 B g cap (L.take m) ∧ Kx B g w w' := by
  have hmL : m < L.length := by omega
  obtain ⟨c0, c1, c2, c3, c4, c5, c6, c7, c8⟩ := h.row.at hmL
  have hcB := h.cell
  have hfB : w.frozen? ⟨B, 0, none⟩ = false := by simp [World.frozen?, h.box]
  have hcap := h.row.cap_le
  unfold maxLen at hcap
  have hB := (Array.getElem?_eq_some_iff.1 h.box).1
  have HE : Hid (∀ o, PAt ((w.setCell ⟨B, 0, none⟩ (.slice (some ⟨g, 0, none⟩) m cap)).alloc o) n0 B g cap (L.take m) ∧ Kx B g w ((w.setCell ⟨B, 0, none⟩ (.slice (some ⟨g, 0, none⟩) m cap)).alloc o)) := fun o => by
    have h1 := h.pop m (by omega)
    have hb : Below (w.setCell ⟨B, 0, none⟩ (.slice (some ⟨g, 0, none⟩) m cap)).heap.size _ ((w.setCell ⟨B, 0, none⟩ (.slice (some ⟨g, 0, none⟩) m cap)).alloc o) := (Below.refl _ _).alloc (Nat.le_refl _) _
    exact ⟨h1.keep hb, ((Kx.refl B g w).setB _ _).trans (Kx.of_below hb)⟩
  unfold rv
  generalize L[m] = x at *
  obtain ⟨⟨xn, xv, xo, xi, xa, xb, xc, xk⟩, xp⟩ := x
  dsimp only at *
  have e1 : ((m : Int) + 1 - 1) = (m : Int) := by omega
  rw [hm] at hcB hcap
  clear h hmL
  have HM := hid_mk hm
  clear hm
  go_enter Try.func83, Try.ntmps83
  go_wp2
  go_ret
  exact ⟨rfl, HE.out _⟩

theorem heap_down0 {L : List R9} {m : Nat} (h : HeapL bt L.length L) (hm : L.length = m + 1) : DownAt bt (swapL L 0 m (by omega) (by omega)) 0 m := by
  refine ⟨by rw [swapL_len]; omega, ?_, fun c x y _ _ h0 => by omega⟩
  intro c x y h0 hc hp hx hy
  have hpc : par c < c := by unfold par; omega
  rw [swapL_get, if_neg (by omega), if_neg (by omega)] at hx
  rw [swapL_get, if_neg (by omega), if_neg hp] at hy
  exact h c x y h0 (by omega) hx hy
theorem HeapL.take {b : R9 → R9 → Bool} {n : Nat} {L : List R9} (h : HeapL b n L) : HeapL b (L.take n).length (L.take n) := by
  intro c x y h0 hc hx hy
  have hn : (L.take n).length ≤ n := by rw [List.length_take]; omega
  have hpc : par c < c := by unfold par; omega
  rw [List.getElem?_take_of_lt (by omega)] at hx hy
  exact h c x y h0 (by omega) hx hy

set_option maxHeartbeats 2000000 in
theorem hpop_any (o : Ord bt) {w : World} {n0 B g cap : Nat} {L : List R9} (h : PAt w n0 B g cap L) (hh : HeapL bt L.length L) (hL : L.length ≤ 1000000) (h0 : 0 < L.length) : Calls Try.prog 38 #[.iface 66 (.pointer (some ⟨B, 0, none⟩))] w fun e w' => e = .returned (.iface 69 (rv (L[0]'h0))) ∧ ∃ K : List R9, HeapL bt K.length K ∧ PAt w' n0 B g cap K ∧ (L[0]'h0 :: K).Perm L ∧ Kx B g w w' := by
  obtain ⟨m, hm⟩ : ∃ m, L.length = m + 1 := ⟨L.length - 1, by omega⟩
  have hml : m < L.length := by omega
  have hml1 : L.length ≤ m + 1 := by omega
  have hmb : m ≤ 1000000 := by omega
  have HP := hid_mk h
  have HO := hid_mk o
  have HD : Hid (DownAt bt (swapL L 0 m h0 hml) 0 m) := heap_down0 hh hm
  have HM := hid_mk hm
  have hl := m_len h.cell
  have hs := m_swap h.cell
  rw [hm] at hl hs
  have HSW := swap_at h h0 hml
  rw [hm, show ((0 : Nat) : Int) = 0 from rfl] at HSW
  have e1 : ((m : Int) + 1 - 1) = (m : Int) := by omega
  obtain ⟨r, hr⟩ : ∃ r, r = L[0]'h0 := ⟨_, rfl⟩
  rw [← hr]
  have HR := hid_mk hr
  clear h o hh hm hr
  unfold rv
  go_enter Try.func38, Try.ntmps38
  go_wp2_with (go_at_call 32; fail)
  refine (plen_any _ _ _ _).mono ?_
  rintro e w' ⟨rfl, hw⟩
  rw [hw]
  clear hw w'
  go_wp2_with (go_at_call 82; fail)
  refine HSW.mono ?_
  rintro e w1 ⟨⟨v1, rfl⟩, hP1, hx1⟩
  have HX1 := hid_mk hx1
  have HP1 := hid_mk hP1
  obtain ⟨K1, hK1⟩ : ∃ K1, K1 = swapL L 0 m h0 hml := ⟨_, rfl⟩
  rw [← hK1] at HP1 HD
  have HK1 := hid_mk hK1
  clear hl hs HSW hx1 hP1 hK1
  go_wp2_with (go_at_call 43; fail)
  refine (down_any HO.out HP1.out (by rw [HK1.out, swapL_len]; omega) HD.out).mono ?_
  rintro e w2 ⟨⟨v2, rfl⟩, K2, hH2, hP2, hp2, hf2, hx2⟩
  have hl2 : K2.length = m + 1 := by rw [hp2.length_eq, HK1.out, swapL_len, HM.out]
  have HX2 : Hid (Kx B g w w2) := HX1.out.trans hx2
  have hget : K2[m]'(by omega) = r := by
    rw [HR.out]
    have h3 := hf2 m (Nat.le_refl _)
    rw [HK1.out, swapL_get, if_pos rfl, List.getElem?_eq_getElem (by omega)] at h3
    exact Option.some.inj h3
  have hperm : (r :: K2.take m).Perm L := by
    have h4 : K2 = K2.take m ++ [K2[m]'(by omega)] := by
      rw [List.take_append_getElem]
      rw [List.take_of_length_le (by omega)]
    have h5 := hp2
    rw [HK1.out] at h5
    have h6 := h5.trans (swapL_perm L 0 m h0 hml)
    rw [h4, hget] at h6
    exact (List.perm_append_singleton _ _).symm.trans h6
  have hpp := ppop_any hP2 hl2
  rw [hget] at hpp
  have HPM := hid_mk hperm
  have HH : Hid (HeapL bt (K2.take m).length (K2.take m)) := hH2.take
  have hmp := m_pop w2 B
  clear hH2 hP2 hp2 hf2 hx2 hl2 hget hperm HX1 HP1 HK1 HD
  unfold rv at hpp
  go_wp2_with (go_at_call 83; fail)
  refine hpp.mono ?_
  rintro e w3 ⟨rfl, hP3, hx3⟩
  have HE : Hid (∃ K : List R9, HeapL bt K.length K ∧ PAt w3 n0 B g cap K ∧ (r :: K).Perm L ∧ Kx B g w w3) := ⟨_, HH.out, hP3, HPM.out, HX2.out.trans hx3⟩
  clear hpp hP3 hx3 hmp
  go_wp2
  go_ret
  exact ⟨rfl, HE.out⟩

theorem PAt.other {w : World} {n0 B g cap b : Nat} {L : List R9} (h : PAt w n0 B g cap L) (h1 : b ≠ B) (h2 : b ≠ g) (o : Nat) (u : Value) : PAt (w.setCell ⟨b, o, none⟩ u) n0 B g cap L :=
  ⟨(Below.heap_setCell w ⟨b, o, none⟩ u B (Ne.symm h1)).trans h.box, h.row.keep (Below.heap_setCell w ⟨b, o, none⟩ u g (Ne.symm h2)), h.ne, h.lo⟩
theorem Kx.new {B g : Nat} {a w : World} (h : Kx B g a w) {b : Nat} (hb : a.heap.size ≤ b) (o : Nat) (u : Value) : Kx B g a (w.setCell ⟨b, o, none⟩ u) :=
  ⟨h.os, h.tape, h.output, Nat.le_trans h.size (by simp [World.setCell]), fun k hk h1 h2 => (Below.heap_setCell w ⟨b, o, none⟩ u k (by dsimp only; omega)).trans (h.block k hk h1 h2)⟩
/-- Eight stores into a block. -/
def put8 (w : World) (b : Nat) (e : E8) : World := (((((((w.setCell ⟨b, 0, none⟩ (.string e.n)).setCell ⟨b, 1, none⟩ (.string e.v)).setCell ⟨b, 2, none⟩ (.int .i64 e.o)).setCell ⟨b, 3, none⟩ (.bool e.im)).setCell ⟨b, 4, none⟩ (.int .i64 e.a)).setCell ⟨b, 5, none⟩ (.int .i64 e.b)).setCell ⟨b, 6, none⟩ (.int .i64 e.c)).setCell ⟨b, 7, none⟩ (.int .i64 e.k)
theorem put8_pat {w : World} {n0 B g cap b : Nat} {L : List R9} (h : PAt w n0 B g cap L) (h1 : b ≠ B) (h2 : b ≠ g) (e : E8) : PAt (put8 w b e) n0 B g cap L :=
  (((((((h.other h1 h2 _ _).other h1 h2 _ _).other h1 h2 _ _).other h1 h2 _ _).other h1 h2 _ _).other h1 h2 _ _).other h1 h2 _ _).other h1 h2 _ _
theorem put8_kx {B g : Nat} {a w : World} (h : Kx B g a w) {b : Nat} (hb : a.heap.size ≤ b) (e : E8) : Kx B g a (put8 w b e) :=
  (((((((h.new hb _ _).new hb _ _).new hb _ _).new hb _ _).new hb _ _).new hb _ _).new hb _ _).new hb _ _
theorem assert69 (cs : Array Value) (w : World) : (Instr.typeAssert (.iface 69 (.agg cs)) 20 69 true).run Try.prog w = .ok (.tuple #[.agg cs, .bool true]) w := by kernel_rfl
end Go.Proofs.Ytmpppijgjbfolaa.C
