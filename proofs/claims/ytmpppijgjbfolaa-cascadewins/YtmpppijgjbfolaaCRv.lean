/- slices.Collect; slices.Reverse. -/
import Derived.Test.YtmpppijgjbfolaaCAs
namespace Go.Proofs.Ytmpppijgjbfolaa.C
open Go.RowKit
set_option maxRecDepth 100000

theorem coll_any {w : World} {n0 B g : Nat} {L : List R9} (hP : PE w n0 B g L) (hH : HeapL bt L.length L) (hL : L.length ≤ 900000) (hg : n0 ≤ g ∧ g < w.heap.size) (hB : n0 ≤ B ∧ B < w.heap.size) : Calls Try.prog 28 #[.func (.func 29) #[.pointer (some ⟨B, 0, none⟩)] #[]] w fun e w' => ∃ v es, e = .returned v ∧ w'.ownsRow w.heap.size 26 8 v es.length (es.flatMap c8) ∧ Fall L es ∧ Below n0 w w' := by
  have hc := collect_any hP hH hL hg hB
  clear hP hH hL hg hB
  go_enter Try.func28, Try.ntmps28
  go_wp2_with (go_at_call 37; fail)
  refine hc.mono ?_
  rintro e w1 ⟨v, es, rfl, h1, h2, h3⟩
  have HE : Hid (∃ es, w1.ownsRow w.heap.size 26 8 v es.length (es.flatMap c8) ∧ Fall L es ∧ Below n0 w w1) := ⟨es, h1, h2, h3⟩
  clear h1 h2 h3 hc
  go_wp2
  go_ret
  obtain ⟨es, h1, h2, h3⟩ := HE.out
  exact ⟨v, es, rfl, h1, h2, h3⟩

/-- Eight stores over an item. -/
def set8 (xs : List Value) (o : Nat) (r : E8) : List Value := (((((((xs.set o (.string r.n)).set (o + 1) (.string r.v)).set (o + 2) (.int .i64 r.o)).set (o + 3) (.bool r.im)).set (o + 4) (.int .i64 r.a)).set (o + 5) (.int .i64 r.b)).set (o + 6) (.int .i64 r.c)).set (o + 7) (.int .i64 r.k)
theorem set8_app (a b : List Value) (o : Nat) (r : E8) : set8 (a ++ b) (a.length + o) r = a ++ set8 b o r := by
  unfold set8
  simp only [Nat.add_assoc, set_append_at]
theorem set8_flat : ∀ (L : List E8) (i : Nat) (_ : i < L.length) (r : E8), set8 (L.flatMap c8) (i * 8) r = (L.set i r).flatMap c8
  | s :: l, 0, _, r => by
    rw [List.flatMap_cons, List.set_cons_zero, List.flatMap_cons]
    simp [set8, c8]
  | s :: l, i + 1, h, r => by
    rw [List.flatMap_cons, List.set_cons_succ, List.flatMap_cons, ← set8_flat l i (by simpa using h) r, ← set8_app]
    rw [show (c8 s).length + i * 8 = (i + 1) * 8 by simp [c8]; omega]
def putE (w : World) (g o : Nat) (r : E8) : World := (((((((w.setCell ⟨g, o, none⟩ (.string r.n)).setCell ⟨g, o + 1, none⟩ (.string r.v)).setCell ⟨g, o + 2, none⟩ (.int .i64 r.o)).setCell ⟨g, o + 3, none⟩ (.bool r.im)).setCell ⟨g, o + 4, none⟩ (.int .i64 r.a)).setCell ⟨g, o + 5, none⟩ (.int .i64 r.b)).setCell ⟨g, o + 6, none⟩ (.int .i64 r.c)).setCell ⟨g, o + 7, none⟩ (.int .i64 r.k)
theorem own_putE {w : World} {B n g : Nat} {e : TypeId} {v : Value} {xs : List Value} (h : w.ownsRow B e 8 v n xs) (hg : v.ownBlock = some g) (o : Nat) (r : E8) : (putE w g o r).ownsRow B e 8 v n (set8 xs o r) := by
  unfold putE set8
  exact ownsRow_set (ownsRow_set (ownsRow_set (ownsRow_set (ownsRow_set (ownsRow_set (ownsRow_set (ownsRow_set h hg _ _) hg _ _) hg _ _) hg _ _) hg _ _) hg _ _) hg _ _) hg _ _
theorem putE_below {w a : World} {B g : Nat} (h : Below B a w) (hg : B ≤ g) (o : Nat) (r : E8) : Below B a (putE w g o r) := by
  unfold putE
  exact (((((((h.setCell (p := ⟨g, _, none⟩) hg _).setCell (p := ⟨g, _, none⟩) hg _).setCell (p := ⟨g, _, none⟩) hg _).setCell (p := ⟨g, _, none⟩) hg _).setCell (p := ⟨g, _, none⟩) hg _).setCell (p := ⟨g, _, none⟩) hg _).setCell (p := ⟨g, _, none⟩) hg _).setCell (p := ⟨g, _, none⟩) hg _
/-- A row of entries of one's own. -/
def EO (w : World) (B : Nat) (v : Value) (l : List E8) : Prop := w.ownsRow B 26 8 v l.length (l.flatMap c8)
theorem EO.es {w : World} {B : Nat} {v : Value} {l : List E8} (h : EO w B v l) : ∃ a c, v = .slice a l.length c ∧ EsAt w a c l := by
  obtain ⟨a, c, rfl, hr, _⟩ := RowAt.of_owns h (flat8_one l)
  exact ⟨a, c, rfl, EsAt.of hr⟩
theorem EO.set {w : World} {B g : Nat} {v : Value} {l : List E8} (h : EO w B v l) (hg : v.ownBlock = some g) {i : Nat} (hi : i < l.length) (r : E8) : EO (putE w g (i * 8) r) B v (l.set i r) := by
  have := own_putE h hg (i * 8) r
  rw [set8_flat l i hi r] at this
  unfold EO
  rw [List.length_set]
  exact this
theorem EO.swap {w : World} {B g : Nat} {v : Value} {l : List E8} (h : EO w B v l) (hg : v.ownBlock = some g) {i j : Nat} (hi : i < l.length) (hj : j < l.length) : EO (putE (putE w g (i * 8) l[j]) g (j * 8) l[i]).drew B v (swapL l i j hi hj) ∧ Below B w (putE (putE w g (i * 8) l[j]) g (j * 8) l[i]).drew := by
  have h1 : EO (putE (putE w g (i * 8) l[j]) g (j * 8) l[i]) B v (swapL l i j hi hj) := (h.set hg hi l[j]).set hg (i := j) (by rw [List.length_set]; exact hj) l[i]
  have hB := (World.ownsRow.lt h g hg).1
  have h2 : Below B w (putE (putE w g (i * 8) l[j]) g (j * 8) l[i]) := putE_below (putE_below (Below.refl _ _) hB _ _) hB _ _
  generalize putE (putE w g (i * 8) l[j]) g (j * 8) l[i] = x at *
  exact ⟨h1, h2.drew⟩
theorem EO.at {w : World} {B n c : Nat} {a : Option Addr} {l : List E8} (h : EO w B (.slice a n c) l) {i : Nat} (hi : i < l.length) : ∃ g, a = some ⟨g, 0, none⟩ ∧ g < w.heap.size ∧ (∀ o, w.frozen? ⟨g, o, none⟩ = false) ∧ (w.cell? ⟨g, i * 8, none⟩ = some (.string l[i].n) ∧ w.cell? ⟨g, i * 8 + 1, none⟩ = some (.string l[i].v) ∧ w.cell? ⟨g, i * 8 + 2, none⟩ = some (.int .i64 l[i].o) ∧ w.cell? ⟨g, i * 8 + 3, none⟩ = some (.bool l[i].im) ∧ w.cell? ⟨g, i * 8 + 4, none⟩ = some (.int .i64 l[i].a) ∧ w.cell? ⟨g, i * 8 + 5, none⟩ = some (.int .i64 l[i].b) ∧ w.cell? ⟨g, i * 8 + 6, none⟩ = some (.int .i64 l[i].c) ∧ w.cell? ⟨g, i * 8 + 7, none⟩ = some (.int .i64 l[i].k)) := by
  have h0 := h
  rcases h.2 with ⟨e, e0⟩ | ⟨k, cap, cur, e, h1, h2, h3, h4, _⟩
  · omega
  · cases e
    refine ⟨k, rfl, (Array.getElem?_eq_some_iff.1 h2).1, fun o => by simp [World.frozen?, h2], ?_⟩
    have hc := fun j (hj : j < 8) (u : Value) (hu : (c8 l[i])[j]? = some u) => World.ownsRow.cells h0 (g := k) rfl (i * 8 + j) u ((flat8_at l i hi j hj).trans hu)
    simp only [Addr.add_mid, Nat.zero_add] at hc
    exact ⟨hc 0 (by omega) _ rfl, hc 1 (by omega) _ rfl, hc 2 (by omega) _ rfl, hc 3 (by omega) _ rfl, hc 4 (by omega) _ rfl, hc 5 (by omega) _ rfl, hc 6 (by omega) _ rfl, hc 7 (by omega) _ rfl⟩
/-- Turned so far. -/
def Turn (l M : List E8) (i : Nat) : Prop := M.length = l.length ∧ ∀ k, k < l.length → M[k]? = if k < i ∨ l.length - i ≤ k then l[l.length - 1 - k]? else l[k]?
theorem Turn.start (l : List E8) : Turn l l 0 := ⟨rfl, fun k hk => by rw [if_neg (by omega)]⟩
theorem Turn.step {l M : List E8} {i : Nat} (h : Turn l M i) (h1 : i < M.length) (h2 : l.length - 1 - i < M.length) (hij : i < l.length - 1 - i) : Turn l (swapL M i (l.length - 1 - i) h1 h2) (i + 1) := by
  obtain ⟨hl, hk⟩ := h
  refine ⟨by rw [swapL_len, hl], fun k hkl => ?_⟩
  rw [swapL_get]
  by_cases e1 : k = l.length - 1 - i
  · rw [if_pos e1, if_pos (by omega), ← List.getElem?_eq_getElem h1, hk i (by omega), if_neg (by omega)]
    congr 1
    omega
  · rw [if_neg e1]
    by_cases e2 : k = i
    · rw [if_pos e2, if_pos (by omega), ← List.getElem?_eq_getElem h2, hk _ (by omega), if_neg (by omega), e2]
    · rw [if_neg e2, hk k hkl]
      by_cases e3 : k < i ∨ l.length - i ≤ k
      · rw [if_pos e3, if_pos (by omega)]
      · rw [if_neg e3, if_neg (by omega)]
theorem Turn.done {l M : List E8} {i : Nat} (h : Turn l M i) (hi : l.length ≤ 2 * i + 1) : M = l.reverse := by
  apply List.ext_getElem?
  intro k
  by_cases hk : k < l.length
  · rw [h.2 k hk, List.getElem?_reverse hk]
    by_cases e : k < i ∨ l.length - i ≤ k
    · rw [if_pos e]
    · rw [if_neg e]
      congr 1
      omega
  · rw [List.getElem?_eq_none (by have := h.1; omega), List.getElem?_eq_none (by simp; omega)]
def RvGo (w : World) (B : Nat) (v : Value) (l : List E8) (i : Nat) (wr : World) : Prop := ∃ M, Turn l M i ∧ EO wr B v M ∧ Below B w wr

set_option maxHeartbeats 4000000 in
theorem reverse_any {w : World} {B : Nat} {v : Value} {l : List E8} (h : EO w B v l) (hL : l.length ≤ 900000) : Calls Try.prog 30 #[v] w fun e w' => (∃ u, e = .returned u) ∧ EO w' B v l.reverse ∧ Below B w w' := by
  have HST : Hid (RvGo w B v l 0 w) := ⟨l, Turn.start l, h, Below.refl _ _⟩
  obtain ⟨va, vc, rfl⟩ := own_slice h
  have hcap : l.length ≤ vc ∧ vc ≤ 9223372036854775807 := by
    obtain ⟨a, c, e, hE⟩ := EO.es h
    cases e
    exact hE.cap
  obtain ⟨n, hn⟩ : ∃ n, n = l.length := ⟨_, rfl⟩
  have HN := hid_mk hn
  rw [← hn] at hL hcap HST ⊢
  clear h hn
  go_enter Try.func30, Try.ntmps30
  go_wp2
  go_loopw [2, 3] (fun a2 a3 wr => ∃ i : Nat, 2 * i ≤ n + 1 ∧ a2 = .int .i64 (i : Int) ∧ a3 = .int .i64 ((n : Int) - 1 - (i : Int)) ∧ Hid (RvGo w B (.slice va n vc) l i wr)) (fun a2 _ _ => n + 2 - (intOf a2).toNat)
  case atStart => exact ⟨0, Nat.zero_le _, rfl, by simp, HST.out⟩
  case round =>
    obtain ⟨i, hi, rfl, rfl, HJ⟩ := hrel
    by_cases hlt : 2 * i + 1 < n
    · obtain ⟨j, hj⟩ : ∃ j : Nat, j = n - 1 - i := ⟨_, rfl⟩
      have ej : ((n : Int) - 1 - (i : Int)) = (j : Int) := by omega
      have hd : decide ((i : Int) < (j : Int)) = true := decide_eq_true (by omega)
      have hij : i < j := by omega
      obtain ⟨M, hT, hE, hB⟩ := HJ.out
      have hMn : M.length = n := by rw [hT.1, HN.out]
      have hiM : i < M.length := by omega
      have hjM : j < M.length := by omega
      obtain ⟨g, rfl, hgl, hfz, c0, c1, c2, c3, c4, c5, c6, c7⟩ := hE.at hiM
      obtain ⟨g', eg, _, _, d0, d1, d2, d3, d4, d5, d6, d7⟩ := hE.at hjM
      cases eg
      have HFIN : Hid (RvGo w B (.slice (some ⟨g, 0, none⟩) n vc) l (i + 1) (putE (putE wr g (i * 8) M[j]) g (j * 8) M[i]).drew) := by
        obtain ⟨h1, h2⟩ := hE.swap (g := g) rfl hiM hjM
        have hjl : j = l.length - 1 - i := by rw [hj, HN.out]
        subst hjl
        exact ⟨_, hT.step hiM hjM (by rw [← HN.out]; omega), h1, hB.trans h2⟩
      have hne : i ≠ j := by omega
      have hnj : j < n := by omega
      have hin : i < n := by omega
      obtain ⟨i1, hi1⟩ : ∃ i1, i1 = i + 1 := ⟨_, rfl⟩
      rw [← hi1] at HFIN
      have e4 : ((i : Int) + 1) = (i1 : Int) := by omega
      have HEJ : Hid (((j : Int) - 1) = (n : Int) - 1 - (i1 : Int)) := by show _ = _; omega
      have HI1 := hid_mk hi1
      clear hi1
      generalize M[i] = x at *
      generalize M[j] = y at *
      rw [ej]
      clear hj ej HJ hT hE hB hMn hiM hjM
      obtain ⟨xn, xv, xo, xi, xa, xb, xc, xk⟩ := x
      obtain ⟨yn, yv, yo, yi, ya, yb, yc, yk⟩ := y
      obtain ⟨W2, hW2⟩ : ∃ W2, W2 = (putE (putE wr g (i * 8) ⟨yn, yv, yo, yi, ya, yb, yc, yk⟩) g (j * 8) ⟨xn, xv, xo, xi, xa, xb, xc, xk⟩).drew := ⟨_, rfl⟩
      rw [← hW2] at HFIN
      unfold putE at hW2
      dsimp only at *
      have HW2 := hid_mk hW2
      clear hW2
      go_upto_region 3 with (fail)
      go_region
      rw [← HW2.out]
      clear HW2 hfz c0 c1 c2 c3 c4 c5 c6 c7 d0 d1 d2 d3 d4 d5 d6 d7
      go_wp2
      refine ⟨⟨i1, by have := HI1.out; omega, rfl, by rw [← HEJ.out], HFIN.out⟩, ?_⟩
      have := HI1.out
      simp only [intOf]
      omega
    · have hd : decide ((i : Int) < (n : Int) - 1 - (i : Int)) = false := decide_eq_false (by omega)
      have HE : Hid (EO wr B (.slice va n vc) l.reverse ∧ Below B w wr) := by
        obtain ⟨M, hT, hE, hB⟩ := HJ.out
        rw [← hT.done (by rw [← HN.out]; omega)]
        exact ⟨hE, hB⟩
      clear HJ
      go_wp2
      go_end0
      exact ⟨⟨_, rfl⟩, HE.out⟩
end Go.Proofs.Ytmpppijgjbfolaa.C
