/- feed and feedNamed. -/
import Derived.Test.YtmpppijgjbfolaaCPu
namespace Go.Proofs.Ytmpppijgjbfolaa.C
open Go.RowKit
set_option maxRecDepth 100000

theorem flat8_len (L : List E8) : (L.flatMap c8).length = L.length * 8 := by
  induction L with
  | nil => rfl
  | cons s r ih => rw [List.flatMap_cons, List.length_append, ih, List.length_cons]; simp [c8]; omega
theorem flat8_at : ∀ (L : List E8) (i : Nat) (h : i < L.length) (j : Nat), j < 8 → (L.flatMap c8)[i * 8 + j]? = (c8 L[i])[j]?
  | s :: r, 0, _, j, hj => by
    rw [List.flatMap_cons, Nat.zero_mul, Nat.zero_add, List.getElem?_append_left (by simpa [c8] using hj)]
    rfl
  | s :: r, i + 1, h, j, hj => by
    rw [List.flatMap_cons, List.getElem?_append_right (by simp [c8]; omega)]
    have := flat8_at r i (by simpa using h) j hj
    rw [show (i + 1) * 8 + j - (c8 s).length = i * 8 + j by simp [c8]; omega, this]
    rfl
theorem flat8_one (L : List E8) : ∀ u ∈ L.flatMap c8, u.oneCell' = true := by
  intro u hu
  obtain ⟨s, _, h⟩ := List.mem_flatMap.1 hu
  simp only [c8, List.mem_cons, List.not_mem_nil, or_false] at h
  rcases h with rfl | rfl | rfl | rfl | rfl | rfl | rfl | rfl <;> rfl
/-- A slice of entries. -/
def EsAt (w : World) (a : Option Addr) (c : Nat) (l : List E8) : Prop := (l.length ≤ c ∧ c ≤ maxLen) ∧ (0 < l.length → RowAt w 8 a l.length c (l.flatMap c8))
theorem EsAt.of {w : World} {a : Option Addr} {c : Nat} {l : List E8} (h : RowAt w 8 a l.length c (l.flatMap c8)) : EsAt w a c l := ⟨⟨h.2.1, h.2.2.1⟩, fun _ => h⟩
theorem EsAt.at {w : World} {a : Option Addr} {c : Nat} {l : List E8} (h : EsAt w a c l) {i : Nat} (hi : i < l.length) : ∃ b off, a = some ⟨b, off, none⟩ ∧ b < w.heap.size ∧ (w.cell? ⟨b, off + i * 8, none⟩ = some (.string l[i].n) ∧ w.cell? ⟨b, off + i * 8 + 1, none⟩ = some (.string l[i].v) ∧ w.cell? ⟨b, off + i * 8 + 2, none⟩ = some (.int .i64 l[i].o) ∧ w.cell? ⟨b, off + i * 8 + 3, none⟩ = some (.bool l[i].im) ∧ w.cell? ⟨b, off + i * 8 + 4, none⟩ = some (.int .i64 l[i].a) ∧ w.cell? ⟨b, off + i * 8 + 5, none⟩ = some (.int .i64 l[i].b) ∧ w.cell? ⟨b, off + i * 8 + 6, none⟩ = some (.int .i64 l[i].c) ∧ w.cell? ⟨b, off + i * 8 + 7, none⟩ = some (.int .i64 l[i].k)) := by
  have h := h.2 (by omega)
  rcases h.2.2.2.2 with ⟨_, h0⟩ | ⟨b, off, e, hl, hc⟩
  · have := h.2.1; omega
  · refine ⟨b, off, e, hl, ?_⟩
    have hc := fun j (hj : j < 8) (u : Value) (hu : (c8 l[i])[j]? = some u) => hc (i * 8 + j) u ((flat8_at l i hi j hj).trans hu)
    simp only [← Nat.add_assoc] at hc
    refine ⟨hc 0 (by omega) _ rfl, hc 1 (by omega) _ rfl, hc 2 (by omega) _ rfl, hc 3 (by omega) _ rfl, hc 4 (by omega) _ rfl, hc 5 (by omega) _ rfl, hc 6 (by omega) _ rfl, hc 7 (by omega) _ rfl⟩
theorem EsAt.cap {w : World} {a : Option Addr} {c : Nat} {l : List E8} (h : EsAt w a c l) : l.length ≤ c ∧ c ≤ 9223372036854775807 := by
  have := h.1.2
  unfold maxLen at this
  exact ⟨h.1.1, by omega⟩
/-- With numbers from i on. -/
def tagF : List E8 → Nat → List R9
  | [], _ => []
  | x :: r, i => (x, (i : Int)) :: tagF r (i + 1)
theorem tagF_len : ∀ (l : List E8) (i : Nat), (tagF l i).length = l.length
  | [], _ => rfl
  | x :: r, i => by simp [tagF, tagF_len r (i + 1)]
theorem tagF_app : ∀ (a b : List E8) (i : Nat), tagF (a ++ b) i = tagF a i ++ tagF b (i + a.length)
  | [], b, i => by simp [tagF]
  | x :: r, b, i => by
    simp only [List.cons_append, tagF, tagF_app r b (i + 1), List.length_cons]
    rw [show i + 1 + r.length = i + (r.length + 1) by omega]
/-- What was put so far. -/
def FdGo (n0 B : Nat) (w : World) (s : List E8) (wr : World) : Prop := Below n0 w wr ∧ ∃ K, PN wr n0 B K ∧ HeapL bt K.length K ∧ K.Perm (tagF s 0)
theorem FdGo.push {n0 B : Nat} {w w' : World} {s : List E8} {x : E8} {K0 : List R9} (hp : K0.Perm (tagF s 0)) (h : Below n0 w w' ∧ ∃ g cap K, PAt w' n0 B g cap K ∧ HeapL bt K.length K ∧ K.Perm (K0 ++ [(x, (K0.length : Int))])) : FdGo n0 B w (s ++ [x]) w' := by
  obtain ⟨h1, g, cap, K, h2, h3, h4⟩ := h
  refine ⟨h1, K, h2.pn, h3, h4.trans ?_⟩
  have hl : K0.length = s.length := by rw [hp.length_eq, tagF_len]
  rw [tagF_app, hl, Nat.zero_add]
  exact hp.append_right _

set_option maxHeartbeats 4000000 in
theorem feed_any (o : Ord bt) {w : World} {n0 B : Nat} {a : Option Addr} {c : Nat} {l : List E8} (h : FdGo n0 B w [] w) (hl : ∀ w', Below n0 w w' → EsAt w' a c l) (hL : l.length ≤ 900000) (hn : n0 ≤ w.heap.size) : Calls Try.prog 26 #[.slice a l.length c, .func (.func 27) #[.pointer (some ⟨B, 0, none⟩)] #[]] w fun e w' => (∃ v, e = .returned v) ∧ FdGo n0 B w l w' := by
  have HO := hid_mk o
  have HL := hid_mk hl
  have hcap := (hl w (Below.refl _ _)).cap
  have HST := hid_mk h
  clear h hl o
  obtain ⟨n, hnl⟩ : ∃ n, n = l.length := ⟨_, rfl⟩
  have HNL := hid_mk hnl
  rw [← hnl] at hcap hL ⊢
  clear hnl
  go_enter Try.func26, Try.ntmps26
  go_wp2
  go_loopw [8] (fun a8 wr => ∃ i : Nat, i ≤ n ∧ a8 = .int .i64 (i : Int) ∧ Hid (FdGo n0 B w (l.take i) wr)) (fun a8 _ => n + 1 - (intOf a8).toNat)
  case atStart => exact ⟨0, Nat.zero_le _, rfl, HST.out⟩
  case round =>
    obtain ⟨i, hi, rfl, HJ⟩ := hrel
    by_cases hlt : i < n
    · have hd : decide ((i : Int) < (n : Int)) = true := decide_eq_true (by omega)
      have hil : i < l.length := by rw [← HNL.out]; exact hlt
      obtain ⟨b, off, rfl, hb, c0, c1, c2, c3, c4, c5, c6, c7⟩ := (HL.out wr HJ.out.1).at hil
      obtain ⟨x, hx⟩ : ∃ x, x = l[i] := ⟨_, rfl⟩
      rw [← hx] at c0 c1 c2 c3 c4 c5 c6 c7
      have HX : Hid (l.take (i + 1) = l.take i ++ [x]) := by
        show _ = _
        rw [hx, List.take_append_getElem]
      have hbel : Below wr.heap.size wr (wr.alloc (.cells #[.string x.n, .string x.v, .int .i64 x.o, .bool x.im, .int .i64 x.a, .int .i64 x.b, .int .i64 x.c, .int .i64 x.k] 26)) := (Below.refl _ _).alloc (Nat.le_refl _) _
      obtain ⟨hB1, K, hP, hH, hp⟩ := HJ.out
      have hnr : n0 ≤ wr.heap.size := Nat.le_trans hn hB1.size
      have hKl : K.length ≤ 999999 := by rw [hp.length_eq, tagF_len, List.length_take]; omega
      have hput := put_any HO.out (hP.keep hbel) hH hKl (Nat.le_trans hnr hbel.size) x
      have HFIN : Hid (∀ w', (∃ g cap K', PAt w' n0 B g cap K' ∧ HeapL bt K'.length K' ∧ K'.Perm (K ++ [(x, (K.length : Int))]) ∧ Below n0 (wr.alloc (.cells #[.string x.n, .string x.v, .int .i64 x.o, .bool x.im, .int .i64 x.a, .int .i64 x.b, .int .i64 x.c, .int .i64 x.k] 26)) w') → FdGo n0 B w (l.take (i + 1)) w') := fun w' h => by
        obtain ⟨g, cap, K', a1, a2, a3, a4⟩ := h
        rw [HX.out]
        exact FdGo.push hp ⟨(hB1.trans (hbel.mono hnr)).trans a4, g, cap, K', a1, a2, a3⟩
      clear HX hx hbel hP hH hp hB1 hKl HJ
      unfold E8.val at hput
      obtain ⟨xn, xv, xo, xi, xa, xb, xc, xk⟩ := x
      dsimp only at *
      go_wp2_with (go_at_call 27; fail)
      refine hput.mono ?_
      rintro e w1 ⟨⟨v1, rfl⟩, hE⟩
      have HE := hid_mk (HFIN.out w1 hE)
      clear hput hE HFIN c0 c1 c2 c3 c4 c5 c6 c7
      go_wp2
      refine ⟨⟨i + 1, by omega, by simp, HE.out⟩, ?_⟩
      simp only [intOf]
      omega
    · have hd : decide ((i : Int) < (n : Int)) = false := decide_eq_false (by omega)
      have hin : i = n := by omega
      subst hin
      have HE : Hid (FdGo n0 B w l wr) := by
        have := HJ.out
        rwa [HNL.out, List.take_length] at this
      clear HJ
      go_wp2
      go_end0
      exact ⟨⟨_, rfl⟩, HE.out⟩
/-- Has it that name? -/
def nmd (name : ByteArray) (x : E8) : Bool := x.n.toList == name.toList
set_option maxHeartbeats 4000000 in
theorem feedNamed_any (o : Ord bt) (name : ByteArray) {w : World} {n0 B : Nat} {a : Option Addr} {c : Nat} {l : List E8} (h : FdGo n0 B w [] w) (hl : ∀ w', Below n0 w w' → EsAt w' a c l) (hL : l.length ≤ 900000) (hn : n0 ≤ w.heap.size) : Calls Try.prog 31 #[.slice a l.length c, .string name, .func (.func 27) #[.pointer (some ⟨B, 0, none⟩)] #[]] w fun e w' => (∃ v, e = .returned v) ∧ FdGo n0 B w (l.filter (nmd name)) w' := by
  have HO := hid_mk o
  have HL := hid_mk hl
  have hcap := (hl w (Below.refl _ _)).cap
  have HST := hid_mk h
  clear h hl o
  obtain ⟨n, hnl⟩ : ∃ n, n = l.length := ⟨_, rfl⟩
  have HNL := hid_mk hnl
  rw [← hnl] at hcap hL ⊢
  clear hnl
  go_enter Try.func31, Try.ntmps31
  go_wp2
  go_loopw [10] (fun a8 wr => ∃ i : Nat, i ≤ n ∧ a8 = .int .i64 (i : Int) ∧ Hid (FdGo n0 B w ((l.take i).filter (nmd name)) wr)) (fun a8 _ => n + 1 - (intOf a8).toNat)
  case atStart => exact ⟨0, Nat.zero_le _, rfl, HST.out⟩
  case round =>
    obtain ⟨i, hi, rfl, HJ⟩ := hrel
    by_cases hlt : i < n
    · have hd : decide ((i : Int) < (n : Int)) = true := decide_eq_true (by omega)
      have hil : i < l.length := by rw [← HNL.out]; exact hlt
      obtain ⟨b, off, rfl, hb, c0, c1, c2, c3, c4, c5, c6, c7⟩ := (HL.out wr HJ.out.1).at hil
      obtain ⟨x, hx⟩ : ∃ x, x = l[i] := ⟨_, rfl⟩
      rw [← hx] at c0 c1 c2 c3 c4 c5 c6 c7
      have HX0 : Hid (l.take (i + 1) = l.take i ++ [x]) := by
        show _ = _
        rw [hx, List.take_append_getElem]
      cases hnm : nmd name x with
      | false =>
        have HX : Hid ((l.take (i + 1)).filter (nmd name) = (l.take i).filter (nmd name)) := by
          show _ = _
          rw [HX0.out, List.filter_append]
          simp [hnm]
        have hbel : Below wr.heap.size wr (wr.alloc (.cells #[.string x.n, .string x.v, .int .i64 x.o, .bool x.im, .int .i64 x.a, .int .i64 x.b, .int .i64 x.c, .int .i64 x.k] 26)) := (Below.refl _ _).alloc (Nat.le_refl _) _
        obtain ⟨hB1, K, hP, hH, hp⟩ := HJ.out
        have HE : Hid (FdGo n0 B w ((l.take (i + 1)).filter (nmd name)) (wr.alloc (.cells #[.string x.n, .string x.v, .int .i64 x.o, .bool x.im, .int .i64 x.a, .int .i64 x.b, .int .i64 x.c, .int .i64 x.k] 26))) := by
          rw [HX.out]
          exact ⟨hB1.trans (hbel.mono (Nat.le_trans hn hB1.size)), K, hP.keep hbel, hH, hp⟩
        unfold nmd at hnm
        clear HX HX0 hx hbel hP hH hp hB1 HJ
        obtain ⟨xn, xv, xo, xi, xa, xb, xc, xk⟩ := x
        dsimp only at *
        go_wp2
        refine ⟨⟨i + 1, by omega, by simp, HE.out⟩, ?_⟩
        simp only [intOf]
        omega
      | true =>
      have HX : Hid ((l.take (i + 1)).filter (nmd name) = (l.take i).filter (nmd name) ++ [x]) := by
        show _ = _
        rw [HX0.out, List.filter_append]
        simp [hnm]
      have hbel : Below wr.heap.size wr (wr.alloc (.cells #[.string x.n, .string x.v, .int .i64 x.o, .bool x.im, .int .i64 x.a, .int .i64 x.b, .int .i64 x.c, .int .i64 x.k] 26)) := (Below.refl _ _).alloc (Nat.le_refl _) _
      obtain ⟨hB1, K, hP, hH, hp⟩ := HJ.out
      have hnr : n0 ≤ wr.heap.size := Nat.le_trans hn hB1.size
      have hKl : K.length ≤ 999999 := by rw [hp.length_eq, tagF_len]; exact Nat.le_trans (List.length_filter_le _ _) (by rw [List.length_take]; omega)
      have hput := put_any HO.out (hP.keep hbel) hH hKl (Nat.le_trans hnr hbel.size) x
      have HFIN : Hid (∀ w', (∃ g cap K', PAt w' n0 B g cap K' ∧ HeapL bt K'.length K' ∧ K'.Perm (K ++ [(x, (K.length : Int))]) ∧ Below n0 (wr.alloc (.cells #[.string x.n, .string x.v, .int .i64 x.o, .bool x.im, .int .i64 x.a, .int .i64 x.b, .int .i64 x.c, .int .i64 x.k] 26)) w') → FdGo n0 B w ((l.take (i + 1)).filter (nmd name)) w') := fun w' h => by
        obtain ⟨g, cap, K', a1, a2, a3, a4⟩ := h
        rw [HX.out]
        exact FdGo.push hp ⟨(hB1.trans (hbel.mono hnr)).trans a4, g, cap, K', a1, a2, a3⟩
      clear HX HX0 hx hbel hP hH hp hB1 hKl HJ
      unfold E8.val at hput
      unfold nmd at hnm
      obtain ⟨xn, xv, xo, xi, xa, xb, xc, xk⟩ := x
      dsimp only at *
      go_wp2_with (go_at_call 27; fail)
      refine hput.mono ?_
      rintro e w1 ⟨⟨v1, rfl⟩, hE⟩
      have HE := hid_mk (HFIN.out w1 hE)
      clear hput hE HFIN c0 c1 c2 c3 c4 c5 c6 c7
      go_wp2
      refine ⟨⟨i + 1, by omega, by simp, HE.out⟩, ?_⟩
      simp only [intOf]
      omega
    · have hd : decide ((i : Int) < (n : Int)) = false := decide_eq_false (by omega)
      have hin : i = n := by omega
      subst hin
      have HE : Hid (FdGo n0 B w (l.filter (nmd name)) wr) := by
        have := HJ.out
        rwa [HNL.out, List.take_length] at this
      clear HJ
      go_wp2
      go_end0
      exact ⟨⟨_, rfl⟩, HE.out⟩
end Go.Proofs.Ytmpppijgjbfolaa.C
