/- bucket.Last of any selector. bucket.Last of any selector: the key. bucket.Last, and the document's, of any selector. -/
import Derived.Test.YtdgkhpkgjkpmnaaGreatDoorLId
namespace Go.Proofs.YtdgkhpkgjkpmnaaGreatDoor.L
open Go.RowKit
set_option maxRecDepth 100000

/-- Does a simple selector ask for a name of that kind? -/
def star (s : S6) : Bool := s.k == 1 && (s.nm.toList == [42])
def fitK (k : Int) (s : S6) : Bool := s.k == k && !star s
def idxK (k : Int) : List S6 → Nat → Int
  | [], _ => -1
  | s :: r, i => if fitK k s = true then (i : Int) else idxK k r (i + 1)
def findK (k : Int) : List S6 → Option ByteArray
  | [] => none
  | s :: r => if fitK k s = true then some s.nm else findK k r
def lastP (p : List S6) : Int × ByteArray := match findK 3 p with
  | some n => (3, n)
  | none => match findK 2 p with
    | some n => (2, n)
    | none => match findK 1 p with
      | some n => (1, n)
      | none => (0, ⟨#[]⟩)
def lastZ (c : Cx) : Int × ByteArray := match c.parts.getLast? with
  | none => (0, ⟨#[]⟩)
  | some p => lastP (p.map Prod.fst)
/-- A compound selector in memory. -/
def PSee (W : World) (q : Value) (p : List S6) : Prop := ∃ b off, Sl W q p.length b off ∧ ∀ t (h : t < p.length), ∃ la ln lc, ∀ y u, (s7 (p[t]'h) (.slice la ln lc))[y]? = some u → W.cell? ⟨b, off + t * 7 + y, none⟩ = some u
theorem PSee.keep {W W' : World} {q : Value} {p : List S6} (h : PSee W q p) (hb : Below W.heap.size W W') : PSee W' q p := by
  obtain ⟨b, off, h1, h2⟩ := h
  refine ⟨b, off, h1.keep hb, fun t ht => ?_⟩
  obtain ⟨la, ln, lc, h3⟩ := h2 t ht
  exact ⟨la, ln, lc, fun y u hu => by rw [h1.cell hb (by omega)]; exact h3 y u hu⟩
def sV (s : S6) (la : Option Addr) (ln lc : Nat) : Value := .agg #[.int .i64 s.k, .string s.nm, .int .i64 s.op, .string s.v, .int .i64 s.a, .int .i64 s.b, .slice la ln lc]
theorem cells7v {W : World} {b : Nat} {x0 x1 x2 x3 x4 x5 x6 : Value} {T : TypeId} (h : W.heap[b]? = some (.cells #[x0, x1, x2, x3, x4, x5, x6] T (0, 0))) :
    W.cell? ⟨b, 0, none⟩ = some x0 ∧ W.cell? ⟨b, 1, none⟩ = some x1 ∧ W.cell? ⟨b, 2, none⟩ = some x2 ∧ W.cell? ⟨b, 3, none⟩ = some x3 ∧ W.cell? ⟨b, 4, none⟩ = some x4 ∧ W.cell? ⟨b, 5, none⟩ = some x5 ∧ W.cell? ⟨b, 6, none⟩ = some x6 :=
  ⟨cellAt h 0, cellAt h 1, cellAt h 2, cellAt h 3, cellAt h 4, cellAt h 5, cellAt h 6⟩

set_option maxHeartbeats 400000 in
theorem anyTag_any (W : World) (s : S6) (la : Option Addr) (ln lc : Nat) : Calls Tryz.prog 16 #[sV s la ln lc] W fun e w' => e = .returned (.bool (star s)) ∧ Below W.heap.size W w' := by
  obtain ⟨k, nm, op, v, a, b⟩ := s
  have HB : Hid (Below W.heap.size W (W.alloc (.cells #[.int .i64 k, .string nm, .int .i64 op, .string v, .int .i64 a, .int .i64 b, .slice la ln lc] 34))) := (Below.refl _ _).alloc (Nat.le_refl _) _
  have HE : Hid (star ⟨k, nm, op, v, a, b⟩ = (k == 1 && (nm.toList == [42]))) := rfl
  rw [HE.out]
  unfold sV
  clear HE
  cases hk : (k == 1)
  · go_enter Tryz.func16, Tryz.ntmps16
    go_wp2
    go_ret
    exact ⟨rfl, HB.out⟩
  · go_enter Tryz.func16, Tryz.ntmps16
    go_wp2
    go_ret
    exact ⟨rfl, HB.out⟩

set_option maxHeartbeats 400000 in
theorem clo_any {W : World} {kb : Nat} {kind : Int} (hk : W.heap[kb]? = some (.cells #[.int .i64 kind] 3 (0, 0))) (s : S6) (la : Option Addr) (ln lc : Nat) : Calls Tryz.prog 15 #[sV s la ln lc, .pointer (some ⟨kb, 0, none⟩)] W fun e w' => e = .returned (.bool (fitK kind s)) ∧ Below W.heap.size W w' := by
  have ht := fun w => anyTag_any w s la ln lc
  have HE : Hid (fitK kind s = (s.k == kind && !star s)) := rfl
  rw [HE.out]
  generalize star s = st at *
  obtain ⟨k, nm, op, v, a, b⟩ := s
  unfold sV at ht ⊢
  dsimp only at ht ⊢
  have hkl : kb < W.heap.size := (Array.getElem?_eq_some_iff.1 hk).1
  obtain ⟨W1, hW1⟩ : ∃ W1, W1 = W.alloc (.cells #[.int .i64 k, .string nm, .int .i64 op, .string v, .int .i64 a, .int .i64 b, .slice la ln lc] 34) := ⟨_, rfl⟩
  have hB : Below W.heap.size W W1 := by rw [hW1]; exact (Below.refl _ _).alloc (Nat.le_refl _) _
  have x0 : W1.heap[W.heap.size]? = some (.cells #[.int .i64 k, .string nm, .int .i64 op, .string v, .int .i64 a, .int .i64 b, .slice la ln lc] 34 (0, 0)) := by rw [hW1]; exact heap_alloc_last W _
  obtain ⟨c0, c1, c2, c3, c4, c5, c6⟩ := cells7v x0
  have d0 : W1.cell? ⟨kb, 0, none⟩ = some (.int .i64 kind) := (hB.cell (p := ⟨kb, 0, none⟩) hkl).trans (cellAt hk 0)
  have HB := hid_mk hB
  have HW := hid_mk hW1
  clear hB x0 hk hW1 HE
  cases hkk : (k == kind)
  · go_enter Tryz.func15, Tryz.ntmps15
    go_upto_region 1 with (fail)
    rw [← HW.out]
    go_wp2
    go_ret
    exact ⟨rfl, HB.out⟩
  · have htt := ht W1
    clear ht
    go_enter Tryz.func15, Tryz.ntmps15
    go_upto_region 1 with (fail)
    rw [← HW.out]
    go_wp2_with (go_at_call 16; fail)
    refine htt.mono ?_
    rintro e w2 ⟨rfl, hB2⟩
    have HB2 : Hid (Below W.heap.size W w2) := HB.out.trans (hB2.mono HB.out.size)
    clear htt hB2
    go_wp2
    go_ret
    exact ⟨by cases st <;> rfl, HB2.out⟩
theorem idxK_step (k : Int) : ∀ (p : List S6) (i t : Nat) (h : t < p.length), idxK k (p.drop t) (i + t) = if fitK k (p[t]'h) = true then ((i + t : Nat) : Int) else idxK k (p.drop (t + 1)) (i + (t + 1)) := fun p i t h => by
  rw [List.drop_eq_getElem_cons h, idxK]
  rfl

set_option maxHeartbeats 400000 in
theorem index_any {W : World} {kb : Nat} {kind : Int} {q : Value} {p : List S6} (hk : W.heap[kb]? = some (.cells #[.int .i64 kind] 3 (0, 0))) (hq : PSee W q p) : Calls Tryz.prog 14 #[q, .func (.func 15) #[] #[.pointer (some ⟨kb, 0, none⟩)]] W fun e w' => e = .returned (.int .i64 (idxK kind p 0)) ∧ Below W.heap.size W w' := by
  have hkl : kb < W.heap.size := (Array.getElem?_eq_some_iff.1 hk).1
  obtain ⟨b, off, ⟨a, cap, rfl, hc1, hc2, hsa⟩, hat⟩ := hq
  have HC : Hid (∀ w', Below W.heap.size W w' → ∀ s la ln lc, Calls Tryz.prog 15 #[sV s la ln lc, .pointer (some ⟨kb, 0, none⟩)] w' fun e w'' => e = .returned (.bool (fitK kind s)) ∧ Below w'.heap.size w' w'') := fun w' hB s la ln lc => clo_any ((hB.block kb hkl).trans hk) s la ln lc
  have HAT := hid_mk hat
  have HSA := hid_mk hsa
  have H0 : Hid (idxK kind (p.drop 0) (0 + 0) = idxK kind p 0) := rfl
  have HST := hid_mk (fun t h => idxK_step kind p 0 t h)
  obtain ⟨N, hN⟩ : ∃ N, N = p.length := ⟨_, rfl⟩
  rw [← hN] at hc1 ⊢
  have HN := hid_mk hN
  have hN9 : N ≤ 9223372036854775807 := by omega
  generalize idxK kind p 0 = R at *
  clear hk hat hsa hN
  go_enter Tryz.func14, Tryz.ntmps14
  go_wp2
  go_loopw [8] (fun a8 wq => ∃ t : Nat, t ≤ N ∧ a8 = .int .i64 (t : Int) ∧ Hid (idxK kind (p.drop t) (0 + t) = R) ∧ Hid (Below W.heap.size W wq)) (fun a8 _ => N + 1 - (intOf a8).toNat)
  case atStart => exact ⟨0, Nat.zero_le _, rfl, H0, Below.refl _ _⟩
  case round =>
    obtain ⟨t, ht, rfl, HE, HB⟩ := hrel
    clear H0
    by_cases htl : t < N
    · have htl' : t < p.length := by have := HN.out; omega
      obtain ⟨rfl, hbw⟩ := HSA.out (by omega)
      obtain ⟨la, ln, lc, hcell⟩ := HAT.out t htl'
      have hstep := HST.out t htl'
      have hcl := HC.out wr HB.out (p[t]'htl') la ln lc
      generalize p[t]'htl' = s at *
      have k0 := (HB.out.cell (p := ⟨b, off + t * 7 + 0, none⟩) hbw).trans (hcell 0 _ rfl)
      have k1 := (HB.out.cell (p := ⟨b, off + t * 7 + 1, none⟩) hbw).trans (hcell 1 _ rfl)
      have k2 := (HB.out.cell (p := ⟨b, off + t * 7 + 2, none⟩) hbw).trans (hcell 2 _ rfl)
      have k3 := (HB.out.cell (p := ⟨b, off + t * 7 + 3, none⟩) hbw).trans (hcell 3 _ rfl)
      have k4 := (HB.out.cell (p := ⟨b, off + t * 7 + 4, none⟩) hbw).trans (hcell 4 _ rfl)
      have k5 := (HB.out.cell (p := ⟨b, off + t * 7 + 5, none⟩) hbw).trans (hcell 5 _ rfl)
      have k6 := (HB.out.cell (p := ⟨b, off + t * 7 + 6, none⟩) hbw).trans (hcell 6 _ rfl)
      rw [Nat.add_zero] at k0
      have hd1 : (t : Int) < (N : Int) := by omega
      have HS := hid_mk hstep
      generalize fitK kind s = fb at *
      obtain ⟨sk, snm, sop, sv, sa, sb⟩ := s
      unfold sV at hcl
      dsimp only at hcl k0 k1 k2 k3 k4 k5 k6
      clear hcell hstep
      go_wp2_with (go_at_call 15; fail)
      refine hcl.mono ?_
      rintro e w2 ⟨rfl, hB2⟩
      have HB2 : Hid (Below W.heap.size W w2) := HB.out.trans (hB2.mono HB.out.size)
      clear hcl hB2 k0 k1 k2 k3 k4 k5 k6
      cases fb with
      | true =>
        have HR : Hid (R = (t : Int)) := by rw [Hid, ← HE.out, HS.out, if_pos rfl, Nat.zero_add]
        clear HS HE
        go_wp2
        go_ret
        exact ⟨by rw [HR.out]; rfl, HB2.out⟩
      | false =>
        have HR : Hid (idxK kind (p.drop (t + 1)) (0 + (t + 1)) = R) := by rw [Hid, ← HE.out, HS.out, if_neg (by decide)]
        clear HS HE
        go_wp2
        exact ⟨⟨t + 1, by omega, by go_num, HR, HB2⟩, by simp only [intOf]; omega⟩
    · have hte : t = N := by omega
      subst hte
      have HR : Hid (R = -1) := by rw [Hid, ← HE.out, List.drop_eq_nil_of_le (by rw [HN.out]; exact Nat.le_refl _)]; rfl
      clear HE htl
      go_wp2
      go_ret
      exact ⟨by rw [HR.out]; rfl, HB.out⟩
end Go.Proofs.YtdgkhpkgjkpmnaaGreatDoor.L
namespace Go.Proofs.YtdgkhpkgjkpmnaaGreatDoor.L
open Go.RowKit
set_option maxRecDepth 100000

theorem idx_find (k : Int) : ∀ (p : List S6) (i : Nat), (idxK k p i = -1 ∧ findK k p = none) ∨ ∃ j, ∃ h : j < p.length, idxK k p i = ((i + j : Nat) : Int) ∧ findK k p = some (p[j]'h).nm
  | [], _ => .inl ⟨rfl, rfl⟩
  | s :: r, i => by
    by_cases h : fitK k s = true
    · exact .inr ⟨0, by simp, by rw [idxK, if_pos h]; rfl, by rw [findK, if_pos h]; rfl⟩
    · rcases idx_find k r (i + 1) with ⟨h1, h2⟩ | ⟨j, hj, h1, h2⟩
      · exact .inl ⟨by rw [idxK, if_neg h]; exact h1, by rw [findK, if_neg h]; exact h2⟩
      · exact .inr ⟨j + 1, by simpa using hj, by rw [idxK, if_neg h, h1]; congr 1; omega, by rw [findK, if_neg h, h2]; rfl⟩
/-- The parts of a selector in memory. -/
def LSee (W : World) (pv : Value) (ps : List (List S6)) : Prop := ∃ b off, Sl W pv ps.length b off ∧ ∀ j (h : j < ps.length), ∃ qa qc, W.cell? ⟨b, off + j, none⟩ = some (.slice qa (ps[j]'h).length qc) ∧ PSee W (.slice qa (ps[j]'h).length qc) (ps[j]'h)
def lastQ (ps : List (List S6)) : Int × ByteArray := match ps.getLast? with
  | none => (0, ⟨#[]⟩)
  | some p => lastP p
theorem arr_0 (w : World) : (Instr.index 50 (.agg #[.int .i64 3, .int .i64 2, .int .i64 1]) (.int .i64 0)).run Tryz.prog w = .ok (.int .i64 3) w := by kernel_rfl
theorem arr_1 (w : World) : (Instr.index 50 (.agg #[.int .i64 3, .int .i64 2, .int .i64 1]) (.int .i64 1)).run Tryz.prog w = .ok (.int .i64 2) w := by kernel_rfl
theorem arr_2 (w : World) : (Instr.index 50 (.agg #[.int .i64 3, .int .i64 2, .int .i64 1]) (.int .i64 2)).run Tryz.prog w = .ok (.int .i64 1) w := by kernel_rfl
theorem cells2v {W : World} {b : Nat} {x0 x1 : Value} {T : TypeId} (h : W.heap[b]? = some (.cells #[x0, x1] T (0, 0))) : W.cell? ⟨b, 0, none⟩ = some x0 ∧ W.cell? ⟨b, 1, none⟩ = some x1 ∧ W.frozen? ⟨b, 0, none⟩ = false ∧ W.frozen? ⟨b, 1, none⟩ = false :=
  ⟨cellAt h 0, cellAt h 1, by simp [World.frozen?, h], by simp [World.frozen?, h]⟩
theorem below_set2 {B : Nat} {W w : World} (h : Below B W w) {o : Nat} (ho : B ≤ o) (x y : Value) : Below B W ((w.setCell ⟨o, 0, none⟩ x).setCell ⟨o, 1, none⟩ y) := (h.setCell (p := ⟨o, 0, none⟩) ho x).setCell (p := ⟨o, 1, none⟩) ho y

set_option maxHeartbeats 1000000 in
theorem key_any {W : World} {pv cv : Value} {ps : List (List S6)} (h : LSee W pv ps) (hcv : ∃ ca cn cc, cv = .slice ca cn cc) : Calls Tryz.prog 9 #[.agg #[pv, cv]] W fun e w' => e = .returned (.agg #[.int .i64 (lastQ ps).1, .string (lastQ ps).2]) ∧ Below W.heap.size W w' := by
  obtain ⟨ca, cn, cc, rfl⟩ := hcv
  obtain ⟨b, off, ⟨a, cap, rfl, hc1, hc2, hsa⟩, hat⟩ := h
  obtain ⟨W1, hW1⟩ : ∃ W1, W1 = (W.alloc (.cells #[.slice a ps.length cap, .slice ca cn cc] 25)).alloc (.cells #[.int .i64 0, .string ⟨#[]⟩] 39) := ⟨_, rfl⟩
  have hB1 : Below W.heap.size W W1 := by rw [hW1]; exact ((Below.refl _ _).alloc (Nat.le_refl _) _).alloc (by simp) _
  have x0 : W1.heap[W.heap.size]? = some (.cells #[.slice a ps.length cap, .slice ca cn cc] 25 (0, 0)) := by
    rw [hW1, Below.heap_alloc _ _ _ (by simp)]
    exact heap_alloc_last W _
  have x1 : W1.heap[W.heap.size + 1]? = some (.cells #[.int .i64 0, .string ⟨#[]⟩] 39 (0, 0)) := by
    have e : W.heap.size + 1 = (W.alloc (.cells #[.slice a ps.length cap, .slice ca cn cc] 25)).heap.size := by simp
    rw [hW1, e]
    exact heap_alloc_last _ _
  have hsz1 : W1.heap.size = W.heap.size + 2 := by rw [hW1]; simp
  have HW1 := hid_mk hW1
  rcases List.eq_nil_or_concat ps with hps | ⟨init, p, hps⟩
  · subst hps
    rw [show lastQ [] = (0, ⟨#[]⟩) from rfl]
    obtain ⟨k0, k1, _, _⟩ := cells2v x0
    obtain ⟨r0, r1, f0, f1⟩ := cells2v x1
    have HB := hid_mk hB1
    clear hat hsa hW1 hB1 x0 x1 hsz1
    simp only [List.length_nil] at HW1 k0 hc1 ⊢
    go_enter Tryz.func9, Tryz.ntmps9
    go_upto_region 1 with (fail)
    rw [← HW1.out]
    go_wp2
    exact bodyPost_ret (v := .agg #[.int .i64 0, .string ⟨#[]⟩]) (by simp [results, Tryz.results9, go_sem, r0, r1]) rfl ⟨rfl, below_set2 HB.out (by omega) _ _⟩
  rw [List.concat_eq_append] at hps
  subst hps
  obtain ⟨m, hm⟩ : ∃ m, m = init.length := ⟨_, rfl⟩
  have hlen : (init ++ [p]).length = m + 1 := by rw [List.length_append, hm]; rfl
  have hlast : lastQ (init ++ [p]) = lastP p := by unfold lastQ; rw [List.getLast?_concat]
  obtain ⟨qa, qc, hq, hps⟩ := hat m (by omega)
  have ep : (init ++ [p])[m]'(by omega) = p := by simp [hm]
  rw [ep] at hq hps
  obtain ⟨rfl, hbw⟩ := hsa (by omega)
  have q0 : W1.cell? ⟨b, off + m, none⟩ = some (.slice qa p.length qc) := (hB1.cell (p := ⟨b, off + m, none⟩) hbw).trans hq
  rw [hlast]
  rw [hlen] at hc1 x0 HW1 ⊢
  have hwrap : IntKind.i64.wrap (((m + 1 : Nat) : Int) - 1) = (m : Int) := by rw [IntKind.wrap_i64] <;> omega
  have hm1 : ((((m + 1 : Nat) : Int)) == 0) = false := by rw [beq_eq_false_iff_ne]; omega
  have hlt1 : (m : Int) < ((m + 1 : Nat) : Int) := by omega
  obtain ⟨k0, k1, _, _⟩ := cells2v x0
  have HPS := hid_mk hps
  have HX1 := hid_mk x1
  have HB1 := hid_mk hB1
  have HS1 := hid_mk hsz1
  have HI : Hid (∀ k w, Below W.heap.size W w → Calls Tryz.prog 14 #[.slice qa p.length qc, .func (.func 15) #[] #[.pointer (some ⟨w.heap.size, 0, none⟩)]] (w.alloc (.cells #[.int .i64 k] 3)) fun e w' => e = .returned (.int .i64 (idxK k p 0)) ∧ Below w.heap.size w w' ∧ w'.heap[w.heap.size]? = some (.cells #[.int .i64 k] 3 (0, 0))) := fun k w hB => by
    have hBa : Below w.heap.size w (w.alloc (.cells #[.int .i64 k] 3)) := (Below.refl _ _).alloc (Nat.le_refl _) _
    refine (index_any (heap_alloc_last w _) (hps.keep (hB.trans (hBa.mono hB.size)))).mono fun e w' q => ⟨q.1, hBa.trans (q.2.mono hBa.size), ?_⟩
    rw [q.2.block _ (by simp)]
    exact heap_alloc_last w _
  have HF := hid_mk (fun k => idx_find k p 0)
  have HNM : Hid (∀ w', Below W.heap.size W w' → ∀ j (hj : j < p.length), ∃ qb qo, qa = some ⟨qb, qo, none⟩ ∧ w'.cell? ⟨qb, qo + j * 7 + 1, none⟩ = some (.string (p[j]'hj).nm)) := fun w' hB j hj => by
    obtain ⟨qb, qo, ⟨a', c', e, _, _, h3⟩, h4⟩ := hps.keep hB
    cases e
    obtain ⟨_, _, _, h5⟩ := h4 j hj
    exact ⟨qb, qo, (h3 (by omega)).1, h5 1 _ rfl⟩
  have HLP : Hid (lastP p = match findK 3 p with | some n => (3, n) | none => match findK 2 p with | some n => (2, n) | none => match findK 1 p with | some n => (1, n) | none => (0, ⟨#[]⟩)) := rfl
  have i0 := arr_0
  have i1 := arr_1
  have i2 := arr_2
  generalize lastP p = R at *
  obtain ⟨N, hN⟩ : ∃ N, N = p.length := ⟨_, rfl⟩
  have HN := hid_mk hN
  rw [← hN] at q0 HI
  clear hat hsa hlen hlast hq hps ep hW1 hB1 x0 x1 hsz1 hm hN
  go_enter Tryz.func9, Tryz.ntmps9
  go_upto_region 1 with (fail)
  rw [← HW1.out]
  clear HW1
  go_wp2
  refine wp_loop_rounds 4 ?_
  have hix := HI.out 3 W1 HB1.out
  rw [rounds_succ]
  go_wp2_with (go_at_call 14; fail)
  refine hix.mono ?_
  rintro e wa0 ⟨rfl, hb, hkc⟩
  have HB0' : Hid (Below W.heap.size W wa0) := HB1.out.trans (hb.mono HB1.out.size)
  have HX0' : Hid (wa0.heap[W.heap.size + 1]? = some (.cells #[.int .i64 0, .string ⟨#[]⟩] 39 (0, 0))) := (hb.block _ (Array.getElem?_eq_some_iff.1 HX1.out).1).trans HX1.out
  have hkk : wa0.cell? ⟨W1.heap.size, 0, none⟩ = some (.int .i64 3) := cellAt hkc 0
  clear hix hb hkc
  rcases HF.out 3 with ⟨e1, e2⟩ | ⟨j, hj, e1, e2⟩
  case inr =>
    rw [Nat.zero_add] at e1
    obtain ⟨qb, qo, rfl, hnm⟩ := HNM.out wa0 HB0'.out j hj
    have HR : Hid (R = (3, (p[j]'hj).nm)) := by
      rw [Hid, HLP.out]
      simp only [e2]
    have hjN : (j : Int) < (N : Int) := by have := HN.out; omega
    have hj0 : (0 : Int) ≤ (j : Int) := by omega
    have hd0 : decide ((0 : Int) ≤ (j : Int)) = true := decide_eq_true hj0
    generalize (p[j]'hj).nm = nm at *
    obtain ⟨r0, r1, f0, f1⟩ := cells2v HX0'.out
    rw [e1]
    clear HI HF HNM HLP e1 e2 i0 i1 i2 q0 k0 k1
    go_upto_region 9 with (fail)
    go_region
    all_goals go_wp2
    all_goals rw [HR.out]
    all_goals exact bodyPost_ret (v := .agg #[.int .i64 3, .string nm]) (by simp [results, Tryz.results9, go_sem, r0, r1]) rfl ⟨rfl, (below_set2 HB0'.out (by omega) _ _).drew⟩
  case inl =>
  rw [e1]
  have z3 := e2
  clear e1 e2 hkk
  go_wp2
  have hix := HI.out 2 wa0 HB0'.out
  rw [rounds_succ]
  go_wp2_with (go_at_call 14; fail)
  refine hix.mono ?_
  rintro e wa1 ⟨rfl, hb, hkc⟩
  have HB1' : Hid (Below W.heap.size W wa1) := HB0'.out.trans (hb.mono HB0'.out.size)
  have HX1' : Hid (wa1.heap[W.heap.size + 1]? = some (.cells #[.int .i64 0, .string ⟨#[]⟩] 39 (0, 0))) := (hb.block _ (Array.getElem?_eq_some_iff.1 HX0'.out).1).trans HX0'.out
  have hkk : wa1.cell? ⟨wa0.heap.size, 0, none⟩ = some (.int .i64 2) := cellAt hkc 0
  clear hix hb hkc
  rcases HF.out 2 with ⟨e1, e2⟩ | ⟨j, hj, e1, e2⟩
  case inr =>
    rw [Nat.zero_add] at e1
    obtain ⟨qb, qo, rfl, hnm⟩ := HNM.out wa1 HB1'.out j hj
    have HR : Hid (R = (2, (p[j]'hj).nm)) := by
      rw [Hid, HLP.out]
      simp only [z3, e2]
    have hjN : (j : Int) < (N : Int) := by have := HN.out; omega
    have hj0 : (0 : Int) ≤ (j : Int) := by omega
    have hd0 : decide ((0 : Int) ≤ (j : Int)) = true := decide_eq_true hj0
    generalize (p[j]'hj).nm = nm at *
    obtain ⟨r0, r1, f0, f1⟩ := cells2v HX1'.out
    rw [e1]
    clear HI HF HNM HLP e1 e2 i0 i1 i2 q0 k0 k1
    go_upto_region 9 with (fail)
    go_region
    all_goals go_wp2
    all_goals rw [HR.out]
    all_goals exact bodyPost_ret (v := .agg #[.int .i64 2, .string nm]) (by simp [results, Tryz.results9, go_sem, r0, r1]) rfl ⟨rfl, (below_set2 HB1'.out (by omega) _ _).drew⟩
  case inl =>
  rw [e1]
  have z2 := e2
  clear e1 e2 hkk
  go_wp2
  have hix := HI.out 1 wa1 HB1'.out
  rw [rounds_succ]
  go_wp2_with (go_at_call 14; fail)
  refine hix.mono ?_
  rintro e wa2 ⟨rfl, hb, hkc⟩
  have HB2' : Hid (Below W.heap.size W wa2) := HB1'.out.trans (hb.mono HB1'.out.size)
  have HX2' : Hid (wa2.heap[W.heap.size + 1]? = some (.cells #[.int .i64 0, .string ⟨#[]⟩] 39 (0, 0))) := (hb.block _ (Array.getElem?_eq_some_iff.1 HX1'.out).1).trans HX1'.out
  have hkk : wa2.cell? ⟨wa1.heap.size, 0, none⟩ = some (.int .i64 1) := cellAt hkc 0
  clear hix hb hkc
  rcases HF.out 1 with ⟨e1, e2⟩ | ⟨j, hj, e1, e2⟩
  case inr =>
    rw [Nat.zero_add] at e1
    obtain ⟨qb, qo, rfl, hnm⟩ := HNM.out wa2 HB2'.out j hj
    have HR : Hid (R = (1, (p[j]'hj).nm)) := by
      rw [Hid, HLP.out]
      simp only [z3, z2, e2]
    have hjN : (j : Int) < (N : Int) := by have := HN.out; omega
    have hj0 : (0 : Int) ≤ (j : Int) := by omega
    have hd0 : decide ((0 : Int) ≤ (j : Int)) = true := decide_eq_true hj0
    generalize (p[j]'hj).nm = nm at *
    obtain ⟨r0, r1, f0, f1⟩ := cells2v HX2'.out
    rw [e1]
    clear HI HF HNM HLP e1 e2 i0 i1 i2 q0 k0 k1
    go_upto_region 9 with (fail)
    go_region
    all_goals go_wp2
    all_goals rw [HR.out]
    all_goals exact bodyPost_ret (v := .agg #[.int .i64 1, .string nm]) (by simp [results, Tryz.results9, go_sem, r0, r1]) rfl ⟨rfl, (below_set2 HB2'.out (by omega) _ _).drew⟩
  case inl =>
  rw [e1]
  have z1 := e2
  clear e1 e2 hkk
  go_wp2
  have HR : Hid (R = (0, ⟨#[]⟩)) := by
    rw [Hid, HLP.out]
    simp only [z3, z2, z1]
  obtain ⟨r0, r1, f0, f1⟩ := cells2v HX2'.out
  clear HI HF HNM HLP i0 i1 i2 q0 k0 k1 z1 z2 z3
  rw [rounds_succ]
  go_wp2
  rw [HR.out]
  exact bodyPost_ret (v := .agg #[.int .i64 0, .string ⟨#[]⟩]) (by simp [results, Tryz.results9, go_sem, r0, r1]) rfl ⟨rfl, below_set2 HB2'.out (by omega) _ _⟩
end Go.Proofs.YtdgkhpkgjkpmnaaGreatDoor.L
namespace Go.Proofs.YtdgkhpkgjkpmnaaGreatDoor.L
open Go.RowKit
set_option maxRecDepth 100000

theorem below_drewN {B : Nat} {a w : World} (h : Below B a w) (n : Nat) : Below B a (w.drewN n) := ⟨h.os, h.tape, h.output, h.size, h.block⟩

set_option maxHeartbeats 400000 in
theorem last_any {W : World} {pv cv : Value} {ps : List (List S6)} (h : LSee W pv ps) (hcv : ∃ ca cn cc, cv = .slice ca cn cc) : Calls Tryz.prog 6 #[.agg #[pv, cv]] W fun e w' => e = .returned (.tuple #[.int .i64 (lastQ ps).1, .string (lastQ ps).2]) ∧ Below W.heap.size W w' := by
  have hBa : Below W.heap.size W (W.alloc (.cells #[pv, cv] 25)) := (Below.refl _ _).alloc (Nat.le_refl _) _
  have h' : LSee (W.alloc (.cells #[pv, cv] 25)) pv ps := by
    obtain ⟨b, off, h1, h2⟩ := h
    refine ⟨b, off, h1.keep hBa, fun j hj => ?_⟩
    obtain ⟨qa, qc, h3, h4⟩ := h2 j hj
    exact ⟨qa, qc, by rw [h1.cell hBa (by omega)]; exact h3, h4.keep hBa⟩
  have hk := key_any h' hcv
  have hpv : ∃ a n c, pv = .slice a n c := by
    obtain ⟨_, _, ⟨a, cap, e, _⟩, _⟩ := h
    exact ⟨_, _, _, e⟩
  clear h h'
  obtain ⟨a, n, cap, rfl⟩ := hpv
  obtain ⟨ca, cn, cc, rfl⟩ := hcv
  generalize lastQ ps = R at *
  obtain ⟨Rk, Rn⟩ := R
  have HB := hid_mk hBa
  clear hBa
  go_enter Tryz.func6, Tryz.ntmps6
  go_wp2_with (go_at_call 9; fail)
  refine hk.mono ?_
  rintro e w2 ⟨rfl, hB2⟩
  have HB2 : Hid (Below W.heap.size W (w2.alloc (.cells #[.int .i64 Rk, .string Rn] 39))) := (HB.out.trans (hB2.mono HB.out.size)).alloc (by have := HB.out.size; have := hB2.size; simp at *; omega) _
  obtain ⟨w3, hw3⟩ : ∃ w3, w3 = w2.alloc (.cells #[.int .i64 Rk, .string Rn] 39) := ⟨_, rfl⟩
  have x3 : w3.heap[w2.heap.size]? = some (.cells #[.int .i64 Rk, .string Rn] 39 (0, 0)) := by rw [hw3]; exact heap_alloc_last w2 _
  obtain ⟨k0, k1, _, _⟩ := cells2v x3
  rw [← hw3] at HB2
  have HW3 := hid_mk hw3
  clear hk hB2 hw3 x3
  simp only []
  go_upto_region 2 with (fail)
  rw [← HW3.out]
  go_quiet (fail)
  go_wp2
  go_ret2
  exact ⟨rfl, below_drewN HB2.out _⟩
theorem findK_step (k : Int) : ∀ (p : List S6) (t : Nat) (h : t < p.length), findK k (p.drop t) = if fitK k (p[t]'h) = true then some (p[t]'h).nm else findK k (p.drop (t + 1)) := fun p t h => by
  rw [List.drop_eq_getElem_cons h, findK]
theorem fit3 (s : S6) : fitK 3 s = (s.k == 3) := by
  unfold fitK star
  cases h : (s.k == 3)
  · rfl
  · have : s.k = 3 := by simpa using h
    rw [this]; rfl
theorem fit2 (s : S6) : fitK 2 s = (s.k == 2) := by
  unfold fitK star
  cases h : (s.k == 2)
  · rfl
  · have : s.k = 2 := by simpa using h
    rw [this]; rfl
theorem fit1 (s : S6) : fitK 1 s = (s.k == 1 && !(s.nm.toList == [42])) := by
  unfold fitK star
  cases h : (s.k == 1)
  · rfl
  · rfl
theorem cells3 {W : World} {b : Nat} {x0 x1 x2 : Value} {T : TypeId} (h : W.heap[b]? = some (.cells #[x0, x1, x2] T (0, 0))) : W.cell? ⟨b, 0, none⟩ = some x0 ∧ W.cell? ⟨b, 1, none⟩ = some x1 ∧ W.cell? ⟨b, 2, none⟩ = some x2 := ⟨cellAt h 0, cellAt h 1, cellAt h 2⟩

set_option maxHeartbeats 2000000 in
theorem rlast_any {W : World} {pv cv : Value} {ps : List (List S6)} (h : LSee W pv ps) (hcv : ∃ ca cn cc, cv = .slice ca cn cc) : Calls Tryz.prog 7 #[.agg #[pv, cv]] W fun e w' => e = .returned (.tuple #[.int .i64 (lastQ ps).1, .string (lastQ ps).2]) ∧ Below W.heap.size W w' := by
  obtain ⟨ca, cn, cc, rfl⟩ := hcv
  obtain ⟨b, off, ⟨a, cap, rfl, hc1, hc2, hsa⟩, hat⟩ := h
  obtain ⟨W1, hW1⟩ : ∃ W1, W1 = W.alloc (.cells #[.slice a ps.length cap, .slice ca cn cc] 25) := ⟨_, rfl⟩
  have hB1 : Below W.heap.size W W1 := by rw [hW1]; exact (Below.refl _ _).alloc (Nat.le_refl _) _
  have x0 : W1.heap[W.heap.size]? = some (.cells #[.slice a ps.length cap, .slice ca cn cc] 25 (0, 0)) := by rw [hW1]; exact heap_alloc_last W _
  have hsz1 : W1.heap.size = W.heap.size + 1 := by rw [hW1]; simp
  have HW1 := hid_mk hW1
  rcases List.eq_nil_or_concat ps with hps | ⟨init, p, hps⟩
  · subst hps
    rw [show lastQ [] = (0, ⟨#[]⟩) from rfl]
    obtain ⟨k0, k1, _, _⟩ := cells2v x0
    have HB := hid_mk hB1
    clear hat hsa hW1 hB1 x0 hsz1
    simp only [List.length_nil] at HW1 k0 hc1 ⊢
    go_enter Tryz.func7, Tryz.ntmps7
    go_upto_region 1 with (fail)
    rw [← HW1.out]
    go_wp2
    go_ret2
    exact ⟨rfl, HB.out⟩
  rw [List.concat_eq_append] at hps
  subst hps
  obtain ⟨m, hm⟩ : ∃ m, m = init.length := ⟨_, rfl⟩
  have hlen : (init ++ [p]).length = m + 1 := by rw [List.length_append, hm]; rfl
  have hlast : lastQ (init ++ [p]) = lastP p := by unfold lastQ; rw [List.getLast?_concat]
  obtain ⟨qa, qc, hq, hps⟩ := hat m (by omega)
  have ep : (init ++ [p])[m]'(by omega) = p := by simp [hm]
  rw [ep] at hq hps
  obtain ⟨rfl, hbw⟩ := hsa (by omega)
  have q0 : W1.cell? ⟨b, off + m, none⟩ = some (.slice qa p.length qc) := (hB1.cell (p := ⟨b, off + m, none⟩) hbw).trans hq
  rw [hlast]
  rw [hlen] at hc1 x0 HW1 ⊢
  have hwrap : IntKind.i64.wrap (((m + 1 : Nat) : Int) - 1) = (m : Int) := by rw [IntKind.wrap_i64] <;> omega
  have hm1 : ((((m + 1 : Nat) : Int)) == 0) = false := by rw [beq_eq_false_iff_ne]; omega
  have hlt1 : (m : Int) < ((m + 1 : Nat) : Int) := by omega
  obtain ⟨k0, k1, _, _⟩ := cells2v x0
  obtain ⟨W2, hW2⟩ : ∃ W2, W2 = W1.alloc (.cells #[.int .i64 3, .int .i64 2, .int .i64 1] 3) := ⟨_, rfl⟩
  have hB2 : Below W.heap.size W W2 := by rw [hW2]; exact hB1.alloc hB1.size _
  have x2 : W2.heap[W1.heap.size]? = some (.cells #[.int .i64 3, .int .i64 2, .int .i64 1] 3 (0, 0)) := by rw [hW2]; exact heap_alloc_last W1 _
  have HLT : Hid (∀ w, Below W2.heap.size W2 w → w.cell? ⟨W1.heap.size, 0, none⟩ = some (.int .i64 3) ∧ w.cell? ⟨W1.heap.size, 1, none⟩ = some (.int .i64 2) ∧ w.cell? ⟨W1.heap.size, 2, none⟩ = some (.int .i64 1)) := fun w hw => cells3 ((hw.block _ (Array.getElem?_eq_some_iff.1 x2).1).trans x2)
  have HAT : Hid (∀ w, Below W2.heap.size W2 w → ∀ t (ht : t < p.length), ∃ qb qo la ln lc, qa = some ⟨qb, qo, none⟩ ∧ ∀ y u, (s7 (p[t]'ht) (.slice la ln lc))[y]? = some u → w.cell? ⟨qb, qo + t * 7 + y, none⟩ = some u) := fun w hw t ht => by
    obtain ⟨qb, qo, ⟨a', c', e, _, _, h3⟩, h4⟩ := (hps.keep hB2).keep hw
    cases e
    obtain ⟨la, ln, lc, h5⟩ := h4 t ht
    exact ⟨qb, qo, la, ln, lc, (h3 (by omega)).1, h5⟩
  have HF := hid_mk (fun k t ht => findK_step k p t ht)
  have HE0 : Hid (∀ k, findK k (p.drop p.length) = none) := fun k => by rw [List.drop_length]; rfl
  have HLP : Hid (lastP p = match findK 3 p with | some n => (3, n) | none => match findK 2 p with | some n => (2, n) | none => match findK 1 p with | some n => (1, n) | none => (0, ⟨#[]⟩)) := rfl
  have HBW := hid_mk hB2
  have HBZ : Hid (∀ w, Below W2.heap.size W2 w → Below W.heap.size W w) := fun w hw => hB2.trans (hw.mono hB2.size)
  have HBR : Hid (Below W2.heap.size W2 W2) := Below.refl _ _
  generalize lastP p = R at *
  obtain ⟨N, hN⟩ : ∃ N, N = p.length := ⟨_, rfl⟩
  have HN := hid_mk hN
  have HN0 : Hid (∀ k, findK k (p.drop N) = none) := by rw [hN]; exact HE0
  rw [← hN] at q0
  have hN9 : N ≤ 9223372036854775807 := by
    obtain ⟨_, _, ⟨a', c', e, h1, h2, _⟩, _⟩ := hps
    cases e
    omega
  have HW2 := hid_mk hW2
  clear hat hsa hlen hlast hq hps ep hW1 hB1 x0 hsz1 hm hN hW2 hB2 x2 HE0
  obtain ⟨l0, l1, l2⟩ := HLT.out W2 HBR.out
  go_enter Tryz.func7, Tryz.ntmps7
  go_upto_region 1 with (fail)
  rw [← HW1.out]
  clear HW1
  go_wp2_with (fail)
  rw [← HW2.out]
  clear HW2 q0 k0 k1
  refine wp_loop_rounds 4 ?_
  rw [rounds_succ]
  go_wp2
  have HS0 : Hid (findK 3 (p.drop 0) = findK 3 p) := rfl
  go_loopw [29] (fun a29 wq => ∃ t : Nat, t ≤ N ∧ a29 = .int .i64 (t : Int) ∧ Hid (findK 3 (p.drop t) = findK 3 p) ∧ Hid (Below W2.heap.size W2 wq)) (fun a29 _ => N + 1 - (intOf a29).toNat)
  case atStart => exact ⟨0, Nat.zero_le _, rfl, HS0, HBR⟩
  case round =>
    obtain ⟨t, ht, rfl, HE, HB⟩ := hrel
    clear HS0
    by_cases htl : t < N
    · have htl' : t < p.length := by have := HN.out; omega
      obtain ⟨qb, qo, la, ln, lc, rfl, hcell⟩ := HAT.out wr HB.out t htl'
      have HFS := hid_mk (HF.out 3 t htl')
      have hft := fit3 (p[t]'htl')
      generalize p[t]'htl' = s at *
      obtain ⟨sk, snm, sop, sv, sa, sb⟩ := s
      have j0 := hcell 0 _ rfl
      have j1 := hcell 1 _ rfl
      have j2 := hcell 2 _ rfl
      have j3 := hcell 3 _ rfl
      have j4 := hcell 4 _ rfl
      have j5 := hcell 5 _ rfl
      have j6 := hcell 6 _ rfl
      rw [Nat.add_zero] at j0
      dsimp only at j0 j1 j2 j3 j4 j5 j6 HFS hft
      have hd1 : (t : Int) < (N : Int) := by omega
      obtain ⟨w3, hw3⟩ : ∃ w3, w3 = wr.alloc (.cells #[.int .i64 sk, .string snm, .int .i64 sop, .string sv, .int .i64 sa, .int .i64 sb, .slice la ln lc] 34) := ⟨_, rfl⟩
      have HB3 : Hid (Below W2.heap.size W2 w3) := by rw [Hid, hw3]; exact HB.out.alloc HB.out.size _
      have x3 : w3.heap[wr.heap.size]? = some (.cells #[.int .i64 sk, .string snm, .int .i64 sop, .string sv, .int .i64 sa, .int .i64 sb, .slice la ln lc] 34 (0, 0)) := by rw [hw3]; exact heap_alloc_last wr _
      obtain ⟨c0, c1, c2, c3, c4, c5, c6⟩ := cells7v x3
      have HW3 := hid_mk hw3
      clear hcell x3 hw3
      go_upto_region 10 with (fail)
      rw [← HW3.out]
      clear j0 j1 j2 j3 j4 j5 j6
      cases hsk : (sk == 3) with
      | false =>
        have hfit : fitK 3 ⟨sk, snm, sop, sv, sa, sb⟩ = false := by rw [hft, hsk]
        have HE2 : Hid (findK 3 (p.drop (t + 1)) = findK 3 p) := by rw [Hid, ← HE.out, HFS.out, if_neg (by rw [hfit]; decide)]
        clear HFS HE
        go_wp2
        exact ⟨⟨t + 1, by omega, by go_num, HE2, HB3⟩, by simp only [intOf]; omega⟩
      | true =>
        have hfit : fitK 3 ⟨sk, snm, sop, sv, sa, sb⟩ = true := by rw [hft, hsk]
        have HR : Hid (R = (3, snm)) := by
          have hf0 : findK 3 p = some snm := by rw [← HE.out, HFS.out, if_pos hfit]
          rw [Hid, HLP.out]
          simp only [hf0]
        clear HLP HF HAT HLT HN0 HE HFS
        go_upto_region 11 with (fail)
        go_quiet (fail)
        go_wp2
        go_ret2
        exact ⟨by rw [HR.out]; rfl, below_drewN (HBZ.out w3 HB3.out) _⟩
    · have hte : N = t := by omega
      subst hte
      have z3 : findK 3 p = none := by rw [← HE.out]; exact HN0.out 3
      have HBn0 := HB
      clear HE htl HB
      obtain ⟨l0, l1, l2⟩ := HLT.out wr HBn0.out
      skip
      go_wp2
      rw [rounds_succ]
      go_wp2
      have HS1 : Hid (findK 2 (p.drop 0) = findK 2 p) := rfl
      go_loopw [29] (fun a29 wq => ∃ t : Nat, t ≤ N ∧ a29 = .int .i64 (t : Int) ∧ Hid (findK 2 (p.drop t) = findK 2 p) ∧ Hid (Below W2.heap.size W2 wq)) (fun a29 _ => N + 1 - (intOf a29).toNat)
      case atStart => exact ⟨0, Nat.zero_le _, rfl, HS1, HBn0⟩
      case round =>
        obtain ⟨t, ht, rfl, HE, HB⟩ := hrel
        clear HS1
        by_cases htl : t < N
        · have htl' : t < p.length := by have := HN.out; omega
          obtain ⟨qb, qo, la, ln, lc, rfl, hcell⟩ := HAT.out wr HB.out t htl'
          have HFS := hid_mk (HF.out 2 t htl')
          have hft := fit2 (p[t]'htl')
          generalize p[t]'htl' = s at *
          obtain ⟨sk, snm, sop, sv, sa, sb⟩ := s
          have j0 := hcell 0 _ rfl
          have j1 := hcell 1 _ rfl
          have j2 := hcell 2 _ rfl
          have j3 := hcell 3 _ rfl
          have j4 := hcell 4 _ rfl
          have j5 := hcell 5 _ rfl
          have j6 := hcell 6 _ rfl
          rw [Nat.add_zero] at j0
          dsimp only at j0 j1 j2 j3 j4 j5 j6 HFS hft
          have hd1 : (t : Int) < (N : Int) := by omega
          obtain ⟨w3, hw3⟩ : ∃ w3, w3 = wr.alloc (.cells #[.int .i64 sk, .string snm, .int .i64 sop, .string sv, .int .i64 sa, .int .i64 sb, .slice la ln lc] 34) := ⟨_, rfl⟩
          have HB3 : Hid (Below W2.heap.size W2 w3) := by rw [Hid, hw3]; exact HB.out.alloc HB.out.size _
          have x3 : w3.heap[wr.heap.size]? = some (.cells #[.int .i64 sk, .string snm, .int .i64 sop, .string sv, .int .i64 sa, .int .i64 sb, .slice la ln lc] 34 (0, 0)) := by rw [hw3]; exact heap_alloc_last wr _
          obtain ⟨c0, c1, c2, c3, c4, c5, c6⟩ := cells7v x3
          have HW3 := hid_mk hw3
          clear hcell x3 hw3
          go_upto_region 10 with (fail)
          rw [← HW3.out]
          clear j0 j1 j2 j3 j4 j5 j6
          cases hsk : (sk == 2) with
          | false =>
            have hfit : fitK 2 ⟨sk, snm, sop, sv, sa, sb⟩ = false := by rw [hft, hsk]
            have HE2 : Hid (findK 2 (p.drop (t + 1)) = findK 2 p) := by rw [Hid, ← HE.out, HFS.out, if_neg (by rw [hfit]; decide)]
            clear HFS HE
            go_wp2
            exact ⟨⟨t + 1, by omega, by go_num, HE2, HB3⟩, by simp only [intOf]; omega⟩
          | true =>
            have hfit : fitK 2 ⟨sk, snm, sop, sv, sa, sb⟩ = true := by rw [hft, hsk]
            have HR : Hid (R = (2, snm)) := by
              have hf0 : findK 2 p = some snm := by rw [← HE.out, HFS.out, if_pos hfit]
              rw [Hid, HLP.out]
              simp only [z3, hf0]
            clear HLP HF HAT HLT HN0 HE HFS
            go_upto_region 11 with (fail)
            go_quiet (fail)
            go_wp2
            go_ret2
            exact ⟨by rw [HR.out]; rfl, below_drewN (HBZ.out w3 HB3.out) _⟩
        · have hte : N = t := by omega
          subst hte
          have z2 : findK 2 p = none := by rw [← HE.out]; exact HN0.out 2
          have HBn1 := HB
          clear HE htl HB
          obtain ⟨l0, l1, l2⟩ := HLT.out wr HBn1.out
          skip
          go_wp2
          rw [rounds_succ]
          go_wp2
          have HS2 : Hid (findK 1 (p.drop 0) = findK 1 p) := rfl
          go_loopw [29] (fun a29 wq => ∃ t : Nat, t ≤ N ∧ a29 = .int .i64 (t : Int) ∧ Hid (findK 1 (p.drop t) = findK 1 p) ∧ Hid (Below W2.heap.size W2 wq)) (fun a29 _ => N + 1 - (intOf a29).toNat)
          case atStart => exact ⟨0, Nat.zero_le _, rfl, HS2, HBn1⟩
          case round =>
            obtain ⟨t, ht, rfl, HE, HB⟩ := hrel
            clear HS2
            by_cases htl : t < N
            · have htl' : t < p.length := by have := HN.out; omega
              obtain ⟨qb, qo, la, ln, lc, rfl, hcell⟩ := HAT.out wr HB.out t htl'
              have HFS := hid_mk (HF.out 1 t htl')
              have hft := fit1 (p[t]'htl')
              generalize p[t]'htl' = s at *
              obtain ⟨sk, snm, sop, sv, sa, sb⟩ := s
              have j0 := hcell 0 _ rfl
              have j1 := hcell 1 _ rfl
              have j2 := hcell 2 _ rfl
              have j3 := hcell 3 _ rfl
              have j4 := hcell 4 _ rfl
              have j5 := hcell 5 _ rfl
              have j6 := hcell 6 _ rfl
              rw [Nat.add_zero] at j0
              dsimp only at j0 j1 j2 j3 j4 j5 j6 HFS hft
              have hd1 : (t : Int) < (N : Int) := by omega
              obtain ⟨w3, hw3⟩ : ∃ w3, w3 = wr.alloc (.cells #[.int .i64 sk, .string snm, .int .i64 sop, .string sv, .int .i64 sa, .int .i64 sb, .slice la ln lc] 34) := ⟨_, rfl⟩
              have HB3 : Hid (Below W2.heap.size W2 w3) := by rw [Hid, hw3]; exact HB.out.alloc HB.out.size _
              have x3 : w3.heap[wr.heap.size]? = some (.cells #[.int .i64 sk, .string snm, .int .i64 sop, .string sv, .int .i64 sa, .int .i64 sb, .slice la ln lc] 34 (0, 0)) := by rw [hw3]; exact heap_alloc_last wr _
              obtain ⟨c0, c1, c2, c3, c4, c5, c6⟩ := cells7v x3
              have HW3 := hid_mk hw3
              clear hcell x3 hw3
              go_upto_region 10 with (fail)
              rw [← HW3.out]
              clear j0 j1 j2 j3 j4 j5 j6
              cases hsk : (sk == 1) with
              | false =>
                have hfit : fitK 1 ⟨sk, snm, sop, sv, sa, sb⟩ = false := by rw [hft, hsk]; rfl
                have HE2 : Hid (findK 1 (p.drop (t + 1)) = findK 1 p) := by rw [Hid, ← HE.out, HFS.out, if_neg (by rw [hfit]; decide)]
                clear HFS HE
                go_wp2
                exact ⟨⟨t + 1, by omega, by go_num, HE2, HB3⟩, by simp only [intOf]; omega⟩
              | true =>
                cases hst : (snm.toList == [42]) with
                | true =>
                  have hfit : fitK 1 ⟨sk, snm, sop, sv, sa, sb⟩ = false := by rw [hft, hsk, hst]; rfl
                  have HE2 : Hid (findK 1 (p.drop (t + 1)) = findK 1 p) := by rw [Hid, ← HE.out, HFS.out, if_neg (by rw [hfit]; decide)]
                  clear HFS HE
                  go_wp2
                  exact ⟨⟨t + 1, by omega, by go_num, HE2, HB3⟩, by simp only [intOf]; omega⟩
                | false =>
                  have hfit : fitK 1 ⟨sk, snm, sop, sv, sa, sb⟩ = true := by rw [hft, hsk, hst]; rfl
                  have HR : Hid (R = (1, snm)) := by
                    have hf0 : findK 1 p = some snm := by rw [← HE.out, HFS.out, if_pos hfit]
                    rw [Hid, HLP.out]
                    simp only [z3, z2, hf0]
                  clear HLP HF HAT HLT HN0 HE HFS
                  go_upto_region 11 with (fail)
                  go_quiet (fail)
                  go_wp2
                  go_ret2
                  exact ⟨by rw [HR.out]; rfl, below_drewN (HBZ.out w3 HB3.out) _⟩
            · have hte : N = t := by omega
              subst hte
              have z1 : findK 1 p = none := by rw [← HE.out]; exact HN0.out 1
              have HBn2 := HB
              clear HE htl HB
              have HR : Hid (R = (0, ⟨#[]⟩)) := by
                rw [Hid, HLP.out]
                simp only [z3, z2, z1]
              clear HLP HF HAT HLT HN0 z1 z2 z3
              go_wp2
              rw [rounds_succ]
              go_wp2
              go_ret2
              exact ⟨by rw [HR.out]; rfl, HBZ.out wr HBn2.out⟩
end Go.Proofs.YtdgkhpkgjkpmnaaGreatDoor.L
