/- selector.greatest: the greatest specificity of a list, those of the Lists within being at hand. The Lists within a list that are weighed: how many there are in all, and where they lie. -/
import Derived.Test.YtdibldcnklgcjaaGreatDoorLMz
import Derived.Deep.RegionLaw
import Derived.Test.YtdibldcnklgcjaaGreatDoorLWi
namespace Go.Proofs.YtdibldcnklgcjaaGreatDoor.L
open Go.RowKit
set_option maxRecDepth 100000

/-- Specificities in a slice. -/
def SpAt (W : World) (v : Value) (l : List S3) : Prop := ∃ g off, Sl W v l.length g off ∧ ∀ i (h : i < l.length), W.cell? ⟨g, off + i * 3, none⟩ = some (.int .i64 (l[i]'h).a) ∧ W.cell? ⟨g, off + i * 3 + 1, none⟩ = some (.int .i64 (l[i]'h).b) ∧ W.cell? ⟨g, off + i * 3 + 2, none⟩ = some (.int .i64 (l[i]'h).c)
theorem SpAt.keep {W W' : World} {v : Value} {l : List S3} (h : SpAt W v l) (hb : Below W.heap.size W W') : SpAt W' v l := by
  obtain ⟨g, off, h1, h2⟩ := h
  refine ⟨g, off, h1.keep hb, fun i hi => ?_⟩
  rw [h1.cell hb (by omega), h1.cell hb (by omega), h1.cell hb (by omega)]
  exact h2 i hi
/-- A specificity in a block of its own. -/
def SB (w : World) (b : Nat) (s : S3) : Prop := w.heap[b]? = some (.cells #[.int .i64 s.a, .int .i64 s.b, .int .i64 s.c] 23 (0, 0))
theorem SB.set {w : World} {b : Nat} {s : S3} (h : SB w b s) (x : S3) : SB (((w.setCell ⟨b, 0, none⟩ (.int .i64 x.a)).setCell ⟨b, 1, none⟩ (.int .i64 x.b)).setCell ⟨b, 2, none⟩ (.int .i64 x.c)) b x := by
  have h1 := set_at 0 (.int .i64 x.a) (0, 0) h
  have h2 := set_at 1 (.int .i64 x.b) (0, 0) h1
  have h3 := set_at 2 (.int .i64 x.c) (0, 0) h2
  unfold SB
  rw [h3]
  rfl
theorem set3_ne {w : World} {b k : Nat} {x y z : Value} (h : k ≠ b) : (((w.setCell ⟨b, 0, none⟩ x).setCell ⟨b, 1, none⟩ y).setCell ⟨b, 2, none⟩ z).heap[k]? = w.heap[k]? :=
  (Below.heap_setCell _ _ _ _ h).trans ((Below.heap_setCell _ _ _ _ h).trans (Below.heap_setCell _ _ _ _ h))
/-- The sum, and another one to it, behind a region that draws: all else stays. -/
def Sum (w3 : World) (sb : Nat) (x : S3) (w' : World) : Prop := SB w' sb x ∧ w'.os = w3.os ∧ w'.tape = w3.tape ∧ w'.output = w3.output ∧ w3.heap.size ≤ w'.heap.size ∧ ∀ k, k < w3.heap.size → k ≠ sb → w'.heap[k]? = w3.heap[k]?
theorem Sum.of {w3 w5 : World} {sb : Nat} {s x : S3} (h : SB w3 sb s) (hb : Below w3.heap.size w3 w5) : Sum w3 sb x (((w5.setCell ⟨sb, 0, none⟩ (.int .i64 x.a)).setCell ⟨sb, 1, none⟩ (.int .i64 x.b)).setCell ⟨sb, 2, none⟩ (.int .i64 x.c)) := by
  have h5 : SB w5 sb s := (hb.block sb (Array.getElem?_eq_some_iff.1 h).1).trans h
  exact ⟨h5.set x, hb.os, hb.tape, hb.output, by simpa using hb.size, fun k hk hn => (set3_ne hn).trans (hb.block k hk)⟩
theorem SB.cells {w w' : World} {b : Nat} {s : S3} (h : SB w b s) (hb : Below w.heap.size w w') : (w'.cell? ⟨b, 0, none⟩ = some (.int .i64 s.a) ∧ w'.cell? ⟨b, 1, none⟩ = some (.int .i64 s.b) ∧ w'.cell? ⟨b, 2, none⟩ = some (.int .i64 s.c)) ∧ w'.frozen? ⟨b, 0, none⟩ = false ∧ w'.frozen? ⟨b, 1, none⟩ = false ∧ w'.frozen? ⟨b, 2, none⟩ = false :=
  cells3s ((hb.block b (Array.getElem?_eq_some_iff.1 h).1).trans h)
theorem SpAt.first {W : World} {ia : Option Addr} {n c : Nat} {y : S3} {r : List S3} (h : SpAt W (.slice ia n c) (y :: r)) : n = r.length + 1 ∧ n ≤ c ∧ c ≤ 9223372036854775807 ∧ ∃ g off, ia = some ⟨g, off, none⟩ ∧ g < W.heap.size ∧ W.cell? ⟨g, off, none⟩ = some (.int .i64 y.a) ∧ W.cell? ⟨g, off + 1, none⟩ = some (.int .i64 y.b) ∧ W.cell? ⟨g, off + 2, none⟩ = some (.int .i64 y.c) ∧ ∀ ia', (0 < r.length → ia' = some ⟨g, off + 3, none⟩) → SpAt W (.slice ia' (n - 1) (c - 1)) r := by
  obtain ⟨g, off, ⟨a, cap, e, h1, h2, h3⟩, h4⟩ := h
  cases e
  obtain ⟨e1, hg⟩ := h3 (by simp)
  have c0 := h4 0 (by simp)
  simp only [Nat.zero_mul, Nat.add_zero, List.getElem_cons_zero] at c0
  refine ⟨by simp, by simpa using h1, h2, g, off, e1, hg, c0.1, c0.2.1, c0.2.2, fun ia' hia => ⟨g, off + 3, ⟨ia', c - 1, by simp, by simp at h1; omega, by omega, fun h0 => ⟨hia h0, hg⟩⟩, fun i hi => ?_⟩⟩
  have := h4 (i + 1) (by simpa using hi)
  rw [show off + 3 + i * 3 = off + (i + 1) * 3 by omega]
  simpa using this
def wgPs (ps : List (List (S6 × List Cx))) : List (List Cx) := ps.flatMap wgP
/-- What the loops of greatest leave as it was. -/
def GrK (W : World) (m : S3) (w : World) : Prop := SB w (W.heap.size + 1) m ∧ SB w W.heap.size z3 ∧ Below W.heap.size W w
theorem GrK.then {W w w' : World} {m : S3} (h : GrK W m w) (hb : Below w.heap.size w w') : GrK W m w' :=
  ⟨(hb.block _ (Array.getElem?_eq_some_iff.1 h.1).1).trans h.1, (hb.block _ (Array.getElem?_eq_some_iff.1 h.2.1).1).trans h.2.1, h.2.2.trans (hb.mono h.2.2.size)⟩
theorem GrK.sum {W w w' : World} {m x : S3} {sb : Nat} (h : GrK W m w) (hs : Sum w sb x w') (h1 : W.heap.size + 1 < sb) : GrK W m w' := by
  obtain ⟨_, e1, e2, e3, e4, e5⟩ := hs
  refine ⟨(e5 _ (Array.getElem?_eq_some_iff.1 h.1).1 (by omega)).trans h.1, (e5 _ (Array.getElem?_eq_some_iff.1 h.2.1).1 (by omega)).trans h.2.1, ⟨e1.trans h.2.2.os, e2.trans h.2.2.tape, e3.trans h.2.2.output, Nat.le_trans h.2.2.size e4, fun k hk => (e5 k (Nat.lt_of_lt_of_le hk h.2.2.size) (by omega)).trans (h.2.2.block k hk)⟩⟩

/-- One simple selector: what it adds. -/
theorem gr_plus {W : World} {acc y : S3} (ha : acc.ok) (hy : y.ok) : ∀ w', Below W.heap.size W w' → Calls Tryz.prog 68 #[.agg #[.int .i64 acc.a, .int .i64 acc.b, .int .i64 acc.c], .agg #[.int .i64 y.a, .int .i64 y.b, .int .i64 y.c]] w' fun e w'' => e = .returned (.agg #[.int .i64 (addS acc y).a, .int .i64 (addS acc y).b, .int .i64 (addS acc y).c]) ∧ Below W.heap.size W w'' := fun w' hb =>
  (plus_any w' ha hy).mono fun _ _ q => ⟨q.1, hb.trans (q.2.mono hb.size)⟩
theorem wgP_drop {p : List (S6 × List Cx)} {t : Nat} (h : t < p.length) : wgP (p.drop t) = (if wgB (p[t]'h).1.k = true then [(p[t]'h).2] else []) ++ wgP (p.drop (t + 1)) := by
  rw [List.drop_eq_getElem_cons h]
  generalize p[t]'h = x
  generalize p.drop (t + 1) = r
  unfold wgP
  by_cases hw : wgB x.1.k = true
  · simp [hw]
  · simp [hw]
theorem ptF_take {f : List Cx → S3} {acc : S3} {p : List (S6 × List Cx)} {t : Nat} (h : t < p.length) : ptF f acc (p.take (t + 1)) = addS (ptF f acc (p.take t)) (smF f (p[t]'h)) := by
  unfold ptF
  rw [List.take_add_one, List.getElem?_eq_getElem h, Option.toList_some, List.foldl_append]
  rfl
/-- What the innermost loop of greatest keeps. -/
structure Gr3 (W : World) (sb : Nat) (m acc : S3) (p : List (S6 × List Cx)) (R2 : List S3) (t : Nat) (iv : Value) (w : World) : Prop where
  sp : SpAt W iv ((wgP (p.drop t)).map mostZ ++ R2)
  sum : SB w sb (ptF mostZ acc (p.take t))
  k : GrK W m w

set_option maxHeartbeats 1000000 in
/-- A round of the innermost loop whose kind is weighed: the cut of its region. -/
theorem gr3_step {W w2 w' : World} {sb : Nat} {m acc : S3} {p : List (S6 × List Cx)} {R2 : List S3} {t : Nat} {iv iv' : Value} (h : Gr3 W sb m acc p R2 t iv w2) (ht : t < p.length) (hsb : W.heap.size + 1 < sb) (hs : Sum w2 sb (addS (ptF mostZ acc (p.take t)) (smF mostZ (p[t]'ht))) w') (hsp : SpAt W iv' ((wgP (p.drop (t + 1))).map mostZ ++ R2)) : Gr3 W sb m acc p R2 (t + 1) iv' w' :=
  ⟨hsp, by rw [ptF_take ht]; exact hs.1, h.k.sum hs hsb⟩
theorem Gr3.then {W w w' : World} {sb : Nat} {m acc : S3} {p : List (S6 × List Cx)} {R2 : List S3} {t : Nat} {iv : Value} (h : Gr3 W sb m acc p R2 t iv w) (hb : Below w.heap.size w w') : Gr3 W sb m acc p R2 t iv w' :=
  ⟨h.sp, (hb.block _ (Array.getElem?_eq_some_iff.1 h.sum).1).trans h.sum, h.k.then hb⟩

set_option maxHeartbeats 1000000 in
theorem greatest_any {W : World} {v iv : Value} {l : List Cx} {rest : List S3} (h : ClAt W v l) (hi : SpAt W iv ((wgL l).map mostZ ++ rest)) :
    Calls Tryz.prog 34 #[v, iv] W fun e w' => e = .returned (mostZ l).v ∧ Below W.heap.size W w' := by
  obtain ⟨b, off, ⟨a, cap, rfl, hc1, hc2, hsa⟩, hat⟩ := h.at
  obtain ⟨ig, io, ⟨ia, ic, rfl, hi1, hi2, hi3⟩, hi4⟩ := hi
  obtain ⟨W1, hW1⟩ : ∃ W1, W1 = (W.alloc (.cells #[.int .i64 0, .int .i64 0, .int .i64 0] 23)).alloc (.cells #[.int .i64 0, .int .i64 0, .int .i64 0] 23) := ⟨_, rfl⟩
  have hB1 : Below W.heap.size W W1 := by rw [hW1]; exact ((Below.refl _ _).alloc (Nat.le_refl _) _).alloc (by simp) _
  have hK1 : GrK W z3 W1 := by
    refine ⟨?_, ?_, hB1⟩
    · have e : W.heap.size + 1 = (W.alloc (.cells #[.int .i64 0, .int .i64 0, .int .i64 0] 23)).heap.size := by simp
      unfold SB
      rw [hW1, e]
      exact heap_alloc_last _ _
    · unfold SB
      rw [hW1, Below.heap_alloc _ _ _ (by simp)]
      exact heap_alloc_last W _
  have HI0 : Hid (SpAt W (.slice ia ((wgL l).map mostZ ++ rest).length ic) ((wgL (l.drop 0)).map mostZ ++ rest)) := ⟨ig, io, ⟨ia, ic, rfl, hi1, hi2, hi3⟩, hi4⟩
  have HAT := hid_mk hat
  have HSA := hid_mk hsa
  have HM0 : Hid (GrK W ((l.take 0).foldl (fun m c => upS m (ofF mostZ c)) z3) W1) := hK1
  have HEND : Hid (mostZ l = (l.take l.length).foldl (fun m c => upS m (ofF mostZ c)) z3) := by rw [Hid, List.take_length]; exact mostZ_step l
  obtain ⟨N, hN⟩ : ∃ N, N = l.length := ⟨_, rfl⟩
  obtain ⟨I, hI⟩ : ∃ I, I = ((wgL l).map mostZ ++ rest).length := ⟨_, rfl⟩
  rw [← hI] at HI0 ⊢
  rw [← hN] at hc1 HEND ⊢
  have HN := hid_mk hN
  have hN9 : N ≤ 9223372036854775807 := by omega
  have HW1 := hid_mk hW1
  generalize mostZ l = R at *
  clear h hat hsa hi1 hi3 hi4 hN hI hW1 hB1 hK1
  go_enter Tryz.func34, Tryz.ntmps34
  go_wp2_with (fail)
  rw [← HW1.out]
  clear HW1
  go_loopw [1, 15] (fun a1 a15 wq => ∃ (i : Nat) (ja : Option Addr) (jn jc : Nat), i ≤ N ∧ a15 = .int .i64 (i : Int) ∧ a1 = .slice ja jn jc ∧ Hid (SpAt W (.slice ja jn jc) ((wgL (l.drop i)).map mostZ ++ rest)) ∧ Hid (GrK W ((l.take i).foldl (fun m c => upS m (ofF mostZ c)) z3) wq)) (fun _ a15 _ => N + 1 - (intOf a15).toNat)
  case atStart => exact ⟨0, _, _, _, Nat.zero_le _, rfl, rfl, HI0, HM0⟩
  case round =>
    obtain ⟨i, ja, jn, jc, hi, rfl, rfl, HSP, HK⟩ := hrel
    clear HI0 HM0
    by_cases hil : i < N
    · have hil' : i < l.length := by have := HN.out; omega
      obtain ⟨rfl, hbw⟩ := HSA.out (by omega)
      obtain ⟨pv, cv, bc, oc, bp, op, qv, bq, oq, lv, q1, q2, hcx⟩ := HAT.out i hil'
      have HST : Hid ((l.take (i + 1)).foldl (fun m c => upS m (ofF mostZ c)) z3 = upS ((l.take i).foldl (fun m c => upS m (ofF mostZ c)) z3) (ofF mostZ (l[i]'hil'))) := by
        rw [Hid, List.take_add_one, List.getElem?_eq_getElem hil', Option.toList_some, List.foldl_append]
        rfl
      have HDR : Hid (wgL (l.drop i) = wgPs ((l[i]'hil').parts.drop 0) ++ wgL (l.drop (i + 1))) := by
        rw [Hid, List.drop_eq_getElem_cons hil', List.drop_zero]
        rfl
      generalize l[i]'hil' = c at *
      obtain ⟨R1, hR1⟩ : ∃ R1, R1 = (wgL (l.drop (i + 1))).map mostZ ++ rest := ⟨_, rfl⟩
      have HSP1 : Hid (SpAt W (.slice ja jn jc) ((wgPs (c.parts.drop 0)).map mostZ ++ R1)) := by
        have h1 := HSP.out
        rw [HDR.out, List.map_append, List.append_assoc, ← hR1] at h1
        exact h1
      have HR1 := hid_mk hR1
      obtain ⟨mi, hmi⟩ : ∃ mi, mi = (l.take i).foldl (fun m c => upS m (ofF mostZ c)) z3 := ⟨_, rfl⟩
      rw [← hmi] at HK HST
      obtain ⟨pa, pc, rfl, hp1, hp2, hpa⟩ := hcx.ps
      obtain ⟨ca, cc, rfl, _⟩ := hcx.cs
      have q1' := (HK.out.2.2.cell (p := ⟨b, off + i * 2, none⟩) hbw).trans q1
      have q2' := (HK.out.2.2.cell (p := ⟨b, off + i * 2 + 1, none⟩) hbw).trans q2
      obtain ⟨M, hM⟩ : ∃ M, M = c.parts.length := ⟨_, rfl⟩
      obtain ⟨K, hK⟩ : ∃ K, K = c.combs.length := ⟨_, rfl⟩
      have HPA := hid_mk hpa
      have HCX := hid_mk hcx
      rw [← hM] at hp1 q1'
      rw [← hK] at q2'
      have HM := hid_mk hM
      have hM9 : M ≤ 9223372036854775807 := by omega
      obtain ⟨w1, hw1⟩ : ∃ w1, w1 = (wr.alloc (.cells #[.slice pa M pc, .slice ca K cc] 38)).alloc (.cells #[.int .i64 0, .int .i64 0, .int .i64 0] 23) := ⟨_, rfl⟩
      have hB1 : Below wr.heap.size wr w1 := by rw [hw1]; exact ((Below.refl _ _).alloc (Nat.le_refl _) _).alloc (by simp) _
      have x1 : w1.heap[wr.heap.size]? = some (.cells #[.slice pa M pc, .slice ca K cc] 38 (0, 0)) := by
        rw [hw1, Below.heap_alloc _ _ _ (by simp)]
        exact heap_alloc_last wr _
      have x2 : SB w1 (wr.heap.size + 1) z3 := by
        have e : wr.heap.size + 1 = (wr.alloc (.cells #[.slice pa M pc, .slice ca K cc] 38)).heap.size := by simp
        unfold SB
        rw [hw1, e]
        exact heap_alloc_last _ _
      have k0 : w1.cell? ⟨wr.heap.size, 0, none⟩ = some (.slice pa M pc) := cellAt x1 0
      have HK1 := hid_mk (HK.out.then hB1)
      have hsb : W.heap.size + 1 < wr.heap.size + 1 := by
        have := (Array.getElem?_eq_some_iff.1 HK.out.1).1
        omega
      have HS1 : Hid (SB w1 (wr.heap.size + 1) ((c.parts.take 0).foldl (ptF mostZ) z3)) := x2
      have HW1 := hid_mk hw1
      clear q1 q2 hcx hpa hM hK hw1 hB1 x1 x2 hR1 hmi HSP HDR HK
      go_upto_region 6 with (fail)
      rw [← HW1.out]
      clear HW1 q1' q2'
      generalize wr.heap.size + 1 = sb at *
      go_wp2
      clear k0
      go_loopw [1, 22] (fun a1 a22 wq => ∃ (j : Nat) (ja : Option Addr) (jn jc : Nat), j ≤ M ∧ a22 = .int .i64 (j : Int) ∧ a1 = .slice ja jn jc ∧ Hid (SpAt W (.slice ja jn jc) ((wgPs (c.parts.drop j)).map mostZ ++ R1)) ∧ Hid (SB wq sb ((c.parts.take j).foldl (ptF mostZ) z3)) ∧ Hid (GrK W mi wq)) (fun _ a22 _ => M + 1 - (intOf a22).toNat)
      case atStart => exact ⟨0, _, _, _, Nat.zero_le _, rfl, rfl, HSP1, HS1, HK1⟩
      case round =>
        obtain ⟨j, ja, jn, jc, hj, rfl, rfl, HSP, HS, HK⟩ := hrel
        clear HSP1 HS1 HK1
        by_cases hjl : j < M
        · have hjl' : j < c.parts.length := by have := HM.out; omega
          obtain ⟨rfl, hbp⟩ := HPA.out (by omega)
          have p0 := (HK.out.2.2.cell (p := ⟨bp, op + j, none⟩) hbp).trans (HCX.out.pc j hjl')
          obtain ⟨ta, tc, hqv, ht1, ht2, hta⟩ := HCX.out.qs j hjl'
          rw [hqv] at p0
          have HQC := hid_mk (HCX.out.qc j hjl')
          have HLS : Hid (∀ t, t < (c.parts[j]'hjl').length → ∃ la ln lc, lv j t = .slice la ln lc) := fun t ht => by
            obtain ⟨_, _, ⟨la, lc, e, _⟩, _⟩ := (HCX.out.ls j hjl' t ht).at
            exact ⟨la, _, lc, e⟩
          have HDR2 : Hid (wgPs (c.parts.drop j) = wgP ((c.parts[j]'hjl').drop 0) ++ wgPs (c.parts.drop (j + 1))) := by
            rw [Hid, List.drop_eq_getElem_cons hjl', List.drop_zero]
            rfl
          have HFT : Hid ((c.parts.take (j + 1)).foldl (ptF mostZ) z3 = ptF mostZ ((c.parts.take j).foldl (ptF mostZ) z3) (c.parts[j]'hjl')) := by
            rw [Hid, List.take_add_one, List.getElem?_eq_getElem hjl', Option.toList_some, List.foldl_append]
            rfl
          have HACC : Hid ((c.parts.take j).foldl (ptF mostZ) z3).ok := parts_ok z3_ok fun _ _ x _ => mostZ_ok x.2
          generalize c.parts[j]'hjl' = p at *
          obtain ⟨R2, hR2⟩ : ∃ R2, R2 = (wgPs (c.parts.drop (j + 1))).map mostZ ++ R1 := ⟨_, rfl⟩
          obtain ⟨acc, hacc⟩ : ∃ acc, acc = (c.parts.take j).foldl (ptF mostZ) z3 := ⟨_, rfl⟩
          rw [← hacc] at HACC HFT HS
          have HG0 : Hid (Gr3 W sb mi acc p R2 0 (.slice ja jn jc) wr) := by
            refine ⟨?_, HS.out, HK.out⟩
            have h1 := HSP.out
            rw [HDR2.out, List.map_append, List.append_assoc, ← hR2] at h1
            exact h1
          obtain ⟨L, hL⟩ : ∃ L, L = p.length := ⟨_, rfl⟩
          rw [← hL] at p0 ht1
          have HTA := hid_mk hta
          have HL := hid_mk hL
          have HR2 := hid_mk hR2
          have hL9 : L ≤ 9223372036854775807 := by omega
          clear hta hL hR2 hacc HSP HS HK HDR2 hqv HAT HSA HEND
          go_wp2
          clear p0
          go_loopw [1, 28] (fun a1 a28 wq => ∃ (t : Nat) (ja : Option Addr) (jn jc : Nat), t ≤ L ∧ a28 = .int .i64 (t : Int) ∧ a1 = .slice ja jn jc ∧ Hid (Gr3 W sb mi acc p R2 t (.slice ja jn jc) wq)) (fun _ a28 _ => L + 1 - (intOf a28).toNat)
          case atStart => exact ⟨0, _, _, _, Nat.zero_le _, rfl, rfl, HG0⟩
          case round =>
            obtain ⟨t, ja, jn, jc, ht, rfl, rfl, HG⟩ := hrel
            clear HG0
            by_cases htl : t < L
            · have htl' : t < p.length := by have := HL.out; omega
              obtain ⟨rfl, hbq⟩ := HTA.out (by have := HL.out; omega)
              obtain ⟨la, ln, lc, hlv⟩ := HLS.out t htl'
              have hq := HQC.out t htl'
              rw [hlv] at hq
              have hkc : ∀ o, wr.cell? ⟨bq j, o, none⟩ = W.cell? ⟨bq j, o, none⟩ := fun o => HG.out.k.2.2.cell (p := ⟨bq j, o, none⟩) hbq
              have c0 := (hkc _).trans (hq 0 _ rfl)
              have c1 := (hkc _).trans (hq 1 _ rfl)
              have c2 := (hkc _).trans (hq 2 _ rfl)
              have c3 := (hkc _).trans (hq 3 _ rfl)
              have c4 := (hkc _).trans (hq 4 _ rfl)
              have c5 := (hkc _).trans (hq 5 _ rfl)
              have c6 := (hkc _).trans (hq 6 _ rfl)
              rw [Nat.add_zero] at c0
              have HWD : Hid (wgP (p.drop t) = (if wgB (p[t]'htl').1.k = true then [(p[t]'htl').2] else []) ++ wgP (p.drop (t + 1))) := wgP_drop htl'
              have HPT : Hid (ptF mostZ acc (p.take (t + 1)) = addS (ptF mostZ acc (p.take t)) (smF mostZ (p[t]'htl'))) := ptF_take htl'
              have HOK : Hid (ptF mostZ acc (p.take t)).ok := ptF_ok HACC.out fun x _ => mostZ_ok x.2
              generalize p[t]'htl' = x at *
              obtain ⟨s, xl⟩ := x
              dsimp only at c0 c1 c2 c3 c4 c5 c6 HWD HPT
              obtain ⟨w2, hw2⟩ : ∃ w2, w2 = wr.alloc (.cells #[.int .i64 s.k, .string s.nm, .int .i64 s.op, .string s.v, .int .i64 s.a, .int .i64 s.b, .slice la ln lc] 40) := ⟨_, rfl⟩
              have x1 : w2.heap[wr.heap.size]? = some (.cells #[.int .i64 s.k, .string s.nm, .int .i64 s.op, .string s.v, .int .i64 s.a, .int .i64 s.b, .slice la ln lc] 40 (0, 0)) := by
                rw [hw2]
                exact heap_alloc_last wr _
              have hB2 : Below wr.heap.size wr w2 := by rw [hw2]; exact (Below.refl _ _).alloc (Nat.le_refl _) _
              have HG2 := hid_mk (HG.out.then hB2)
              have d0 : w2.cell? ⟨wr.heap.size, 0, none⟩ = some (.int .i64 s.k) := cellAt x1 0
              have HX1 := hid_mk x1
              have HW2 := hid_mk hw2
              have hszw : wr.heap.size < w2.heap.size := (Array.getElem?_eq_some_iff.1 x1).1
              have HGS : Hid (SB w2 sb (ptF mostZ acc (p.take t))) := HG2.out.sum
              generalize ptF mostZ acc (p.take t) = ac at *
              have hdl : (t : Int) < (L : Int) := by omega
              clear hq hkc hlv HG x1 hw2 hB2 HQC HLS
              go_upto_region 12 with (fail)
              rw [← HW2.out]
              clear HW2 c0 c1 c2 c3 c4 c5 c6
              go_wp2_with (go_at_call 67; fail)
              refine (weighed_any _ _).mono ?_
              rintro e wz ⟨rfl, hz⟩
              obtain rfl : w2 = wz := hz.symm
              clear hz
              cases hw : wgB s.k with
              | true =>
                have HSPT : Hid (SpAt W (.slice ja jn jc) (mostZ xl :: ((wgP (p.drop (t + 1))).map mostZ ++ R2))) := by
                  have h1 := HG2.out.sp
                  rw [HWD.out, if_pos hw] at h1
                  exact h1
                obtain ⟨e1, hn1, hn2, g, off, rfl, hgW, y0, y1, y2, hnx⟩ := HSPT.out.first
                have HNX := hid_mk hnx
                have HPT2 : Hid (ptF mostZ acc (p.take (t + 1)) = addS ac (mostZ xl)) := by
                  rw [Hid, HPT.out]
                  unfold smF
                  rw [if_pos hw]
                have HPL0 := gr_plus (W := w2) HOK.out (mostZ_ok xl)
                generalize mostZ xl = y at *
                generalize addS ac y = sm at *
                have HPL := hid_mk HPL0
                have HCL : Hid (∀ w', Below w2.heap.size w2 w' → (w'.cell? ⟨sb, 0, none⟩ = some (.int .i64 ac.a) ∧ w'.cell? ⟨sb, 1, none⟩ = some (.int .i64 ac.b) ∧ w'.cell? ⟨sb, 2, none⟩ = some (.int .i64 ac.c)) ∧ w'.frozen? ⟨sb, 0, none⟩ = false ∧ w'.frozen? ⟨sb, 1, none⟩ = false ∧ w'.frozen? ⟨sb, 2, none⟩ = false) := fun w' hb => SB.cells HGS.out hb
                have HSU : Hid (∀ w', Below w2.heap.size w2 w' → Sum w2 sb sm (((w'.setCell ⟨sb, 0, none⟩ (.int .i64 sm.a)).setCell ⟨sb, 1, none⟩ (.int .i64 sm.b)).setCell ⟨sb, 2, none⟩ (.int .i64 sm.c))) := fun w' hb => Sum.of HGS.out hb
                have gr : Below w2.heap.size w2 w2 := Below.refl _ _
                have gd : Below w2.heap.size w2 w2.drew := gr.drew
                obtain ⟨⟨s0, s1, s2⟩, f0, f1, f2⟩ := HCL.out w2 gr
                have y0' := (HG2.out.k.2.2.cell (p := ⟨g, off, none⟩) hgW).trans y0
                have y1' := (HG2.out.k.2.2.cell (p := ⟨g, off + 1, none⟩) hgW).trans y1
                have y2' := (HG2.out.k.2.2.cell (p := ⟨g, off + 2, none⟩) hgW).trans y2
                have hjn : 0 < jn := by omega
                have HE1 := hid_mk e1
                have HG3 : Hid (∀ w' ia', Sum w2 sb sm w' → (0 < ((wgP (p.drop (t + 1))).map mostZ ++ R2).length → ia' = some ⟨g, off + 3, none⟩) → Gr3 W sb mi acc p R2 (t + 1) (.slice ia' (jn - 1) (jc - 1)) w') := fun w' ia' hs hia => by
                  refine ⟨HNX.out ia' hia, ?_, HG2.out.k.sum hs hsb⟩
                  rw [HPT2.out]
                  exact hs.1
                clear y0 y1 y2 hnx HPL0 HPT HPT2 HWD HSPT e1 hw HOK HX1 HNX HFT HACC HTA HPA HCX HST d0
                go_upto_region 13 with (fail)
                go_region_law (go_simp; go_at_call 68; refine (HPL.out _ ?_).mono ?_; assumption; rintro e w5 ⟨rfl, hb5⟩; obtain ⟨⟨t0, t1, t2⟩, k0, k1, k2⟩ := HCL.out w5 hb5; have HS5 := hid_mk (HSU.out w5 hb5); clear hb5)
                all_goals
                  obtain ⟨W6, hW6⟩ : ∃ W6, W6 = ((w5.setCell ⟨sb, 0, none⟩ (.int .i64 sm.a)).setCell ⟨sb, 1, none⟩ (.int .i64 sm.b)).setCell ⟨sb, 2, none⟩ (.int .i64 sm.c) := ⟨_, rfl⟩
                  rw [← hW6] at HS5 ⊢
                  clear hW6 t0 t1 t2 k0 k1 k2 HCL HPL HSU s0 s1 s2 f0 f1 f2 y0' y1' y2' gr gd
                  go_wp2
                  exact ⟨⟨t + 1, _, _, _, by omega, by go_num, rfl, HG3.out _ _ HS5.out fun h => by rw [if_neg (by have := HE1.out; omega)]⟩, by simp only [intOf]; omega⟩
              | false =>
                have HSPT : Hid (SpAt W (.slice ja jn jc) ((wgP (p.drop (t + 1))).map mostZ ++ R2)) := by
                  have h1 := HG2.out.sp
                  rw [HWD.out, if_neg (by rw [hw]; decide)] at h1
                  exact h1
                have HPT2 : Hid (ptF mostZ acc (p.take (t + 1)) = addS ac (sglZ s)) := by
                  rw [Hid, HPT.out]
                  unfold smF
                  rw [if_neg (by rw [hw]; decide)]
                have HPL0 := gr_plus (W := w2) HOK.out (sglZ_ok s)
                have HSI0 : ∀ w', Below w2.heap.size w2 w' → Calls Tryz.prog 69 #[.agg #[.int .i64 s.k, .string s.nm, .int .i64 s.op, .string s.v, .int .i64 s.a, .int .i64 s.b, .slice la ln lc]] w' fun e w'' => e = .returned (.agg #[.int .i64 (sglZ s).a, .int .i64 (sglZ s).b, .int .i64 (sglZ s).c]) ∧ Below w2.heap.size w2 w'' := fun w' hb => (single_any w' s la ln lc).mono fun _ _ q => ⟨q.1, hb.trans (q.2.mono hb.size)⟩
                generalize sglZ s = y at *
                generalize addS ac y = sm at *
                have HPL := hid_mk HPL0
                have HSI := hid_mk HSI0
                have HCL : Hid (∀ w', Below w2.heap.size w2 w' → (w'.cell? ⟨sb, 0, none⟩ = some (.int .i64 ac.a) ∧ w'.cell? ⟨sb, 1, none⟩ = some (.int .i64 ac.b) ∧ w'.cell? ⟨sb, 2, none⟩ = some (.int .i64 ac.c)) ∧ w'.frozen? ⟨sb, 0, none⟩ = false ∧ w'.frozen? ⟨sb, 1, none⟩ = false ∧ w'.frozen? ⟨sb, 2, none⟩ = false) := fun w' hb => SB.cells HGS.out hb
                have HSU : Hid (∀ w', Below w2.heap.size w2 w' → Sum w2 sb sm (((w'.setCell ⟨sb, 0, none⟩ (.int .i64 sm.a)).setCell ⟨sb, 1, none⟩ (.int .i64 sm.b)).setCell ⟨sb, 2, none⟩ (.int .i64 sm.c))) := fun w' hb => Sum.of HGS.out hb
                have gr : Below w2.heap.size w2 w2 := Below.refl _ _
                have gd : Below w2.heap.size w2 w2.drew := gr.drew
                obtain ⟨⟨s0, s1, s2⟩, f0, f1, f2⟩ := HCL.out w2 gr
                have d1 : w2.cell? ⟨wr.heap.size, 1, none⟩ = some (.string s.nm) := cellAt HX1.out 1
                have d2 : w2.cell? ⟨wr.heap.size, 2, none⟩ = some (.int .i64 s.op) := cellAt HX1.out 2
                have d3 : w2.cell? ⟨wr.heap.size, 3, none⟩ = some (.string s.v) := cellAt HX1.out 3
                have d4 : w2.cell? ⟨wr.heap.size, 4, none⟩ = some (.int .i64 s.a) := cellAt HX1.out 4
                have d5 : w2.cell? ⟨wr.heap.size, 5, none⟩ = some (.int .i64 s.b) := cellAt HX1.out 5
                have d6 : w2.cell? ⟨wr.heap.size, 6, none⟩ = some (.slice la ln lc) := cellAt HX1.out 6
                have HG3 : Hid (∀ w', Sum w2 sb sm w' → Gr3 W sb mi acc p R2 (t + 1) (.slice ja jn jc) w') := fun w' hs => by
                  refine ⟨HSPT.out, ?_, HG2.out.k.sum hs hsb⟩
                  rw [HPT2.out]
                  exact hs.1
                clear HPL0 HSI0 HPT HPT2 HWD HSPT hw HOK HX1 HFT HACC HTA HPA HCX HST
                go_upto_region 15 with (fail)
                go_region_law (first
                  | (go_simp; go_at_call 69; refine (HSI.out _ ?_).mono ?_; assumption; rintro e w4 ⟨rfl, hb4⟩; obtain ⟨⟨r0, r1, r2⟩, _⟩ := HCL.out w4 hb4)
                  | (go_simp; go_at_call 68; refine (HPL.out _ ?_).mono ?_; assumption; rintro e w5 ⟨rfl, hb5⟩; obtain ⟨⟨t0, t1, t2⟩, k0, k1, k2⟩ := HCL.out w5 hb5; have HS5 := hid_mk (HSU.out w5 hb5); clear hb5))
                all_goals
                  obtain ⟨W6, hW6⟩ : ∃ W6, W6 = ((w5.setCell ⟨sb, 0, none⟩ (.int .i64 sm.a)).setCell ⟨sb, 1, none⟩ (.int .i64 sm.b)).setCell ⟨sb, 2, none⟩ (.int .i64 sm.c) := ⟨_, rfl⟩
                  rw [← hW6] at HS5 ⊢
                  clear hW6 t0 t1 t2 k0 k1 k2 HCL HPL HSU HSI s0 s1 s2 f0 f1 f2 gr gd d0 d1 d2 d3 d4 d5 d6
                  go_wp2
                  exact ⟨⟨t + 1, _, _, _, by omega, by go_num, rfl, HG3.out _ HS5.out⟩, by simp only [intOf]; omega⟩
            · have hte : L = t := by omega
              subst hte
              have HSN : Hid (SB wr sb ((c.parts.take (j + 1)).foldl (ptF mostZ) z3)) := by
                have h1 := HG.out.sum
                rw [HL.out, List.take_length, ← HFT.out] at h1
                exact h1
              have HSPN : Hid (SpAt W (.slice ja jn jc) ((wgPs (c.parts.drop (j + 1))).map mostZ ++ R1)) := by
                have h1 := HG.out.sp
                rw [HL.out, List.drop_length] at h1
                rw [Hid, ← HR2.out]
                exact h1
              have HKN := hid_mk HG.out.k
              clear HG HFT HACC HQC HLS HCX HPA HTA
              go_wp2
              exact ⟨⟨j + 1, _, _, _, by omega, by go_num, rfl, HSPN, HSN, HKN⟩, by simp only [intOf]; omega⟩
        · have hje : M = j := by omega
          subst hje
          have HSF : Hid (SB wr sb (ofF mostZ c)) := by
            have h1 := HS.out
            rw [HM.out, List.take_length] at h1
            exact h1
          have HSPN : Hid (SpAt W (.slice ja jn jc) ((wgL (l.drop (i + 1))).map mostZ ++ rest)) := by
            have h1 := HSP.out
            rw [HM.out, List.drop_length] at h1
            rw [Hid, ← HR1.out]
            exact h1
          obtain ⟨⟨s0, s1, s2⟩, _⟩ := cells3s HSF.out
          obtain ⟨⟨o0, o1, o2⟩, g0, g1, g2⟩ := cells3s HK.out.1
          have hle := less_any wr mi (ofF mostZ c)
          generalize ofF mostZ c = su at *
          unfold S3.v at hle
          cases hls : lessS mi su with
          | false =>
            have HKN : Hid (∀ w', Below wr.heap.size wr w' → GrK W ((l.take (i + 1)).foldl (fun m c => upS m (ofF mostZ c)) z3) w') := fun w' hb => by
              rw [HST.out, upS, if_neg (by rw [hls]; decide)]
              exact HK.out.then hb
            rw [hls] at hle
            clear HAT HSA HEND HSP HK HS HSF HST hls HCX HPA
            go_wp2_with (go_at_call 7; fail)
            refine hle.mono ?_
            rintro e w2 ⟨rfl, hb2⟩
            have HKZ := hid_mk (HKN.out w2 hb2)
            clear hle hb2 HKN
            go_wp2
            exact ⟨⟨i + 1, _, _, _, by omega, by go_num, rfl, HSPN, HKZ⟩, by simp only [intOf]; omega⟩
          | true =>
            have HKN : Hid (∀ w', Below wr.heap.size wr w' → GrK W ((l.take (i + 1)).foldl (fun m c => upS m (ofF mostZ c)) z3) (((w'.setCell ⟨W.heap.size + 1, 0, none⟩ (.int .i64 su.a)).setCell ⟨W.heap.size + 1, 1, none⟩ (.int .i64 su.b)).setCell ⟨W.heap.size + 1, 2, none⟩ (.int .i64 su.c)) ∧ SB w' sb su ∧ SB w' (W.heap.size + 1) mi) := fun w' hb => by
              rw [HST.out, upS, if_pos hls]
              have hk := HK.out.then hb
              exact ⟨⟨hk.1.set su, (set3_ne (by omega)).trans hk.2.1, below_set3 hk.2.2 (by omega) _ _ _⟩, (hb.block _ (Array.getElem?_eq_some_iff.1 HSF.out).1).trans HSF.out, hk.1⟩
            rw [hls] at hle
            clear HAT HSA HEND HSP HK HS HSF HST hls HCX HPA
            go_wp2_with (go_at_call 7; fail)
            refine hle.mono ?_
            rintro e w2 ⟨rfl, hb2⟩
            obtain ⟨hkz, hs2, ho2⟩ := HKN.out w2 hb2
            obtain ⟨⟨t0, t1, t2⟩, _⟩ := cells3s hs2
            obtain ⟨⟨u0, u1, u2⟩, v0, v1, v2⟩ := cells3s ho2
            have HKZ := hid_mk hkz
            clear hle hb2 HKN hkz hs2 ho2 s0 s1 s2 o0 o1 o2 g0 g1 g2
            go_wp2
            exact ⟨⟨i + 1, _, _, _, by omega, by go_num, rfl, HSPN, HKZ⟩, by simp only [intOf]; omega⟩
    · have hie : i = N := by omega
      subst hie
      obtain ⟨⟨k0, k1, k2⟩, f0, f1, f2⟩ := cells3s HK.out.2.1
      obtain ⟨⟨o0, o1, o2⟩, _⟩ := cells3s HK.out.1
      have HR : Hid (R = (l.take i).foldl (fun m c => upS m (ofF mostZ c)) z3) := HEND.out
      have HB := hid_mk HK.out.2.2
      generalize (l.take i).foldl (fun m c => upS m (ofF mostZ c)) z3 = mm at *
      clear HAT HSA HEND HSP HK hil
      go_wp2
      rw [HR.out]
      exact bodyPost_ret (by simp [results, Tryz.results34, go_sem, k0, k1, k2]; rfl) rfl ⟨rfl, below_set3 HB.out (Nat.le_refl _) _ _ _⟩
end Go.Proofs.YtdibldcnklgcjaaGreatDoor.L
namespace Go.Proofs.YtdibldcnklgcjaaGreatDoor.L
open Go.RowKit
set_option maxRecDepth 100000

theorem mem_wgL {l L : List Cx} (h : L ∈ wgL l) : dpL L < dpL l := by
  obtain ⟨c, hc, h⟩ := List.mem_flatMap.1 h
  obtain ⟨p, hp, h⟩ := List.mem_flatMap.1 h
  obtain ⟨x, hx, rfl⟩ := List.mem_map.1 h
  exact dp_in hc hp (List.mem_filter.1 hx).1
def szD : Nat → List Cx → Nat
  | 0, _ => 1
  | d + 1, l => 1 + ((wgL l).map (szD d)).sum
theorem map_congr' {α β : Type} {f g : α → β} {l : List α} (h : ∀ x ∈ l, f x = g x) : l.map f = l.map g := List.map_congr_left h
theorem szD_same : ∀ (d e : Nat) (l : List Cx), dpL l < d → dpL l < e → szD d l = szD e l
  | 0, _, _, h, _ => by omega
  | _ + 1, 0, _, _, h => by omega
  | d + 1, e + 1, l, hd, he => by
    unfold szD
    rw [map_congr' (g := szD e) fun L hL => by
      have := mem_wgL hL
      exact szD_same d e L (by omega) (by omega)]
/-- How many Lists there are within, of all depths, and the list itself. -/
def szZ (l : List Cx) : Nat := szD (dpL l + 1) l
theorem szZ_step (l : List Cx) : szZ l = 1 + ((wgL l).map szZ).sum := by
  conv => lhs; unfold szZ szD
  rw [map_congr' (g := szZ) fun L hL => by
    have := mem_wgL hL
    unfold szZ
    exact szD_same _ _ L (by omega) (by omega)]
theorem szZ_pos (l : List Cx) : 1 ≤ szZ l := by rw [szZ_step]; omega
theorem sum_len : ∀ l : List (List Cx), l.length ≤ (l.map szZ).sum
  | [] => Nat.le_refl _
  | a :: r => by
    have := sum_len r
    have := szZ_pos a
    simp only [List.length_cons, List.map_cons, List.sum_cons]
    omega
/-- The queue of spread: one is taken, those within it are put behind. -/
theorem queue_step {al : List (List Cx)} {i : Nat} (h : i < al.length) : i + ((al.drop i).map szZ).sum = (i + 1) + (((al ++ wgL (al[i]'h)).drop (i + 1)).map szZ).sum := by
  rw [List.drop_append_of_le_length (by omega), List.drop_eq_getElem_cons h, List.map_cons, List.sum_cons, List.map_append, List.sum_append, szZ_step]
  omega
/-- Two lists, item by item. -/
inductive F2 {α β : Type} (r : α → β → Prop) : List α → List β → Prop
  | nil : F2 r [] []
  | cons {a : α} {b : β} {l : List α} {m : List β} (h : r a b) (t : F2 r l m) : F2 r (a :: l) (b :: m)
theorem F2.len {α β : Type} {r : α → β → Prop} {l : List α} {m : List β} (h : F2 r l m) : l.length = m.length := by
  induction h with
  | nil => rfl
  | cons _ _ ih => simp [ih]
theorem F2.get {α β : Type} {r : α → β → Prop} {l : List α} {m : List β} (h : F2 r l m) : ∀ i (h1 : i < l.length) (h2 : i < m.length), r (l[i]'h1) (m[i]'h2) := by
  induction h with
  | nil => intro i h1; exact absurd h1 (by simp)
  | cons h _ ih =>
    intro i h1 h2
    cases i with
    | zero => exact h
    | succ i => exact ih i (by simpa using h1) (by simpa using h2)
theorem F2.of {α β : Type} {r : α → β → Prop} : ∀ {l : List α} {m : List β}, l.length = m.length → (∀ i (h1 : i < l.length) (h2 : i < m.length), r (l[i]'h1) (m[i]'h2)) → F2 r l m
  | [], [], _, _ => .nil
  | a :: l, b :: m, h, hr => .cons (hr 0 (by simp) (by simp)) (F2.of (by simpa using h) fun i h1 h2 => hr (i + 1) (Nat.succ_lt_succ h1) (Nat.succ_lt_succ h2))
theorem F2.mono {α β : Type} {r s : α → β → Prop} {l : List α} {m : List β} (h : F2 r l m) (hr : ∀ a b, r a b → s a b) : F2 s l m := by
  induction h with
  | nil => exact .nil
  | cons h _ ih => exact .cons (hr _ _ h) ih
theorem F2.append {α β : Type} {r : α → β → Prop} {l l' : List α} {m m' : List β} (h : F2 r l m) (h' : F2 r l' m') : F2 r (l ++ l') (m ++ m') := by
  induction h with
  | nil => exact h'
  | cons h _ ih => exact .cons h ih
theorem F2.flat {α β γ δ : Type} {r : α → β → Prop} {s : γ → δ → Prop} {f : α → List γ} {g : β → List δ} {l : List α} {m : List β} (h : F2 r l m) (hf : ∀ a b, r a b → F2 s (f a) (g b)) : F2 s (l.flatMap f) (m.flatMap g) := by
  induction h with
  | nil => exact .nil
  | cons h _ ih => rw [List.flatMap_cons, List.flatMap_cons]; exact (hf _ _ h).append ih
/-- A simple selector lies there, and its List. -/
def LsAt (W : World) (a : Addr) (L : List Cx) : Prop := ∃ g o u, a = ⟨g, o, none⟩ ∧ g < W.heap.size ∧ W.cell? ⟨g, o + 6, none⟩ = some u ∧ ClAt W u L
theorem sel_one {W : World} {p : List (Int × Addr)} {q : List (S6 × List Cx)} (h : F2 (fun x y => x.1 = y.1.k ∧ LsAt W x.2 y.2) p q) : F2 (LsAt W) (selP wgB p) (wgP q) := by
  unfold selP wgP
  induction h with
  | nil => exact .nil
  | cons h _ ih =>
    rw [List.filter_cons, List.filter_cons, h.1]
    split
    · exact .cons h.2 ih
    · exact ih
theorem ClAt.see {W : World} {v : Value} {l : List Cx} (h : ClAt W v l) : ∃ l', SeeAt W v l' ∧ F2 (LsAt W) (selL wgB l') (wgL l) := by
  cases h with
  | mk v l b off pv cv bc oc bp op qv bq oq lv hs hc h1 h2 h3 h4 h5 h6 hr =>
    refine ⟨l.mapIdx fun i c => c.parts.mapIdx fun j p => p.mapIdx fun t x => (x.1.k, ⟨bq i j, oq i j + t * 7, none⟩), ⟨b, off, by simpa using hs, fun i hi => ?_⟩, ?_⟩
    · have hi' : i < l.length := by simpa using hi
      obtain ⟨ca, cc, e, _⟩ := h1 i hi'
      refine ⟨pv i, cv i, bp i, op i, (hc i hi').1, (hc i hi').2, ⟨ca, _, cc, e⟩, by simpa using h3 i hi', fun j hj => ?_⟩
      have hj' : j < (l[i]'hi').parts.length := by simpa using hj
      refine ⟨qv i j, bq i j, oq i j, h4 i hi' j hj', by simpa using h5 i hi' j hj', fun t ht => ?_⟩
      have ht' : t < ((l[i]'hi').parts[j]'hj').length := by simpa using ht
      refine ⟨by simp, ?_⟩
      have := h6 i hi' j hj' t ht' 0 _ rfl
      rw [Nat.add_zero] at this
      simpa using this
    · unfold selL wgL
      refine F2.flat (r := fun x c => F2 (F2 fun x y => x.1 = y.1.k ∧ LsAt W x.2 y.2) x c.parts) (F2.of (by simp) fun i hi hi' => ?_) fun x c hx => ?_
      · rw [List.getElem_mapIdx]
        refine F2.of (by simp) fun j hj hj' => ?_
        rw [List.getElem_mapIdx]
        refine F2.of (by simp) fun t ht ht' => ?_
        rw [List.getElem_mapIdx]
        refine ⟨rfl, bq i j, oq i j + t * 7, lv i j t, rfl, ?_, h6 i hi' j hj' t ht' 6 _ rfl, hr i hi' j hj' t ht'⟩
        obtain ⟨_, _, _, _, _, e⟩ := h5 i hi' j hj'
        exact (e (by omega)).2
      · exact F2.flat hx fun p q hp => sel_one hp
/-- selector.within, asked for those that are weighed. -/
theorem within_cl {W : World} {v : Value} {l : List Cx} (h : ClAt W v l) (hbig : (wgL l).length ≤ 1000000) :
    Calls Tryz.prog 39 #[v, .func (.func 67) #[] #[]] W fun e w' => ∃ v' A, e = .returned v' ∧ PsAt W.heap.size w' v' A ∧ F2 (LsAt W) A (wgL l) ∧ Below W.heap.size W w' := by
  obtain ⟨l', hs, hf⟩ := h.see
  refine (within_83 (f := wgB) (fun w k => weighed_any w k) hs (by rw [hf.len]; exact hbig)).mono ?_
  rintro e w' ⟨v', rfl, hp, hb⟩
  exact ⟨v', _, rfl, hp, hf, hb⟩
end Go.Proofs.YtdibldcnklgcjaaGreatDoor.L
