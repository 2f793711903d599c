/- trie.node's tell: each number that begins as told, and what there is for it, in order. -/
import Derived.Test.YtnmpakjklbamiaaLives
import Derived.RangeFuncNested
import Derived.RangeFuncBound
import Derived.RangeFuncCalls
import Derived.RangeFuncLeaves
import Derived.Shelf.Abstract
import Derived.Shelf.RegionOpen
import Derived.OwnWalkIn
import Derived.TacticsInMore
import Derived.LoopNIn
import Derived.LoopIn
namespace Go.Proofs.Ytnmpakjklbamiaa
open Go.RowKit Go.Shelf S
set_option maxRecDepth 100000
attribute [local go_sem] Oper.semAt_some

theorem wrap64_eq {x : Int} (h0 : -9223372036854775808 ≤ x) (h1 : x ≤ 9223372036854775807) : wrap64 x = x := by
  unfold wrap64
  omega
theorem wrap_nat (q : Nat) (h : q ≤ 1048576) : wrap64 (q : Int) = (q : Int) := wrap64_eq (by omega) (by omega)
theorem wrap_sum (n q : Nat) (h : n + q ≤ 1048576) : wrap64 ((n : Int) + (q : Int)) = ((n + q : Nat) : Int) := by
  rw [← Int.natCast_add]
  exact wrap_nat _ h
theorem le_of_sum {n q r : Nat} (h : n + q + r ≤ 1048576) : n + q ≤ 1048576 ∧ q ≤ 1048576 := by omega
theorem kid_bound {n i L : Nat} (hi : i < 16) (hn : n + 16 ^ (L + 1) ≤ 1048576) : n + i * 16 ^ L + 16 ^ L ≤ 1048576 := by
  have hpow : 16 ^ (L + 1) = 16 * 16 ^ L := by rw [Nat.pow_succ, Nat.mul_comm]
  have : (i + 1) * 16 ^ L ≤ 16 * 16 ^ L := Nat.mul_le_mul_right _ (by omega)
  rw [Nat.add_mul, Nat.one_mul] at this
  omega
/-- A number, with what is there. -/
abbrev Pr := Int × ByteArray
def encP (x : Pr) : Array Value := #[.int .i64 x.1, .string x.2]
/-- All from a number on, rising. -/
def ents : T → Nat → Nat → List Pr
  | .val _ (.string s), _, n => [((n : Int), s)]
  | .node _ k, L, n => (List.range 16).flatMap fun p => ents (k p) (L - 1) (n + p * 16 ^ (L - 1))
  | _, _, _ => []
/-- All values are strings. -/
def allS : T → Prop
  | .nil => True
  | .val _ v => ∃ s, v = .string s
  | .node _ k => ∀ p, p < 16 → allS (k p)
theorem allS.kid {t : T} (h : allS t) (p : Nat) (hp : p < 16) : allS (t.kid p) := by
  cases t with
  | nil => trivial
  | val b v => trivial
  | node b k => exact h p hp
theorem ents_kids {L : Nat} {t : T} (h : wfT (L + 1) t) (n : Nat) : ents t (L + 1) n = (List.range 16).flatMap fun p => ents (t.kid p) L (n + p * 16 ^ L) := by
  rcases wf_cases h with rfl | ⟨b, k, rfl, _⟩
  · simp [ents, T.kid]
  · rfl
/-- All blocks of cells but those from lo to hi lie as they lay. -/
structure KeepC (lo hi : Nat) (W W' : World) : Prop where
  size : W.heap.size ≤ W'.heap.size
  cells : ∀ k o, (k < lo ∨ hi ≤ k) → W.heap[k]? = some o → o.isCells = true → W'.heap[k]? = some o
theorem KeepC.refl (lo hi : Nat) (W : World) : KeepC lo hi W W := ⟨Nat.le_refl _, fun _ _ _ h _ => h⟩
theorem KeepC.trans {lo hi : Nat} {A B C : World} (h : KeepC lo hi A B) (k : KeepC lo hi B C) : KeepC lo hi A C :=
  ⟨Nat.le_trans h.size k.size, fun i o hi ho hc => k.cells i o hi (h.cells i o hi ho hc) hc⟩
theorem KeepC.of_below {lo hi : Nat} {A B : World} (h : Below A.heap.size A B) : KeepC lo hi A B :=
  ⟨h.size, fun _ _ _ ho _ => (h.block _ (Array.getElem?_eq_some_iff.1 ho).1).trans ho⟩
theorem KeepC.put {lo hi : Nat} (W : World) (l : Nat) (o o' : Obj) (h : W.heap[l]? = some o) (hc : o.isCells = false) : KeepC lo hi W (W.putObj l o') :=
  ⟨(grownBy_putObj' W l o').size, fun k u _ hu hk => by
    have hne : some k ≠ some l := fun e => by
      injection e with e
      rw [e, h] at hu
      injection hu with hu
      rw [← hu, hc] at hk
      cases hk
    exact ((grownBy_putObj' W l o').block k (Array.getElem?_eq_some_iff.1 hu).1 hne).trans hu⟩
/-- All its blocks, of values too, lie below lo. -/
def lowV (lo : Nat) : T → Prop
  | .nil => True
  | .val b _ => b < lo
  | .node b k => b < lo ∧ ∀ p, p < 16 → lowV lo (k p)
theorem lowV.kid {lo : Nat} {t : T} (h : lowV lo t) (p : Nat) (hp : p < 16) : lowV lo (t.kid p) := by
  cases t with
  | nil => trivial
  | val b v => trivial
  | node b k => exact h.2 p hp
theorem Held.lowV {ty : Nat × Nat} {w : World} : ∀ {t : T}, Held ty w t → lowV w.heap.size t
  | .nil, _ => trivial
  | .val _ _, h => (Array.getElem?_eq_some_iff.1 h).1
  | .node _ _, h => ⟨(Array.getElem?_eq_some_iff.1 h.1).1, fun p hp => Held.lowV (h.2 p hp)⟩
theorem Held.kc {ty : Nat × Nat} {lo hi : Nat} {w w' : World} (hk : KeepC lo hi w w') : ∀ {t : T}, Ytnmpakjklbamiaa.lowV lo t → Held ty w t → Held ty w' t
  | .nil, _, _ => trivial
  | .val _ _, hl, h => hk.cells _ _ (.inl hl) h rfl
  | .node _ _, hl, h => ⟨hk.cells _ _ (.inl hl.1) h.1 rfl, fun p hp => Held.kc hk (hl.2 p hp) (h.2 p hp)⟩
/-- How a telling may end. -/
def TellPost (lo hi : Nat) (W : World) (J Jx : List Pr → World → Prop) (pre es : List Pr) (e : Ending) (W' : World) : Prop :=
  (e = .returned (.bool true) ∧ J (pre ++ es) W' ∧ KeepC lo hi W W') ∨ (e = .returned (.bool false) ∧ ∃ q, q <+: es ∧ Jx (pre ++ q) W')
theorem flat_succ (g : Nat → List Pr) (i : Nat) : (List.range (i + 1)).flatMap g = (List.range i).flatMap g ++ g i := by
  rw [List.range_succ, List.flatMap_append, List.flatMap_singleton]
theorem flat_pre (g : Nat → List Pr) {i n : Nat} (h : i ≤ n) : (List.range i).flatMap g <+: (List.range n).flatMap g := by
  induction n with
  | zero => obtain rfl : i = 0 := by omega
            exact List.prefix_refl _
  | succ n ih =>
    by_cases e : i = n + 1
    · subst e; exact List.prefix_refl _
    · rw [flat_succ]
      exact (ih (by omega)).trans (List.prefix_append _ _)

set_option maxHeartbeats 2000000 in
theorem tell_step (l N lo hi : Nat) (W0 : World) (J Jx : List Pr → World → Prop) (hab : ∀ s A B, J s A → Below A.heap.size A B → J s B)
    (hY : ∀ m pre x W, J pre W → pre.length < N → YieldAt Fence.wide m Try.prog l (encP x) W fun e W' => (e = .returned (.bool true) ∧ J (pre ++ [x]) W' ∧ KeepC lo hi W W') ∨ (e = .returned (.bool false) ∧ Jx (pre ++ [x]) W'))
    (t : T) (L : Nat) (hL : L ≤ 4) (hwf : wfT (L + 1) t) (hs : allS t) (hh : Held (66, 9) W0 t) (hlow : lowV lo t)
    (hrec : ∀ p, p < 16 → (∃ b k, t.kid p = .node b k) → ∀ (m n : Nat) pre W, n + 16 ^ L ≤ 1048576 → hi ≤ W.heap.size → KeepC lo hi W0 W → J pre W → pre.length + (ents (t.kid p) L n).length ≤ N →
      CallsIn Fence.wide m Try.prog 43 #[(t.kid p).bp, .int .i64 (n : Int), .int .i64 (((4 * L : Nat) : Int) - 4), .func (.yield l) #[] #[]] W (TellPost lo hi W J Jx pre (ents (t.kid p) L n))) :
    ∀ (m n : Nat) pre W, n + 16 ^ (L + 1) ≤ 1048576 → hi ≤ W.heap.size → KeepC lo hi W0 W → J pre W → pre.length + (ents t (L + 1) n).length ≤ N →
      CallsIn Fence.wide m Try.prog 43 #[t.bp, .int .i64 (n : Int), .int .i64 ((4 * L : Nat) : Int), .func (.yield l) #[] #[]] W (TellPost lo hi W J Jx pre (ents t (L + 1) n)) := by
  intro m n pre W hn hhi hW hJ hN
  rw [ents_kids hwf] at hN ⊢
  obtain ⟨g, hg⟩ : ∃ g : Nat → List Pr, g = fun p => ents (t.kid p) L (n + p * 16 ^ L) := ⟨_, rfl⟩
  rw [← hg] at hN ⊢
  have HG := hid_mk hg
  have HN := hid_mk hN
  have HAB := hid_mk hab
  have HY := hid_mk hY
  have HREC := hid_mk hrec
  have HW := hid_mk hW
  have HJ := hid_mk hJ
  have hat : ∀ i : Nat, i < 16 → ∀ w', KeepC lo hi W0 w' → ∀ k, CallsIn Fence.wide k Try.prog 47 #[t.bp, .int .i64 i] w' fun e w'' => e = .returned (.agg #[(t.kid i).bp, (t.kid i).vp]) ∧ Below w'.heap.size w' w'' := fun i hi0 w' hw' k => callsIn_wide.2 (at_any (hh.kc hw' hlow) w' (Below.refl _ _) i hi0)
  have HAT := hid_mk hat
  have HWF := hid_mk hwf
  have HS := hid_mk hs
  have HH := hid_mk hh
  have HLW := hid_mk hlow
  clear hg hN hab hY hrec hW hJ hat hwf hs hh hlow
  obtain ⟨P0, hP0⟩ : ∃ P0, P0 = t.bp := ⟨_, rfl⟩
  rw [← hP0] at HAT
  rw [← hP0]
  clear hP0
  obtain ⟨sh, hsh⟩ : ∃ sh : Int, sh = ((4 * L : Nat) : Int) := ⟨_, rfl⟩
  rw [← hsh]
  have hs0 : 0 ≤ sh := by omega
  have hs1 : sh ≤ 16 := by omega
  have HSH := hid_mk hsh
  clear hsh
  refine callsIn_of_wp Try.func43 rfl trivial ?_ rfl
  simp only [Try.ntmps43, List.size_toArray, List.length_cons, List.length_nil, Nat.reduceAdd, Nat.reduceSub, Array.replicate_succ, Array.replicate_zero, List.push_toArray, List.append_toArray, List.nil_append, List.cons_append]
  gi_wp2
  gi_loopw [12] (fun a12 wr => ∃ i : Nat, i ≤ 16 ∧ a12 = .int .i64 (i : Int) ∧ J (pre ++ (List.range i).flatMap g) wr ∧ KeepC lo hi W wr) (fun a12 _ => 17 - (intOf a12).toNat)
  case atStart => exact ⟨0, by omega, rfl, by simpa using HJ.out, KeepC.refl _ _ _⟩
  case round =>
    obtain ⟨i, hi16, rfl, hJ, hB⟩ := hrel
    by_cases hlt : i < 16
    · have hB0 : KeepC lo hi W0 wr := HW.out.trans hB
      have hdd : ∀ k : Nat, (Fence.wide.depth.isSome = true → 1 ≤ k) := fun k h => by cases h
      have h1 := HAT.out i hlt wr hB0
      have hbd := kid_bound hlt hn
      have hf43 : Fence.wide.fn 43 := trivial
      have hf47 : Fence.wide.fn 47 := trivial
      have e16 : (2 : Int) ^ sh.toNat = ((16 ^ L : Nat) : Int) := by rw [HSH.out, Int.toNat_natCast, Int.pow_mul]; norm_cast
      obtain ⟨q, hq⟩ : ∃ q, q = i * 16 ^ L := ⟨_, rfl⟩
      have hw1 : wrap64 ((i : Int) * 2 ^ sh.toNat) = (q : Int) := by
        rw [e16, ← Int.natCast_mul, ← hq]
        exact wrap_nat q (by rw [hq]; exact (le_of_sum hbd).2)
      have hw2 : wrap64 ((n : Int) + (q : Int)) = ((n + q : Nat) : Int) := wrap_sum n q (by rw [hq]; exact (le_of_sum hbd).1)
      rw [← hq] at hbd
      have hgi : g i = ents (t.kid i) L (n + i * 16 ^ L) := by rw [HG.out]
      rw [← hq] at hgi
      clear hq e16
      have HGI := hid_mk hgi
      have HFS := hid_mk (flat_succ g i)
      have HFP := hid_mk (flat_pre g (show i + 1 ≤ 16 by omega))
      obtain ⟨a0, e0⟩ := (t.kid i).bp_ptr
      obtain ⟨a1, e1⟩ := (t.kid i).vp_ptr
      clear hgi
      cases hk : t.kid i with
      | nil =>
        have h1' : ∀ k, CallsIn Fence.wide k Try.prog 47 #[P0, .int .i64 i] wr fun e w'' => e = .returned (.agg #[.pointer none, .pointer none]) ∧ Below wr.heap.size wr w'' := fun k => by
          have := h1 k
          rw [hk] at this
          exact this
        clear h1
        gi_wp2_with ((try refine ⟨hdd _, ?_⟩); gi_at_call 47; refine (h1' _).mono ?_; clear h1'; rintro e w1 ⟨rfl, hb1⟩)
        all_goals
          refine ⟨fun _ h => (by cases h), ?_⟩
          gi_wp2
          go_roundw
          case rel =>
            have e : g i = [] := by rw [HGI.out, hk]; rfl
            exact ⟨i + 1, by omega, rfl, by rw [HFS.out, e, List.append_nil]; exact HAB.out _ _ _ hJ (balloc hb1 _), hB.trans (KeepC.of_below (balloc hb1 _))⟩
          case measure => simp [intOf]; omega
      | val b v =>
        obtain ⟨s, rfl⟩ : ∃ s, v = .string s := by
          have := HS.out.kid i hlt
          rw [hk] at this
          exact this
        have hL0 : L = 0 := by
          have := HWF.out.kid i hlt
          rw [hk] at this
          cases L with
          | zero => rfl
          | succ L => exact this.elim
        have h1' : ∀ k, CallsIn Fence.wide k Try.prog 47 #[P0, .int .i64 i] wr fun e w'' => e = .returned (.agg #[.pointer none, .pointer (some ⟨b, 0, none⟩)]) ∧ Below wr.heap.size wr w'' := fun k => by
          have := h1 k
          rw [hk] at this
          exact this
        have hcell0 : W0.heap[b]? = some (.cells #[.string s] 9 (0, 0)) := by
          have := HH.out.kid i hlt
          rw [hk] at this
          exact this
        have egi : g i = [(((n + q : Nat) : Int), s)] := by rw [HGI.out, hk]; rfl
        have hlenN : (pre ++ (List.range i).flatMap g).length < N := by
          have h1 := HFP.out.length_le
          have h2 := HN.out
          rw [HFS.out, egi] at h1
          simp only [List.length_append, List.length_cons, List.length_nil] at h1 ⊢
          omega
        have hlb : b < lo := by
          have := HLW.out.kid i hlt
          rw [hk] at this
          exact this
        have HLB := hid_mk hlb
        have HC0 := hid_mk hcell0
        have HEG := hid_mk egi
        have HLN := hid_mk hlenN
        have HJ1 := hid_mk hJ
        clear hlb h1 hcell0 egi hlenN hJ
        gi_wp2_with ((try refine ⟨hdd _, ?_⟩); gi_at_call 47; fail)
        refine ⟨hdd _, ?_⟩
        refine (h1' _).mono ?_
        clear h1'
        rintro e w1 ⟨rfl, hb1⟩
        have hbA := balloc hb1 (.cells #[.pointer none, .pointer (some ⟨b, 0, none⟩)] 63)
        have hBA0 : KeepC lo hi W0 (w1.alloc (.cells #[.pointer none, .pointer (some ⟨b, 0, none⟩)] 63)) := hB0.trans (KeepC.of_below hbA)
        have hcA : (w1.alloc (.cells #[.pointer none, .pointer (some ⟨b, 0, none⟩)] 63)).cell? ⟨b, 0, none⟩ = some (.string s) := by
          rw [cell_of_row _ _ _ _ _ _ (hBA0.cells _ _ (.inl HLB.out) HC0.out rfl)]
          rfl
        obtain ⟨fn, tmps, assign, body, hy, hR⟩ := HY.out (m - 1) _ (((n + q : Nat) : Int), s) _ (HAB.out _ _ _ HJ1.out hbA) HLN.out
        dsimp only [encP] at hy
        rw [Int.natCast_add] at hy
        gi_wp2_with ((try refine ⟨hdd _, ?_⟩); refine hR.mono ?_; clear hR; rintro e W2 (⟨rfl, hJ2, hb2⟩ | ⟨rfl, hx2⟩))
        · refine ⟨⟨i + 1, by omega, rfl, ?_, ?_⟩, by simp only [intOf]; omega⟩
          · rw [HFS.out, HEG.out, ← List.append_assoc]
            exact hJ2
          · exact hB.trans ((KeepC.of_below hbA).trans hb2)
        · go_ret
          refine .inr ⟨rfl, (List.range i).flatMap g ++ [(((n + q : Nat) : Int), s)], ?_, ?_⟩
          · rw [← HEG.out, ← HFS.out]
            exact HFP.out
          · rw [← List.append_assoc]
            exact hx2
      | node b k =>
        have h1' : ∀ k, CallsIn Fence.wide k Try.prog 47 #[P0, .int .i64 i] wr fun e w'' => e = .returned (.agg #[.pointer (some ⟨b, 0, none⟩), .pointer none]) ∧ Below wr.heap.size wr w'' := fun k => by
          have := h1 k
          rw [hk] at this
          exact this
        have HJ1 := hid_mk hJ
        have hlenN : (pre ++ (List.range i).flatMap g).length + (g i).length ≤ N := by
          have h1 := HFP.out.length_le
          have h2 := HN.out
          rw [HFS.out] at h1
          simp only [List.length_append] at h1 ⊢
          omega
        have hrec : ∀ w', hi ≤ w'.heap.size → KeepC lo hi W0 w' → J (pre ++ (List.range i).flatMap g) w' → CallsIn Fence.wide (m - 1) Try.prog 43 #[.pointer (some ⟨b, 0, none⟩), .int .i64 ((n : Int) + (q : Int)), .int .i64 (sh - 4), .func (.yield l) #[] #[]] w' (TellPost lo hi w' J Jx (pre ++ (List.range i).flatMap g) (g i)) := fun w' hh' hw' hj' => by
          rw [HGI.out] at hlenN
          have := HREC.out i hlt ⟨b, k, hk⟩ (m - 1) (n + q) _ w' hbd hh' hw' hj' hlenN
          rw [← HGI.out, hk, Int.natCast_add, ← HSH.out] at this
          exact this
        have HR := hid_mk hrec
        have hL1 : 4 ≤ sh := by
          have := HWF.out.kid i hlt
          rw [hk] at this
          cases L with
          | zero => exact absurd rfl (this b k)
          | succ L => rw [HSH.out]; omega
        clear h1 hlenN hJ hrec
        gi_wp2_with ((try refine ⟨hdd _, ?_⟩); gi_at_call 47; fail)
        refine ⟨hdd _, ?_⟩
        refine (h1' _).mono ?_
        clear h1'
        rintro e w1 ⟨rfl, hb1⟩
        have hbA := balloc hb1 (.cells #[.pointer (some ⟨b, 0, none⟩), .pointer none] 63)
        have hBA0 : KeepC lo hi W0 (w1.alloc (.cells #[.pointer (some ⟨b, 0, none⟩), .pointer none] 63)) := hB0.trans (KeepC.of_below hbA)
        have hszW : hi ≤ (w1.alloc (.cells #[.pointer (some ⟨b, 0, none⟩), .pointer none] 63)).heap.size := Nat.le_trans hhi (Nat.le_trans hB.size hbA.size)
        have hR := HR.out _ hszW hBA0 (HAB.out _ _ _ HJ1.out hbA)
        have hlocal := heap_alloc_last w1 (.cells #[.pointer (some ⟨b, 0, none⟩), .pointer none] 63)
        have HLOC := hid_mk hlocal
        have hhw : hi ≤ w1.heap.size := Nat.le_trans hhi (Nat.le_trans hB.size hb1.size)
        clear hlocal
        clear HR
        gi_wp2_with ((try refine ⟨hdd _, ?_⟩); gi_at_call 43; refine hR.mono ?_; clear hR; rintro e W2 (⟨rfl, hJ2, hb2⟩ | ⟨rfl, qq, hqq, hx2⟩); have hc2 : W2.cell? ⟨w1.heap.size, 1, none⟩ = some (.pointer none) := (by rw [cell_of_row _ _ _ _ _ _ (hb2.cells _ _ (.inr hhw) HLOC.out rfl)]; rfl))
        · refine ⟨fun _ h => (by cases h), ?_⟩
          gi_wp2
          go_roundw
          case rel => exact ⟨i + 1, by omega, rfl, by rw [HFS.out, ← List.append_assoc]; exact hJ2, hB.trans ((KeepC.of_below hbA).trans hb2)⟩
          case measure => simp [intOf]; omega
        · go_ret
          refine .inr ⟨rfl, (List.range i).flatMap g ++ qq, ?_, ?_⟩
          · obtain ⟨r, hr⟩ := hqq
            refine List.IsPrefix.trans ⟨r, ?_⟩ HFP.out
            rw [HFS.out, List.append_assoc, hr]
          · rw [← List.append_assoc]
            exact hx2
    · obtain rfl : i = 16 := by omega
      gi_wp2
      go_ret
      exact .inl ⟨rfl, hJ, hB⟩

end Go.Proofs.Ytnmpakjklbamiaa
