/- Needs of any selector, as soon as slices.Sort of keys sorts. -/
import Derived.Test.YtdiljkmlneeboaaCpt
namespace Go.Proofs.Ytdiljkmlneeboaa
open Go.RowKit Go.Lib Go.Sort
set_option maxRecDepth 100000

/-- What is asked of slices.Sort of keys. -/
def SortC : Prop := ∀ (g cap : Nat) (zs : List Int) (w : World), Holds (Value.int .u32) w g 0 zs.toArray → g < w.heap.size → zs.length ≤ cap → zs.length ≤ 1000000 →
  Calls Try.prog 28 #[.slice (some ⟨g, 0, none⟩) zs.length cap] w fun e w' => e = .returned (.tuple #[]) ∧ ∃ ys : List Int, ys.Perm zs ∧ ys.Pairwise (· ≤ ·) ∧ Holds (Value.int .u32) w' g 0 ys.toArray ∧ KeepX g w w'
def intsL (l : List Nat) : List Int := l.map fun k : Nat => (k : Int)
theorem putRow_keep (enc : Int → Value) (w : World) (q g off : Nat) (d : Array Int) : KeepX g w (putRow enc (Sort.ahead w q) g off d) := by
  refine ⟨rfl, rfl, rfl, by simp, fun k _ hk => ?_⟩
  simp only [putRow, mapBlock, Array.getElem?_modify, heap_ahead]
  rw [if_neg (fun h => hk h.symm)]
theorem OwnK.holds {w : World} {B : Nat} {v : Value} {l : List Nat} (h : OwnK w B v l) (hl : l ≠ []) : ∃ g cap, v = .slice (some ⟨g, 0, none⟩) l.length cap ∧ B ≤ g ∧ g < w.heap.size ∧ l.length ≤ cap ∧ Holds (Value.int .u32) w g 0 (intsL l).toArray := by
  have h0 := h
  rcases h.2 with ⟨_, hn⟩ | ⟨g, cap, cur, rfl, hBg, hg, hnc, hcm, _⟩
  · exact absurd (List.eq_nil_of_length_eq_zero hn) hl
  · refine ⟨g, cap, rfl, hBg, (Array.getElem?_eq_some_iff.1 hg).1, hnc, fun j hj => ⟨?_, by simp [World.frozen?, hg]⟩⟩
    have hjl : j < l.length := by simpa [intsL] using hj
    rw [Nat.zero_add, World.ownsRow.cellAt h0 j (by omega)]
    simp [keysV, intsL, hjl]

set_option maxHeartbeats 1000000 in
theorem insert_nil (w : World) : Calls Try.prog 33 #[.slice none 0 0, .int .i64 0, .int .i64 0] w fun e w' => e = .returned (.tuple #[]) ∧ w' = w := by
  go_enter Try.func33, Try.ntmps33
  go_wp2
  refine wp_loop_rounds 1 ?_
  rw [rounds_succ]
  go_wp2
  exact bodyPost_end (v := .tuple #[]) (by simp [results, Try.results33, go_sem]) rfl ⟨rfl, rfl⟩
set_option maxHeartbeats 1000000 in
theorem pdq_nil (l : Int) (w : World) : Calls Try.prog 31 #[.slice none 0 0, .int .i64 0, .int .i64 0, .int .i64 l] w fun e w' => e = .returned (.tuple #[]) ∧ w' = w := by
  have h1 := insert_nil w
  go_enter Try.func31, Try.ntmps31
  go_wp2
  refine wp_loop_rounds 1 ?_
  rw [rounds_succ]
  go_wp2_with (go_at_call 33; fail)
  refine h1.mono ?_
  rintro e w' ⟨rfl, rfl⟩
  go_wp2
  exact bodyPost_ret (v := .tuple #[]) (by simp [results, Try.results31, go_sem]) rfl ⟨rfl, rfl⟩
set_option maxHeartbeats 1000000 in
theorem sort_nil (w : World) : Calls Try.prog 28 #[.slice none 0 0] w fun e w' => e = .returned (.tuple #[]) ∧ w' = w := by
  have h1 := fun l => pdq_nil l w
  have h2 : Calls Try.prog 32 #[.int .u64 0] w _ := Any.bits_Len Try.laysLen 0 w (by decide) (by decide)
  go_enter Try.func28, Try.ntmps28
  go_wp2_with (go_at_call 32; fail)
  refine h2.mono ?_
  rintro e w' ⟨rfl, rfl⟩
  go_wp2_with (go_at_call 31; fail)
  refine (h1 _).mono ?_
  rintro e w' ⟨rfl, rfl⟩
  go_wp2
  exact bodyPost_end (v := .tuple #[]) (by simp [results, Try.results28, go_sem]) rfl ⟨rfl, rfl⟩
set_option maxHeartbeats 1000000 in
theorem compact_nil (w : World) : Calls Try.prog 29 #[.slice none 0 0] w fun e w' => e = .returned (.slice none 0 0) ∧ w' = w := by
  go_enter Try.func29, Try.ntmps29
  go_wp2
  go_ret
  exact ⟨rfl, rfl⟩
/-- Sorted and each once, of keys: what the document tells. -/
theorem compact_of {ys : List Int} {l : List Nat} (hp : ys.Perm (intsL l)) (hs : ys.Pairwise (· ≤ ·)) : compactUpTo ys.toArray ys.toArray.size = intsL (putsL l) := by
  refine compact_puts ys.toArray (fun i j hij hj => ?_) l fun y => ?_
  · have hj' : j < ys.length := by simpa using hj
    have hi' : i < ys.length := by omega
    rw [getElem!_pos ys.toArray i (by simpa using hi'), getElem!_pos ys.toArray j (by simpa using hj')]
    rcases Nat.lt_or_ge i j with h | h
    · exact List.pairwise_iff_getElem.1 hs i j hi' hj' h
    · have e : i = j := by omega
      subst e
      exact Int.le_refl _
  · have h1 : (∃ j, j < ys.toArray.size ∧ ys.toArray[j]! = y) ↔ y ∈ ys := by
      constructor
      · rintro ⟨j, hj, rfl⟩
        rw [getElem!_pos ys.toArray j hj]
        simp
      · intro hy
        obtain ⟨j, hj, e⟩ := List.getElem_of_mem hy
        refine ⟨j, by simpa using hj, ?_⟩
        rw [getElem!_pos ys.toArray j (by simpa using hj)]
        simpa using e
    rw [h1, hp.mem_iff]
    unfold intsL
    rw [List.mem_map]
    constructor
    · rintro ⟨k, hk, e⟩
      exact ⟨k, hk, e.symm⟩
    · rintro ⟨k, hk, e⟩
      exact ⟨k, hk, e.symm⟩
/-- What a call keeps that tells the keys one by one to a variable's slice. -/
def GJ (w0 : World) (b B : Nat) (l : List Nat) (W : World) : Prop := ∃ v, W.heap[b]? = some (.cells #[v] 40 (0, 0)) ∧ OwnK W B v l ∧ KeepB b B w0 W
theorem KeepB.then {b B : Nat} {w w1 w2 : World} (h : KeepB b B w w1) (k : Below w1.heap.size w1 w2) (hB : B ≤ w.heap.size) : KeepB b B w w2 :=
  ⟨k.os.trans h.os, k.tape.trans h.tape, k.output.trans h.output, Nat.le_trans h.size k.size, fun j hj hn => (k.block j (by have := h.size; omega)).trans (h.block j hj hn)⟩
theorem KeepB.trans {b B : Nat} {w w1 w2 : World} (h : KeepB b B w w1) (k : KeepB b B w1 w2) : KeepB b B w w2 :=
  ⟨k.os.trans h.os, k.tape.trans h.tape, k.output.trans h.output, Nat.le_trans h.size k.size, fun j hj hn => (k.block j hj hn).trans (h.block j hj hn)⟩

set_option maxHeartbeats 1000000 in
theorem need23_any {wB w : World} {pv cv : Value} {c : Cx} {bc oc bp op : Nat} {qv : Nat → Value} {bq oq : Nat → Nat} {lv : Nat → Nat → Value} {b bx : Nat}
    (hc : CxAt (ClAt wB) wB pv cv c bc oc bp op qv bq oq lv) (hn : ∀ p ∈ c.parts, ∀ x ∈ p, x.1.nm.size ≤ 5000) (hlc : c.parts.length ≤ 1000000) (hal : (asksL c).length ≤ 1000000)
    (hB : Below wB.heap.size wB w) (hb : wB.heap.size ≤ b) (hx : w.heap[bx]? = some (.cells #[pv, cv] 36 (0, 0))) (hk : w.heap[b]? = some (.cells #[.slice none 0 0] 40 (0, 0))) :
    Calls Try.prog 23 #[.func (.func 27) #[] #[.pointer (some ⟨b, 0, none⟩)], .pointer (some ⟨bx, 0, none⟩)] w fun e w' => e = .returned (.tuple #[]) ∧ (∃ v, w'.heap[b]? = some (.cells #[v] 40 (0, 0)) ∧ OwnK w' w.heap.size v (asksL c)) ∧ KeepX b w w' := by
  have hbl : b < w.heap.size := (Array.getElem?_eq_some_iff.1 hk).1
  have hw0 : Below w.heap.size w (w.alloc (.cells #[pv, cv] 36)) := (Below.refl _ _).alloc (Nat.le_refl _) _
  have hask := asksH_27 (J := GJ (w.alloc (.cells #[pv, cv] 36)) b (w.heap.size + 1)) (pv := pv) (cv := cv) (c := c) (bc := bc) (oc := oc) (bp := bp) (op := op) (qv := qv) (bq := bq) (oq := oq) (lv := lv) (b := b) (N := 1000000)
    (fun l W W' ⟨v, h1, h2, h3⟩ hb' => ⟨v, (hb'.block _ (Array.getElem?_eq_some_iff.1 h1).1).trans h1, h2.keep hb', h3.then hb' (by simp)⟩)
    (fun l W ⟨v, h1, h2, h3⟩ => hc.keep ⟨h3.os.trans (hw0.os.trans hB.os), h3.tape.trans (hw0.tape.trans hB.tape), h3.output.trans (hw0.output.trans hB.output), Nat.le_trans hB.size (Nat.le_trans hw0.size h3.size), fun j hj => (h3.block j (by have := hB.size; omega) (by omega)).trans ((hw0.block j (by have := hB.size; omega)).trans (hB.block j hj))⟩)
    (fun p hp x hx => Nat.le_trans (hn p hp x hx) (by decide)) (by omega)
    (fun l W k _ hl ⟨v, h1, h2, h3⟩ => (tellK h1 h2 (by omega) (by have := h3.size; simp at this; omega) hl k).mono fun e W' q => ⟨q.1, by
      obtain ⟨_, ⟨v', a1, a2⟩, a3⟩ := q
      exact ⟨v', a1, a2, h3.trans a3⟩⟩)
    (w := w) (l := []) (by simpa using hal) ⟨.slice none 0 0, (hw0.block _ hbl).trans hk, OwnK.nil _ _, ⟨rfl, rfl, rfl, Nat.le_refl _, fun _ _ _ => rfl⟩⟩
    (fun l W ⟨v, h1, h2, h3⟩ => (h3.block _ (by omega) (by omega)).trans (heap_alloc_last w _))
  rw [List.nil_append] at hask
  have HR : Hid (∀ W, GJ (w.alloc (.cells #[pv, cv] 36)) b (w.heap.size + 1) (asksL c) W → (∃ v, W.heap[b]? = some (.cells #[v] 40 (0, 0)) ∧ OwnK W w.heap.size v (asksL c)) ∧ KeepX b w W) := fun W ⟨v, h1, h2, h3⟩ =>
    ⟨⟨v, h1, h2.low (by omega)⟩, ⟨h3.os.trans hw0.os, h3.tape.trans hw0.tape, h3.output.trans hw0.output, Nat.le_trans hw0.size h3.size, fun j hj hn => (h3.block j (by omega) hn).trans (hw0.block j hj)⟩⟩
  have c0 : w.cell? ⟨bx, 0, none⟩ = some pv := cellAt hx 0
  have c1 : w.cell? ⟨bx, 1, none⟩ = some cv := cellAt hx 1
  obtain ⟨pa, pc, epv, _⟩ := hc.ps
  obtain ⟨ca, cc, ecv, _⟩ := hc.cs
  subst epv ecv
  generalize GJ _ b (w.heap.size + 1) (asksL c) = G at *
  clear hc hn hB hx hk hw0 hal
  go_enter Try.func23, Try.ntmps23
  go_wp2_with (go_at_call 24; fail)
  refine hask.mono ?_
  rintro e w2 ⟨rfl, hq⟩
  have HQ := hid_mk (HR.out _ hq)
  clear hask hq c0 c1 HR
  go_wp2
  exact bodyPost_end (v := .tuple #[]) (by simp [results, Try.results23, go_sem]) rfl ⟨rfl, HQ.out.1, HQ.out.2⟩
end Go.Proofs.Ytdiljkmlneeboaa
