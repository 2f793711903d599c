/- The reader of selectors: which kind a colon and a function mean. The reader of selectors: an operator. The reader of selectors: told of a literal, whatever was made since. The reader of selectors: a colon and a name. The reader of selectors: a comb. nth.Fits and the document's Fits, in plain numbers. nth.First, nth.Print at what the examples ask, and the document's examples. The document's examples of layer 4 are as it says. A number's digits: strconv.Itoa's and the document's are the same. -/
import Derived.Test.YtbeolmofnmnknaaGreatDoorLTg
import Derived.Test.YtbeolmofnmnknaaGreatDoorRows
import Derived.WalkKit
import Derived.WalkLawsBesides
import Derived.IntWalk
import Derived.WalkSmall
import Derived.WalkMore
import Derived.Laws.IdiomStrings
import Derived.WalkSpells
import Derived.Laws.BytesArg
import Derived.Laws.Cover4
import Derived.Shelf.Strconv.Itoa3
import Derived.Shelf.Lay
import Derived.Lib.AppendIntMem
namespace Go.Proofs.YtbeolmofnmnknaaGreatDoor.L
open Go.RowKit
set_option maxRecDepth 100000

theorem Signs.lt {W : World} (h : Signs W) {j : Nat} {v : Value} (hv : sgnC[j]? = some v) : sgB < W.heap.size := by
  have h1 := h j v hv
  rcases Nat.lt_or_ge sgB W.heap.size with h0 | h0
  · exact h0
  · have : W.heap[sgB]? = none := Array.getElem?_eq_none h0
    simp [World.cell?, this] at h1
theorem Signs.keep {W W' : World} (h : Signs W) (hb : Below W.heap.size W W') : Signs W' := fun j v hv => by
  have h1 := h j v hv
  have hl := h.lt (v := v) hv
  exact (cell_of_heap (hb.block sgB hl)).trans h1
theorem Signs.keepX {W W' : World} {b : Nat} (h : Signs W) (hb : KeepX b W W') (hn : b ≠ sgB) : Signs W' := fun j v hv => by
  have h1 := h j v hv
  have hl := h.lt (v := v) hv
  exact (cell_of_heap (hb.block sgB hl (by omega))).trans h1
/-- The kind that a colon and a function mean; 0: none. -/
def fnR (vs : List V) : Int := match vs[1]? with
  | some u => if (ahd vs 0 16 && ahd vs 1 2) = true then numZ 2 (foldS u.tok.tx) else 0
  | none => 0
theorem ahd_some {vs : List V} {i : Nat} {k : Int} (h : ahd vs i k = true) : ∃ u, vs[i]? = some u := by
  unfold ahd at h
  cases hu : vs[i]? with
  | none => rw [hu] at h; cases h
  | some u => exact ⟨u, rfl⟩
theorem fnR_no {vs : List V} (h : (ahd vs 0 16 && ahd vs 1 2) = false) : fnR vs = 0 := by
  unfold fnR
  cases vs[1]? with
  | none => rfl
  | some u => simp only []; rw [if_neg (by rw [h]; decide)]

set_option maxHeartbeats 1000000 in
theorem function_any {W0 W : World} {lo b : Nat} {kids : Value} {vs : List V} (h : Rd lo W0 b kids vs W) (hsg : Signs W) (hz : ∀ v ∈ vs, v.tok.tx.size ≤ 1000000000000) :
    Calls Tryz.prog 105 #[.pointer (some ⟨b, 0, none⟩)] W fun e w' => e = .returned (.int .i64 (fnR vs)) ∧ Below W.heap.size W w' := by
  have ha := ahead_any h 0 16
  have ha2 := ahead_any h 1 2
  cases hk1 : ahd vs 0 16 with
  | false =>
    rw [fnR_no (by rw [hk1]; rfl)]
    rw [hk1] at ha
    clear h hsg hz hk1 ha2
    go_enter Tryz.func105, Tryz.ntmps105
    go_wp2_with (go_at_call 40; fail)
    refine ha.mono ?_
    rintro e w1 ⟨rfl, rfl⟩
    clear ha
    go_wp2
    go_ret
    exact ⟨rfl, Below.refl _ _⟩
  | true =>
    cases hk2 : ahd vs 1 2 with
    | false =>
      rw [fnR_no (by rw [hk1, hk2]; rfl)]
      rw [hk1] at ha
      rw [hk2] at ha2
      clear h hsg hz hk1 hk2
      go_enter Tryz.func105, Tryz.ntmps105
      go_wp2_with (go_at_call 40; fail)
      refine ha.mono ?_
      rintro e w1 ⟨rfl, rfl⟩
      clear ha
      go_wp2_with (go_at_call 40; fail)
      refine ha2.mono ?_
      rintro e w1 ⟨rfl, rfl⟩
      clear ha2
      go_wp2
      go_ret
      exact ⟨rfl, Below.refl _ _⟩
    | true =>
      obtain ⟨u, hu⟩ := ahd_some hk2
      have HE : Hid (fnR vs = numZ 2 (foldS u.tok.tx)) := by
        rw [Hid]
        unfold fnR
        rw [hu]
        simp only [hk1, hk2, Bool.and_self, if_true]
      have hus : u.tok.tx.size ≤ 1000000000000 := hz u (List.mem_of_getElem? hu)
      obtain ⟨a, n, cap, hn, hc1, hc2, h1, _, hs⟩ := h.see
      have c0 : W.cell? ⟨b, 0, none⟩ = some (.slice a n cap) := cellAt h1 0
      obtain ⟨hl, g, off, kv, rfl, q0, q1, q4, q5, hkv⟩ := hs 1 u hu
      rw [Nat.one_mul] at q0 q1 q4 q5
      have hfo := fold_any u.tok.tx W hus
      have HN : Hid (∀ w2, Below W.heap.size W w2 → _) := fun w2 hB => number_any (hsg.keep hB) 2 (foldS u.tok.tx)
      rw [HE.out]
      rw [hk1] at ha
      rw [hk2] at ha2
      clear h h1 hs hn HE hk1 hk2 q0 q4 q5 hkv hu hz hsg
      go_enter Tryz.func105, Tryz.ntmps105
      go_wp2_with (go_at_call 40; fail)
      refine ha.mono ?_
      rintro e w1 ⟨rfl, rfl⟩
      clear ha
      go_wp2_with (go_at_call 40; fail)
      refine ha2.mono ?_
      rintro e w1 ⟨rfl, rfl⟩
      clear ha2
      go_wp2_with (go_at_call 61; fail)
      refine hfo.mono ?_
      rintro e w2 ⟨rfl, hB2⟩
      have hnu := HN.out w2 hB2
      have HB2 := hid_mk hB2
      clear hfo HN hB2
      go_wp2_with (go_at_call 87; fail)
      refine hnu.mono ?_
      rintro e w3 ⟨rfl, hB3⟩
      have HB3 := hid_mk (HB2.out.trans (hB3.mono HB2.out.size))
      clear hnu hB3
      go_wp2
      go_ret
      exact ⟨rfl, HB3.out⟩
end Go.Proofs.YtbeolmofnmnknaaGreatDoor.L
namespace Go.Proofs.YtbeolmofnmnknaaGreatDoor.L
open Go.RowKit
set_option maxRecDepth 100000

def eqB : ByteArray := ⟨#[61]⟩
/-- The operator that stands here, and how many values it is. -/
def opR (vs : List V) : Int × Nat := if dlm vs 0 eqB = true then (1, 1) else if (ahd vs 0 9 && dlm vs 1 eqB) = true then (match vs[0]? with
  | some v => numZ 1 v.tok.tx
  | none => 0, 2) else (0, 0)
theorem dlm_lt {vs : List V} {i : Nat} {s : ByteArray} (h : dlm vs i s = true) : i < vs.length := by
  unfold dlm at h
  cases hu : vs[i]? with
  | none => rw [hu] at h; cases h
  | some u => exact (List.getElem?_eq_some_iff.1 hu).1

set_option maxHeartbeats 1000000 in
theorem operator_any {W : World} {lo b : Nat} {kids : Value} {vs : List V} (h : Rd lo W b kids vs W) (hsg : Signs W) :
    Calls Tryz.prog 107 #[.pointer (some ⟨b, 0, none⟩)] W fun e w' => e = .returned (.int .i64 (opR vs).1) ∧ Rd lo W b kids (vs.drop (opR vs).2) w' := by
  have hd := delim_any h 0 eqB
  have ha := ahead_any h 0 9
  have hd1 := delim_any h 1 eqB
  cases hk : dlm vs 0 eqB with
  | true =>
    have HE : Hid (opR vs = (1, 1)) := by rw [Hid, opR, if_pos hk]
    have hsk := skip_any h 1 (dlm_lt hk)
    rw [HE.out]
    rw [hk] at hd
    unfold eqB at hd
    clear h hsg ha hd1 hk HE
    go_enter Tryz.func107, Tryz.ntmps107
    go_wp2_with (go_at_call 95; fail)
    refine hd.mono ?_
    rintro e w1 ⟨rfl, rfl⟩
    clear hd
    go_wp2_with (go_at_call 41; fail)
    refine hsk.mono ?_
    rintro e w2 ⟨rfl, hR⟩
    have HR := hid_mk hR
    clear hsk hR
    go_wp2
    go_ret
    exact ⟨rfl, HR.out⟩
  | false =>
    rw [hk] at hd
    unfold eqB at hd
    cases hk1 : ahd vs 0 9 with
    | false =>
      have HE : Hid (opR vs = (0, 0)) := by rw [Hid, opR, if_neg (by rw [hk]; decide), if_neg (by rw [hk1]; simp)]
      have HR := hid_mk h
      rw [HE.out]
      rw [hk1] at ha
      clear h hsg hd1 hk hk1 HE
      go_enter Tryz.func107, Tryz.ntmps107
      go_wp2_with (go_at_call 95; fail)
      refine hd.mono ?_
      rintro e w1 ⟨rfl, rfl⟩
      clear hd
      go_wp2_with (go_at_call 40; fail)
      refine ha.mono ?_
      rintro e w1 ⟨rfl, rfl⟩
      clear ha
      go_wp2
      go_ret
      exact ⟨rfl, HR.out⟩
    | true =>
      cases hk2 : dlm vs 1 eqB with
      | false =>
        have HE : Hid (opR vs = (0, 0)) := by rw [Hid, opR, if_neg (by rw [hk]; decide), if_neg (by rw [hk2]; simp)]
        have HR := hid_mk h
        rw [HE.out]
        rw [hk1] at ha
        rw [hk2] at hd1
        unfold eqB at hd1
        clear h hsg hk hk1 hk2 HE
        go_enter Tryz.func107, Tryz.ntmps107
        go_wp2_with (go_at_call 95; fail)
        refine hd.mono ?_
        rintro e w1 ⟨rfl, rfl⟩
        clear hd
        go_wp2_with (go_at_call 40; fail)
        refine ha.mono ?_
        rintro e w1 ⟨rfl, rfl⟩
        clear ha
        go_wp2_with (go_at_call 95; fail)
        refine hd1.mono ?_
        rintro e w1 ⟨rfl, rfl⟩
        clear hd1
        go_wp2
        go_ret
        exact ⟨rfl, HR.out⟩
      | true =>
        obtain ⟨u, hu⟩ := ahd_some hk1
        have HE : Hid (opR vs = (numZ 1 u.tok.tx, 2)) := by rw [Hid, opR, if_neg (by rw [hk]; decide), if_pos (by rw [hk1, hk2]; rfl), hu]
        obtain ⟨a, n, cap, hn, hc1, hc2, h1, _, hs⟩ := h.see
        have c0 : W.cell? ⟨b, 0, none⟩ = some (.slice a n cap) := cellAt h1 0
        obtain ⟨hl, g, off, kv, rfl, q0, q1, q4, q5, hkv⟩ := hs 0 u hu
        rw [Nat.zero_mul, Nat.add_zero] at q0 q1 q4 q5
        have hnu := number_any hsg 1 u.tok.tx
        have HSK : Hid (∀ w2, Below W.heap.size W w2 → Calls Tryz.prog 41 #[.pointer (some ⟨b, 0, none⟩), .int .i64 2] w2 fun e w' => e = .returned (.tuple #[]) ∧ Rd lo W b kids (vs.drop 2) w') := fun w2 hB => (skip_any (h.then hB).self 2 (dlm_lt hk2)).mono fun e w' q => ⟨q.1, (h.then hB).from q.2⟩
        rw [HE.out]
        rw [hk1] at ha
        rw [hk2] at hd1
        unfold eqB at hd1
        clear h h1 hs hn HE hk hk1 hk2 q0 q4 q5 hkv hu hsg
        go_enter Tryz.func107, Tryz.ntmps107
        go_wp2_with (go_at_call 95; fail)
        refine hd.mono ?_
        rintro e w1 ⟨rfl, rfl⟩
        clear hd
        go_wp2_with (go_at_call 40; fail)
        refine ha.mono ?_
        rintro e w1 ⟨rfl, rfl⟩
        clear ha
        go_wp2_with (go_at_call 95; fail)
        refine hd1.mono ?_
        rintro e w1 ⟨rfl, rfl⟩
        clear hd1
        go_wp2_with (go_at_call 87; fail)
        refine hnu.mono ?_
        rintro e w2 ⟨rfl, hB2⟩
        have hsk := HSK.out w2 hB2
        clear hnu hB2 HSK
        go_wp2_with (go_at_call 41; fail)
        refine hsk.mono ?_
        rintro e w3 ⟨rfl, hR⟩
        have HR := hid_mk hR
        clear hsk hR
        go_wp2
        go_ret
        exact ⟨rfl, HR.out⟩
end Go.Proofs.YtbeolmofnmnknaaGreatDoor.L
namespace Go.Proofs.YtbeolmofnmnknaaGreatDoor.L
open Go.RowKit
set_option maxRecDepth 100000

theorem ssC_len : ∀ l : List S6, (ssC l).length = l.length * 7
  | [] => rfl
  | s :: l => by
    have := ssC_len l
    simp only [ssC, List.flatMap_cons, List.length_append, List.length_cons] at this ⊢
    rw [this, sC_len]
    omega
theorem ssC_one (l : List S6) : ∀ u ∈ ssC l, u.oneCell' = true := by
  intro u hu
  obtain ⟨s, _, hs⟩ := List.mem_flatMap.1 hu
  exact sC_one s u hs
/-- 'told(n, l...)' behind whatever made memory since the reader was looked at. -/
theorem told_lit {W : World} {lo b : Nat} {kids : Value} {vs : List V} (h : Rd lo W b kids vs W) (l : List S6) (n : Nat) (hn : n ≤ vs.length) (hl : l.length ≤ 10) (w2 : World) (hB2 : Below W.heap.size W w2) :
    Calls Tryz.prog 96 #[.pointer (some ⟨b, 0, none⟩), .int .i64 (n : Int), .slice (some ⟨w2.heap.size, 0, none⟩) l.length l.length] (w2.alloc (.cells (ssC l).toArray 36)) (Way lo W b kids vs (some (l, n))) := by
  have hB1 : Below W.heap.size W (w2.alloc (.cells (ssC l).toArray 36)) := hB2.alloc hB2.size _
  have hx1 : (w2.alloc (.cells (ssC l).toArray 36)).heap[w2.heap.size]? = some (.cells (ssC l).toArray 36 (0, 0)) := heap_alloc_last w2 _
  refine (told_any (h.then hB1).self n hn (g := w2.heap.size) (m := l.length) (c := l.length) (cs := ssC l) (by have := h.lt; have := hB2.size; omega) (by simp) hl (ssC_len l) (fun j u hu => by rw [cellAt hx1 j]; simpa using hu) (ssC_one l)).mono ?_
  rintro e w' ⟨v', rfl, ho, hr⟩
  exact ⟨v', rfl, ⟨ho.1, ho.2.imp id fun ⟨g, cap, cur, x1, x2, x3⟩ => ⟨g, cap, cur, x1, Nat.le_trans hB1.size x2, x3⟩⟩, (h.then hB1).from hr⟩
end Go.Proofs.YtbeolmofnmnknaaGreatDoor.L
namespace Go.Proofs.YtbeolmofnmnknaaGreatDoor.L
open Go.RowKit
set_option maxRecDepth 100000

def nthS (k : Int) : S6 := ⟨k, ⟨#[]⟩, 0, ⟨#[]⟩, 0, 1⟩
/-- What a name behind a colon means. -/
def stL (nm : ByteArray) : Option (List S6 × Nat) :=
  if (nm.toList == [102, 105, 114, 115, 116, 45, 99, 104, 105, 108, 100]) = true then some ([nthS 8], 2) else if (nm.toList == [108, 97, 115, 116, 45, 99, 104, 105, 108, 100]) = true then some ([nthS 9], 2) else if (nm.toList == [111, 110, 108, 121, 45, 99, 104, 105, 108, 100]) = true then some ([nthS 8, nthS 9], 2)
  else if numZ 2 nm = 10 ∨ numZ 2 nm = 11 then some ([⟨numZ 2 nm, ⟨#[]⟩, 0, ⟨#[]⟩, 0, 0⟩], 2) else none
def stateR (vs : List V) : Option (List S6 × Nat) := match vs[1]? with
  | some u => if (ahd vs 0 16 && ahd vs 1 1) = true then stL (foldS u.tok.tx) else none
  | none => none
theorem stateR_no {vs : List V} (h : (ahd vs 0 16 && ahd vs 1 1) = false) : stateR vs = none := by
  unfold stateR
  cases vs[1]? with
  | none => rfl
  | some u => simp only []; rw [if_neg (by rw [h]; decide)]

set_option maxHeartbeats 1000000 in
theorem state_any {W : World} {lo b : Nat} {kids : Value} {vs : List V} (h : Rd lo W b kids vs W) (hsg : Signs W) (hz : ∀ v ∈ vs, v.tok.tx.size ≤ 1000000000000) :
    Calls Tryz.prog 100 #[.pointer (some ⟨b, 0, none⟩)] W (Way lo W b kids vs (stateR vs)) := by
  have ha := ahead_any h 0 16
  have ha2 := ahead_any h 1 1
  cases hk1 : ahd vs 0 16 with
  | false =>
    rw [stateR_no (by rw [hk1]; rfl)]
    rw [hk1] at ha
    clear h hsg hz hk1 ha2
    go_enter Tryz.func100, Tryz.ntmps100
    go_wp2_with (go_at_call 40; fail)
    refine ha.mono ?_
    rintro e w1 ⟨rfl, rfl⟩
    clear ha
    go_wp2
    go_ret
    exact ⟨rfl, Below.refl _ _⟩
  | true =>
  cases hk2 : ahd vs 1 1 with
  | false =>
    rw [stateR_no (by rw [hk1, hk2]; rfl)]
    rw [hk1] at ha
    rw [hk2] at ha2
    clear h hsg hz hk1 hk2
    go_enter Tryz.func100, Tryz.ntmps100
    go_wp2_with (go_at_call 40; fail)
    refine ha.mono ?_
    rintro e w1 ⟨rfl, rfl⟩
    clear ha
    go_wp2_with (go_at_call 40; fail)
    refine ha2.mono ?_
    rintro e w1 ⟨rfl, rfl⟩
    clear ha2
    go_wp2
    go_ret
    exact ⟨rfl, Below.refl _ _⟩
  | true =>
  obtain ⟨u, hu⟩ := ahd_some hk2
  have hlen : 2 ≤ vs.length := (List.getElem?_eq_some_iff.1 hu).1
  have HE0 : Hid (stateR vs = stL (foldS u.tok.tx)) := by
    rw [Hid]
    unfold stateR
    rw [hu]
    simp only [hk1, hk2, Bool.and_self, if_true]
  have hus : u.tok.tx.size ≤ 1000000000000 := hz u (List.mem_of_getElem? hu)
  obtain ⟨a, n, cap, hn, hc1, hc2, h1, _, hs⟩ := h.see
  have c0 : W.cell? ⟨b, 0, none⟩ = some (.slice a n cap) := cellAt h1 0
  obtain ⟨hl, g, off, kv, rfl, q0, q1, q4, q5, hkv⟩ := hs 1 u hu
  rw [Nat.one_mul] at q0 q1 q4 q5
  have hfo := fold_any u.tok.tx W hus
  have HT : Hid (∀ l w3, Below W.heap.size W w3 → l.length ≤ 10 → Calls Tryz.prog 96 #[.pointer (some ⟨b, 0, none⟩), .int .i64 2, .slice (some ⟨w3.heap.size, 0, none⟩) l.length l.length] (w3.alloc (.cells (ssC l).toArray 36)) (Way lo W b kids vs (some (l, 2)))) := fun l w3 hB hl => told_lit h l 2 hlen hl w3 hB
  have HN : Hid (∀ nm w3, Below W.heap.size W w3 → Calls Tryz.prog 87 #[.int .i64 2, .string nm] w3 fun e w' => e = .returned (.int .i64 (numZ 2 nm)) ∧ Below w3.heap.size w3 w') := fun nm w3 hB => number_any (hsg.keep hB) 2 nm
  rw [HE0.out]
  rw [hk1] at ha
  rw [hk2] at ha2
  generalize foldS u.tok.tx = nm at *
  clear h h1 hs hn hk1 hk2 q0 q4 q5 hkv hu hz HE0 hsg
  go_enter Tryz.func100, Tryz.ntmps100
  go_wp2_with (go_at_call 40; fail)
  refine ha.mono ?_
  rintro e w1 ⟨rfl, rfl⟩
  clear ha
  go_wp2_with (go_at_call 40; fail)
  refine ha2.mono ?_
  rintro e w1 ⟨rfl, rfl⟩
  clear ha2
  go_wp2_with (go_at_call 61; fail)
  refine hfo.mono ?_
  rintro e w2 ⟨rfl, hB2⟩
  obtain ⟨W3, hW3⟩ : ∃ W3, W3 = (w2.alloc (.cells #[.int .i64 8, .string ⟨#[]⟩, .int .i64 0, .string ⟨#[]⟩, .int .i64 0, .int .i64 1, .slice none 0 0] 36)).alloc (.cells #[.int .i64 9, .string ⟨#[]⟩, .int .i64 0, .string ⟨#[]⟩, .int .i64 0, .int .i64 1, .slice none 0 0] 36) := ⟨_, rfl⟩
  have HB3 : Hid (Below w1.heap.size w1 W3) := by rw [Hid, hW3]; exact (hB2.alloc hB2.size _).alloc (by have := hB2.size; simp; omega) _
  have x8 : W3.heap[w2.heap.size]? = some (.cells #[.int .i64 8, .string ⟨#[]⟩, .int .i64 0, .string ⟨#[]⟩, .int .i64 0, .int .i64 1, .slice none 0 0] 36 (0, 0)) := by
    rw [hW3, Below.heap_alloc _ _ _ (by simp)]
    exact heap_alloc_last w2 _
  have x9 : W3.heap[w2.heap.size + 1]? = some (.cells #[.int .i64 9, .string ⟨#[]⟩, .int .i64 0, .string ⟨#[]⟩, .int .i64 0, .int .i64 1, .slice none 0 0] 36 (0, 0)) := by
    have e : w2.heap.size + 1 = (w2.alloc (.cells #[.int .i64 8, .string ⟨#[]⟩, .int .i64 0, .string ⟨#[]⟩, .int .i64 0, .int .i64 1, .slice none 0 0] 36)).heap.size := by simp
    rw [hW3, e]
    exact heap_alloc_last _ _
  have HW3 := hid_mk hW3
  clear hfo hB2 q1 c0 hW3
  go_upto_if 27 with (fail)
  rw [← HW3.out]
  clear HW3
  have a0 := cellAt x8 0
  have a1 := cellAt x8 1
  have a2 := cellAt x8 2
  have a3 := cellAt x8 3
  have a4 := cellAt x8 4
  have a5 := cellAt x8 5
  have a6 := cellAt x8 6
  have b0 := cellAt x9 0
  have b1 := cellAt x9 1
  have b2 := cellAt x9 2
  have b3 := cellAt x9 3
  have b4 := cellAt x9 4
  have b5 := cellAt x9 5
  have b6 := cellAt x9 6
  clear x8 x9
  cases t1 : (nm.toList == [102, 105, 114, 115, 116, 45, 99, 104, 105, 108, 100]) with
  | true =>
    have HE : Hid (stL nm = some ([nthS 8], 2)) := by rw [Hid, stL, if_pos t1]
    clear t1
    have htl := HT.out [nthS 8] W3 HB3.out (by decide)
    rw [show (ssC [nthS 8]).toArray = #[.int .i64 8, .string ⟨#[]⟩, .int .i64 0, .string ⟨#[]⟩, .int .i64 0, .int .i64 1, .slice none 0 0] from rfl] at htl
    clear HT HN
    go_wp2_with (go_at_call 96; fail)
    refine htl.mono ?_
    rintro e w5 ⟨v', rfl, ho, hr⟩
    have HZ : Hid (Way lo w1 b kids vs (some ([nthS 8], 2)) (.returned v') w5) := ⟨v', rfl, ho, hr⟩
    clear htl ho hr
    go_wp2
    go_ret
    rw [HE.out]
    exact HZ.out
  | false =>
  cases t2 : (nm.toList == [108, 97, 115, 116, 45, 99, 104, 105, 108, 100]) with
  | true =>
    have HE : Hid (stL nm = some ([nthS 9], 2)) := by rw [Hid, stL, if_neg (by rw [t1]; decide), if_pos t2]
    clear t1
    have htl := HT.out [nthS 9] W3 HB3.out (by decide)
    rw [show (ssC [nthS 9]).toArray = #[.int .i64 9, .string ⟨#[]⟩, .int .i64 0, .string ⟨#[]⟩, .int .i64 0, .int .i64 1, .slice none 0 0] from rfl] at htl
    clear HT HN
    go_wp2_with (go_at_call 96; fail)
    refine htl.mono ?_
    rintro e w5 ⟨v', rfl, ho, hr⟩
    have HZ : Hid (Way lo w1 b kids vs (some ([nthS 9], 2)) (.returned v') w5) := ⟨v', rfl, ho, hr⟩
    clear htl ho hr
    go_wp2
    go_ret
    rw [HE.out]
    exact HZ.out
  | false =>
  cases t3 : (nm.toList == [111, 110, 108, 121, 45, 99, 104, 105, 108, 100]) with
  | true =>
    have HE : Hid (stL nm = some ([nthS 8, nthS 9], 2)) := by rw [Hid, stL, if_neg (by rw [t1]; decide), if_neg (by rw [t2]; decide), if_pos t3]
    clear t1
    have htl := HT.out [nthS 8, nthS 9] W3 HB3.out (by decide)
    rw [show (ssC [nthS 8, nthS 9]).toArray = #[.int .i64 8, .string ⟨#[]⟩, .int .i64 0, .string ⟨#[]⟩, .int .i64 0, .int .i64 1, .slice none 0 0, .int .i64 9, .string ⟨#[]⟩, .int .i64 0, .string ⟨#[]⟩, .int .i64 0, .int .i64 1, .slice none 0 0] from rfl] at htl
    clear HT HN
    go_wp2_with (go_at_call 96; fail)
    refine htl.mono ?_
    rintro e w5 ⟨v', rfl, ho, hr⟩
    have HZ : Hid (Way lo w1 b kids vs (some ([nthS 8, nthS 9], 2)) (.returned v') w5) := ⟨v', rfl, ho, hr⟩
    clear htl ho hr
    go_wp2
    go_ret
    rw [HE.out]
    exact HZ.out
  | false =>
  have HE0 : Hid (stL nm = if numZ 2 nm = 10 ∨ numZ 2 nm = 11 then some ([⟨numZ 2 nm, ⟨#[]⟩, 0, ⟨#[]⟩, 0, 0⟩], 2) else none) := by rw [Hid, stL, if_neg (by rw [t1]; decide), if_neg (by rw [t2]; decide), if_neg (by rw [t3]; decide)]
  have hnu := HN.out nm W3 HB3.out
  generalize numZ 2 nm = z at *
  clear t1 HN a0 a1 a2 a3 a4 a5 a6 b0 b1 b2 b3 b4 b5 b6
  go_wp2_with (go_at_call 87; fail)
  refine hnu.mono ?_
  rintro e w4 ⟨rfl, hB4⟩
  have HB4 : Hid (Below w1.heap.size w1 w4) := HB3.out.trans (hB4.mono HB3.out.size)
  clear hnu hB4 HB3
  by_cases hz : z = 10 ∨ z = 11
  · have HE : Hid (stL nm = some ([⟨z, ⟨#[]⟩, 0, ⟨#[]⟩, 0, 0⟩], 2)) := by rw [Hid, HE0.out, if_pos hz]
    have htl := HT.out [⟨z, ⟨#[]⟩, 0, ⟨#[]⟩, 0, 0⟩] w4 HB4.out (by simp)
    rw [show (ssC [⟨z, ⟨#[]⟩, 0, ⟨#[]⟩, 0, 0⟩]).toArray = #[.int .i64 z, .string ⟨#[]⟩, .int .i64 0, .string ⟨#[]⟩, .int .i64 0, .int .i64 0, .slice none 0 0] from rfl] at htl
    clear HE0 HT
    rcases hz with hz | hz
    · have n1 : (z != 10) = false := by rw [hz]; rfl
      have HZ0 := hid_mk hz
      clear hz
      go_wp2_with (go_at_call 96; fail)
      refine htl.mono ?_
      rintro e w5 ⟨v', rfl, ho, hr⟩
      have HZ : Hid (Way lo w1 b kids vs (some ([⟨z, ⟨#[]⟩, 0, ⟨#[]⟩, 0, 0⟩], 2)) (.returned v') w5) := ⟨v', rfl, ho, hr⟩
      clear htl ho hr
      go_wp2
      go_ret
      rw [HE.out]
      exact HZ.out
    · have n1 : (z != 10) = true := by rw [hz]; rfl
      have n2 : (z != 11) = false := by rw [hz]; rfl
      have HZ0 := hid_mk hz
      clear hz
      go_wp2_with (go_at_call 96; fail)
      refine htl.mono ?_
      rintro e w5 ⟨v', rfl, ho, hr⟩
      have HZ : Hid (Way lo w1 b kids vs (some ([⟨z, ⟨#[]⟩, 0, ⟨#[]⟩, 0, 0⟩], 2)) (.returned v') w5) := ⟨v', rfl, ho, hr⟩
      clear htl ho hr
      go_wp2
      go_ret
      rw [HE.out]
      exact HZ.out
  · have HE : Hid (stL nm = none) := by rw [Hid, HE0.out, if_neg hz]
    have n1 : (z != 10) = true := bne_iff_ne.2 fun h => hz (.inl h)
    have n2 : (z != 11) = true := bne_iff_ne.2 fun h => hz (.inr h)
    clear hz HE0 HT
    go_wp2
    go_ret
    rw [HE.out]
    exact ⟨rfl, HB4.out⟩
end Go.Proofs.YtbeolmofnmnknaaGreatDoor.L
namespace Go.Proofs.YtbeolmofnmnknaaGreatDoor.L
open Go.RowKit
set_option maxRecDepth 100000

/-- The sign of a comb that stands first; 0: none. -/
def cbN (us : List V) : Int := match us[0]? with
  | some u => if ahd us 0 9 = true then numZ 0 u.tok.tx else 0
  | none => 0
/-- The end of comb: no sign stood there. -/
def cbE (was : Bool) (us : List V) : Int := if was = true ∧ us ≠ [] ∧ ahd us 0 18 = false then 1 else 0
/-- How the next one stands behind the last one; and what is left. -/
def combR (vs : List V) : Int × List V := if cbN (spc vs) ≠ 0 then (cbN (spc vs), spc ((spc vs).drop 1)) else (cbE (ahd vs 0 13) (spc vs), spc vs)

set_option maxHeartbeats 1000000 in
theorem comb_any {W : World} {lo b : Nat} {kids : Value} {vs : List V} (h : Rd lo W b kids vs W) (hsg : Signs W) (hb : b ≠ sgB) :
    Calls Tryz.prog 67 #[.pointer (some ⟨b, 0, none⟩)] W fun e w' => e = .returned (.int .i64 (combR vs).1) ∧ Rd lo W b kids (combR vs).2 w' := by
  have hsp := spaces_any h
  have HSG : Hid (∀ w', KeepX b W w' → Signs w') := fun w' hk => hsg.keepX hk hb
  have HC : Hid (combR vs = if cbN (spc vs) ≠ 0 then (cbN (spc vs), spc ((spc vs).drop 1)) else (cbE (ahd vs 0 13) (spc vs), spc vs)) := rfl
  generalize ahd vs 0 13 = was at *
  generalize combR vs = R at *
  generalize spc vs = us at *
  clear h hsg
  go_enter Tryz.func67, Tryz.ntmps67
  go_wp2_with (go_at_call 38; fail)
  refine hsp.mono ?_
  rintro e w1 ⟨rfl, hR1⟩
  have ha := ahead_any hR1 0 9
  have HR1 := hid_mk hR1
  have hS1 := HSG.out w1 hR1.keep
  clear hsp hR1 HSG
  go_wp2_with (go_at_call 40; fail)
  refine ha.mono ?_
  rintro e wa ⟨rfl, rfl⟩
  clear ha
  cases hk : ahd us 0 9 with
  | true =>
    obtain ⟨u, hu⟩ := ahd_some hk
    have HN : Hid (cbN us = numZ 0 u.tok.tx) := by rw [Hid]; unfold cbN; rw [hu]; simp only [hk, if_true]
    obtain ⟨a, n, cap, hn, hc1, hc2, h1, _, hs⟩ := HR1.out.see
    have c0 : wa.cell? ⟨b, 0, none⟩ = some (.slice a n cap) := cellAt h1 0
    obtain ⟨hl, g, off, kv, rfl, q0, q1, q4, q5, hkv⟩ := hs 0 u hu
    rw [Nat.zero_mul, Nat.add_zero] at q0 q1 q4 q5
    have hnu := number_any hS1 0 u.tok.tx
    have hne : us ≠ [] := fun e => by rw [e] at hu; cases hu
    have hlen : 1 ≤ us.length := by have := (List.getElem?_eq_some_iff.1 hu).1; omega
    generalize numZ 0 u.tok.tx = z at *
    clear h1 hs hn hk q0 q4 q5 hkv hu hS1
    go_wp2_with (go_at_call 87; fail)
    refine hnu.mono ?_
    rintro e w2 ⟨rfl, hB2⟩
    have HR2 := hid_mk (HR1.out.then hB2)
    clear hnu hB2 HR1 q1 c0
    by_cases hz : z = 0
    · have hz1 : (z != 0) = false := by rw [hz]; rfl
      have HE : Hid (R = (cbE was us, us)) := by rw [Hid, HC.out, if_neg (by rw [HN.out]; exact fun h => h hz)]
      clear HC HN
      obtain ⟨a, n, cap, hn, hc1, hc2, h1, _, _⟩ := HR2.out.see
      have c0 : w2.cell? ⟨b, 0, none⟩ = some (.slice a n cap) := cellAt h1 0
      have hn0 : ((n : Int) == 0) = false := by simp; omega
      have ha := ahead_any HR2.out 0 18
      have HN0 := hid_mk hz
      clear h1 hn hz
      cases was with
      | false =>
        have HZ : Hid (cbE false us = 0) := by rw [Hid, cbE, if_neg (by simp)]
        clear ha
        go_wp2
        go_ret
        exact ⟨by rw [HE.out]; simp only []; rw [HZ.out]; try rfl, by rw [HE.out]; exact HR2.out⟩
      | true =>
        cases hcm : ahd us 0 18 with
        | true =>
          have HZ : Hid (cbE true us = 0) := by rw [Hid, cbE, if_neg (by rw [hcm]; simp)]
          rw [hcm] at ha
          clear hcm
          go_wp2_with (go_at_call 40; fail)
          refine ha.mono ?_
          rintro e w3 ⟨rfl, rfl⟩
          clear ha
          go_wp2
          go_ret
          exact ⟨by rw [HE.out]; simp only []; rw [HZ.out]; try rfl, by rw [HE.out]; exact HR2.out⟩
        | false =>
          have HZ : Hid (cbE true us = 1) := by rw [Hid, cbE, if_pos ⟨rfl, hne, hcm⟩]
          rw [hcm] at ha
          clear hcm
          go_wp2_with (go_at_call 40; fail)
          refine ha.mono ?_
          rintro e w3 ⟨rfl, rfl⟩
          clear ha
          go_wp2
          go_ret
          exact ⟨by rw [HE.out]; simp only []; rw [HZ.out]; try rfl, by rw [HE.out]; exact HR2.out⟩
    · have hz1 : (z != 0) = true := bne_iff_ne.2 hz
      have HE : Hid (R = (z, spc (us.drop 1))) := by rw [Hid, HC.out, if_pos (by rw [HN.out]; exact hz), HN.out]
      have hsk := skip_any HR2.out.self 1 hlen
      clear HC HN hz
      go_wp2_with (go_at_call 41; fail)
      refine hsk.mono ?_
      rintro e w3 ⟨rfl, hR3⟩
      have hsp := spaces_any hR3.self
      have HR3 := hid_mk (HR2.out.from hR3)
      clear hsk hR3 HR2
      go_wp2_with (go_at_call 38; fail)
      refine hsp.mono ?_
      rintro e w4 ⟨rfl, hR4⟩
      have HR4 := hid_mk (HR3.out.from hR4)
      clear hsp hR4 HR3
      go_wp2
      go_ret
      exact ⟨by rw [HE.out]; try rfl, by rw [HE.out]; exact HR4.out⟩
  | false =>
    have HN : Hid (cbN us = 0) := by
      rw [Hid]
      unfold cbN
      cases us[0]? with
      | none => rfl
      | some u => simp only []; rw [if_neg (by rw [hk]; decide)]
    have HE : Hid (R = (cbE was us, us)) := by rw [Hid, HC.out, if_neg (by rw [HN.out]; exact fun h => h rfl)]
    clear HC HN hk hS1
    obtain ⟨a, n, cap, hn, hc1, hc2, h1, _, _⟩ := HR1.out.see
    have c0 : wa.cell? ⟨b, 0, none⟩ = some (.slice a n cap) := cellAt h1 0
    have ha := ahead_any HR1.out 0 18
    cases was with
    | false =>
      have HZ : Hid (cbE false us = 0) := by rw [Hid, cbE, if_neg (by simp)]
      clear ha h1 hn
      go_wp2
      go_ret
      exact ⟨by rw [HE.out]; simp only []; rw [HZ.out]; try rfl, by rw [HE.out]; exact HR1.out⟩
    | true =>
      by_cases hne : us = []
      · have hn0 : ((n : Int) == 0) = true := by rw [beq_iff_eq, hn, hne]; rfl
        have HZ : Hid (cbE true us = 0) := by rw [Hid, cbE, if_neg (by simp [hne])]
        have hn1 : n = 0 := by rw [hn, hne]; rfl
        clear ha h1 hn hne
        subst hn1
        go_wp2
        go_ret
        exact ⟨by rw [HE.out]; simp only []; rw [HZ.out]; try rfl, by rw [HE.out]; exact HR1.out⟩
      · have hn0 : ((n : Int) == 0) = false := by
          have : us.length ≠ 0 := fun e => hne (List.length_eq_zero_iff.1 e)
          simp; omega
        cases hcm : ahd us 0 18 with
        | true =>
          have HZ : Hid (cbE true us = 0) := by rw [Hid, cbE, if_neg (by rw [hcm]; simp)]
          rw [hcm] at ha
          clear hcm h1 hn hne
          go_wp2_with (go_at_call 40; fail)
          refine ha.mono ?_
          rintro e w3 ⟨rfl, rfl⟩
          clear ha
          go_wp2
          go_ret
          exact ⟨by rw [HE.out]; simp only []; rw [HZ.out]; try rfl, by rw [HE.out]; exact HR1.out⟩
        | false =>
          have HZ : Hid (cbE true us = 1) := by rw [Hid, cbE, if_pos ⟨rfl, hne, hcm⟩]
          rw [hcm] at ha
          clear hcm h1 hn hne
          go_wp2_with (go_at_call 40; fail)
          refine ha.mono ?_
          rintro e w3 ⟨rfl, rfl⟩
          clear ha
          go_wp2
          go_ret
          exact ⟨by rw [HE.out]; simp only []; rw [HZ.out]; try rfl, by rw [HE.out]; exact HR1.out⟩
end Go.Proofs.YtbeolmofnmnknaaGreatDoor.L
namespace Go.Proofs.YtbeolmofnmnknaaGreatDoor.N
open Go.RowKit

theorem hid_mk {p : Prop} (h : p) : Hid p := h

def fitsB (a b n : Int) : Bool :=
  if n < 1 then false else if 0 < a then decide (b ≤ n) && decide ((n - b) % a = 0) else if a < 0 then decide (n ≤ b) && decide ((b - n) % a = 0) else decide (n = b)

end Go.Proofs.YtbeolmofnmnknaaGreatDoor.N
namespace Go.Proofs.YtbeolmofnmnknaaGreatDoor.N
open Go.RowKit

def leastZ (a b : Int) : Int := if 0 < a ∧ b < 1 then a - (-b) % a else if b < 1 then 0 else if a < 0 then (b - 1) % a + 1 else b
def firstZ (a b : Int) : Int := if 1000000 < leastZ a b then 0 else leastZ a b

end Go.Proofs.YtbeolmofnmnknaaGreatDoor.N
namespace Go.Proofs.YtbeolmofnmnknaaGreatDoor.N
open Go.RowKit

end Go.Proofs.YtbeolmofnmnknaaGreatDoor.N
namespace Go.Proofs.YtbeolmofnmnknaaGreatDoor.N
open Go.RowKit

theorem strOf_size (xs : List Int) : (strOfNums xs).size = xs.length := by
  show (xs.map _).toArray.size = _
  simp
theorem nums_two (a c : List Int) : strOfNums (a ++ c) = strOfNums a ++ strOfNums c := by
  apply ByteArray.ext
  show ((a ++ c).map _).toArray = _
  rw [ByteArray.data_append]
  simp [strOfNums]
def decF : Nat → Nat → List Int → List Int
  | 0, _, acc => acc
  | f + 1, u, acc => if u / 10 = 0 then ((48 + u % 10 : Nat) : Int) :: acc else decF f (u / 10) (((48 + u % 10 : Nat) : Int) :: acc)
def decU (u : Nat) : List Int := decF 20 u []
def signD (n : Int) : List Int := if n < 0 then 45 :: decU (-n).toNat else decU n.toNat
def digT : ByteArray := ⟨#[48, 49, 50, 51, 52, 53, 54, 55, 56, 57]⟩
theorem digT_at : ∀ m : Fin 10, digT.extract m.val (m.val + 1) = strOfNums [((48 + m.val : Nat) : Int)] := by decide +kernel
theorem nums_cons (c : Int) (l : List Int) : strOfNums [c] ++ strOfNums l = strOfNums (c :: l) := by rw [← nums_two]; rfl

theorem empty_str (l : List Int) : (⟨#[]⟩ ++ strOfNums l : ByteArray) = strOfNums l := by
  apply ByteArray.ext
  rw [ByteArray.data_append]
  simp
def p10 (f : Nat) : Nat := 10 ^ f
theorem p10_20 (u : Nat) (h : u ≤ 9223372036854775808) : u < p10 20 := by
  have : p10 20 = 100000000000000000000 := by decide
  omega

theorem wrap_neg {n : Int} {N : Nat} (hn : n = -(N : Int)) (h0 : n < 0) (h1 : (N : Int) ≤ 9223372036854775808) : IntKind.u64.wrap (-IntKind.u64.wrap n) = (N : Int) := by
  have e : ∀ x : Int, IntKind.u64.wrap x = x % 18446744073709551616 := by
    intro x
    have hb : IntKind.u64.bits = 64 := rfl
    have hsg : IntKind.u64.signed = false := rfl
    simp [IntKind.wrap, hb, hsg]
  rw [e, e]
  omega
theorem dec_map : ∀ (f u : Nat) (acc : List Int), u < p10 f → (0 < f) → (decF f u acc).map (fun n => UInt8.ofNat n.toNat) = Lib.decDigits u ++ acc.map (fun n => UInt8.ofNat n.toNat)
  | 0, _, _, _, h => by omega
  | f + 1, u, acc, hu, _ => by
    rw [decF]
    by_cases hq : u / 10 = 0
    · rw [if_pos hq, Lib.decDigits, dif_pos (by omega)]
      have : u % 10 = u := Nat.mod_eq_of_lt (by omega)
      rw [this]
      simp only [List.map_cons, Int.toNat_natCast, List.singleton_append]
    · rw [if_neg hq]
      have h3 : u / 10 < p10 f := by
        unfold p10 at hu ⊢
        rw [Nat.pow_succ] at hu
        omega
      have h4 : 0 < f := by
        cases f with
        | zero => unfold p10 at h3; simp at h3; omega
        | succ k => omega
      rw [dec_map f (u / 10) _ h3 h4, Lib.decDigits.eq_def u, dif_neg (by omega)]
      simp only [List.map_cons, Int.toNat_natCast, List.append_assoc, List.singleton_append]
theorem dec_str (N : Nat) (h : N ≤ 9223372036854775808) : strOfNums (decU N) = ⟨(Lib.decDigits N).toArray⟩ := by
  have := dec_map 20 N [] (p10_20 N h) (by omega)
  show (⟨((decU N).map _).toArray⟩ : ByteArray) = _
  unfold decU
  rw [this]
  simp
def itS (n : Int) : ByteArray := strOfNums (signD n)
theorem it_eq (n : Int) (h0 : -9223372036854775808 ≤ n) (h1 : n ≤ 9223372036854775807) : (⟨(Lib.itoa n).toArray⟩ : ByteArray) = itS n := by
  unfold itS signD Lib.itoa
  by_cases hn : n < 0
  · rw [if_pos hn, if_pos hn]
    have e : n.natAbs = (-n).toNat := by omega
    rw [← nums_cons, dec_str _ (by omega), e]
    apply ByteArray.ext
    rw [ByteArray.data_append]
    simp [strOfNums]
  · rw [if_neg hn, if_neg hn, dec_str _ (by omega)]
theorem decF_len : ∀ (f u : Nat) (acc : List Int), (decF f u acc).length ≤ acc.length + f
  | 0, _, _ => by simp [decF]
  | f + 1, u, acc => by
    rw [decF]
    split
    · rw [List.length_cons]
      omega
    · have := decF_len f (u / 10) (((48 + u % 10 : Nat) : Int) :: acc)
      rw [List.length_cons] at this
      omega
theorem it_size (n : Int) : (itS n).size ≤ 21 := by
  unfold itS signD
  rw [strOf_size]
  split
  · have := decF_len 20 (-n).toNat []
    simp [decU] at this ⊢
    omega
  · have := decF_len 20 n.toNat []
    simp [decU] at this ⊢
    omega
end Go.Proofs.YtbeolmofnmnknaaGreatDoor.N
