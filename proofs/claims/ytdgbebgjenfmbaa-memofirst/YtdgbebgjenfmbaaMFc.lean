/- What MemoFirst keeps: the entries that were put, in a row of one's own. -/
import Derived.Test.YtdgbebgjenfmbaaMFm
import Derived.Test.YtdgbebgjenfmbaaMAc
namespace Go.Proofs.Ytdgbebgjenfmbaa.M
open Go.RowKit Go.Shelf
set_option maxRecDepth 100000

/-- The entries with their lists as they lie in the row. -/
def InC (ps : List (En × Value)) : List Value := ps.flatMap fun p => [.int .i64 p.1.e, .int .i64 p.1.d, p.2]
theorem inC_len : ∀ ps : List (En × Value), (InC ps).length = ps.length * 3
  | [] => rfl
  | p :: ps => by
    have := inC_len ps
    unfold InC at this ⊢
    rw [List.flatMap_cons, List.length_append, this, List.length_cons]
    simp
    omega
theorem inC_get : ∀ {ps : List (En × Value)} {j : Nat} {p : En × Value}, ps[j]? = some p → (InC ps)[j * 3]? = some (.int .i64 p.1.e) ∧ (InC ps)[j * 3 + 1]? = some (.int .i64 p.1.d) ∧ (InC ps)[j * 3 + 2]? = some p.2
  | [], _, _, h => by simp at h
  | q :: ps, 0, p, h => by
    have : q = p := by simpa using h
    subst this
    exact ⟨rfl, rfl, rfl⟩
  | q :: ps, j + 1, p, h => by
    have ih := inC_get (ps := ps) (j := j) (p := p) (by simpa using h)
    have hs : ∀ k, (InC (q :: ps))[3 + k]? = (InC ps)[k]? := fun k => by
      unfold InC
      rw [List.flatMap_cons, List.getElem?_append_right (by simp)]
      simp
    refine ⟨?_, ?_, ?_⟩
    · rw [show (j + 1) * 3 = 3 + j * 3 by omega, hs]; exact ih.1
    · rw [show (j + 1) * 3 + 1 = 3 + (j * 3 + 1) by omega, hs]; exact ih.2.1
    · rw [show (j + 1) * 3 + 2 = 3 + (j * 3 + 2) by omega, hs]; exact ih.2.2
/-- The row of the entries. -/
def InO (B : Nat) (w : World) (v : Value) (ps : List (En × Value)) : Prop := w.ownsRow B 31 3 v ps.length (InC ps)
theorem InO.keep {B : Nat} {w w' : World} {v : Value} {ps : List (En × Value)} (h : InO B w v ps) (hb : ∀ g, g < w.heap.size → B ≤ g → w'.heap[g]? = w.heap[g]?) : InO B w' v ps := by
  refine ⟨h.1, ?_⟩
  rcases h.2 with ⟨hv, hn⟩ | ⟨g, cap, cur, hv, hB, hg, rest⟩
  · exact .inl ⟨hv, hn⟩
  · exact .inr ⟨g, cap, cur, hv, hB, (hb g (Array.getElem?_eq_some_iff.1 hg).1 hB).trans hg, rest⟩
theorem InO.form {B : Nat} {w : World} {v : Value} {ps : List (En × Value)} (h : InO B w v ps) : ∃ a c, v = .slice a ps.length c := by
  rcases h.2 with ⟨rfl, h0⟩ | ⟨g, cap, cur, rfl, _⟩
  · exact ⟨none, 0, by rw [h0]⟩
  · exact ⟨_, _, rfl⟩
theorem InO.parts {B : Nat} {w : World} {v : Value} {ps : List (En × Value)} (h : InO B w v ps) (h0 : 0 < ps.length) : ∃ g c, v = .slice (some ⟨g, 0, none⟩) ps.length c ∧ B ≤ g ∧ g < w.heap.size ∧ ∀ (j : Nat) (p : En × Value), ps[j]? = some p → w.cell? ⟨g, j * 3, none⟩ = some (.int .i64 p.1.e) ∧ w.cell? ⟨g, j * 3 + 1, none⟩ = some (.int .i64 p.1.d) ∧ w.cell? ⟨g, j * 3 + 2, none⟩ = some p.2 := by
  have hh := h
  obtain ⟨hl, hc⟩ := h
  rcases hc with ⟨rfl, e0⟩ | ⟨g, cap, cur, rfl, hBg, hg, hnc, hcm, hszz, hcur⟩
  · omega
  · refine ⟨g, cap, rfl, hBg, (Array.getElem?_eq_some_iff.1 hg).1, fun j p hj => ?_⟩
    have hcell : ∀ k u, (InC ps)[k]? = some u → w.cell? ⟨g, k, none⟩ = some u := fun k u hk => by
      have := World.ownsRow.cells hh (g := g) rfl k u hk
      rw [Addr.add_mid, Nat.zero_add] at this
      exact this
    obtain ⟨e1, e2, e3⟩ := inC_get hj
    exact ⟨hcell _ _ e1, hcell _ _ e2, hcell _ _ e3⟩
/-- Is it of this epoch and node? -/
def Key (e d : Int) (x : En) : Prop := x.e = e ∧ x.d = d
/-- What a Put does. -/
def PutQ (P : Nat → Prop) (w : World) (t n : Nat) (xs : List En) (x : En) (r : Ending) (w' : World) : Prop :=
  ∃ (q : Bool) (L' : List (Option En)), r = .returned (.bool q) ∧ L'.length = n ∧ Tab P w' t (t + 2) (t + 1) L' ∧ Kb (fun k => k ≠ t + 1) w w' ∧ Fst L' (if q then xs ++ [x] else xs) ∧
    (q = true ↔ (∀ y ∈ xs, ¬ Key x.e x.d y) ∧ xs.length < n) ∧ ((q = true ∨ ∃ y ∈ xs, Key x.e x.d y) → ∃ y, y ∈ (if q then xs ++ [x] else xs) ∧ find L' x.e x.d = .here y) ∧ ((q = false ∧ ∀ y ∈ xs, ¬ Key x.e x.d y) → find L' x.e x.d = .full)
theorem put_q {P Q : Nat → Prop} {w : World} {t n : Nat} {L : List (Option En)} {xs : List En} (h : Tab P w t (t + 2) (t + 1) L) (hL : L.length = n) (hF : Fst L xs) (x : En) {sv : Value} (hS : SsAt Q w sv x.l) (hln : x.l.length ≤ 8796093021952) (hP : ∀ b, w.heap.size ≤ b → P b) : Calls Try.prog 12 #[.pointer (some ⟨t, 0, none⟩), .agg #[.int .i64 x.e, .int .i64 x.d, sv]] w (PutQ P w t n xs x) := by
  refine (put_tab h x hS hln hP).mono fun r w' hh => ?_
  cases hf : find L x.e x.d with
  | full =>
    rw [hf] at hh
    obtain ⟨f1, f2⟩ := hF.full hf
    refine ⟨false, L, hh.1, hL, hh.2.1, Kb.of_below hh.2.2, hF, ⟨(fun e => by cases e), fun e => by omega⟩, fun e => ?_, fun _ => hf⟩
    rcases e with e | ⟨y, hy, hk⟩
    · cases e
    · exact absurd hk (f2 y hy)
  | free j =>
    rw [hf] at hh
    obtain ⟨f1, f2, f3⟩ := hF.free hf
    have hp := hF.put hf
    refine ⟨true, L.set j (some x), hh.1, by rw [List.length_set]; exact hL, hh.2.1, hh.2.2, hp, ⟨fun _ => ⟨f3, by omega⟩, fun _ => rfl⟩, fun _ => ⟨x, by simp, hp.here x (by simp)⟩, fun e => by cases e.1⟩
  | here y =>
    rw [hf] at hh
    obtain ⟨f1, f2⟩ := hF.found hf
    refine ⟨false, L, hh.1, hL, hh.2.1, Kb.of_below hh.2.2, hF, ⟨(fun e => by cases e), fun e => absurd f2 (e.1 y f1)⟩, fun _ => ⟨y, f1, hf⟩, fun e => absurd f2 (e.2 y f1)⟩
/-- What was looked through for the key. -/
def WasI (ps : List (En × Value)) (e d : Int) (j : Nat) (m : Int) : Prop := (m = -1 ∧ ∀ (q : Nat) (p : En × Value), q < j → ps[q]? = some p → ¬ Key e d p.1) ∨ (0 ≤ m ∧ ∃ p ∈ ps, Key e d p.1)
theorem WasI.zero (ps : List (En × Value)) (e d : Int) : WasI ps e d 0 (-1) := .inl ⟨rfl, fun q p hq => by omega⟩
theorem WasI.hit {ps : List (En × Value)} {e d : Int} {j : Nat} {p : En × Value} (hp : ps[j]? = some p) (hk : Key e d p.1) (j' : Nat) : WasI ps e d j' (j : Int) := .inr ⟨by omega, p, List.mem_of_getElem? hp, hk⟩
theorem WasI.miss {ps : List (En × Value)} {e d : Int} {j : Nat} {m : Int} {p : En × Value} (h : WasI ps e d j m) (hp : ps[j]? = some p) (hk : ¬ Key e d p.1) : WasI ps e d (j + 1) m := by
  rcases h with ⟨h1, h2⟩ | h
  · refine .inl ⟨h1, fun q p' hq hp' => ?_⟩
    by_cases he : q = j
    · subst he
      rw [hp] at hp'
      injection hp' with hp'
      rw [← hp']
      exact hk
    · exact h2 q p' (by omega) hp'
  · exact .inr h
theorem WasI.end {ps : List (En × Value)} {e d : Int} {m : Int} (h : WasI ps e d ps.length m) : (m < 0 ∧ ∀ y ∈ ps.map (·.1), ¬ Key e d y) ∨ (0 ≤ m ∧ ∃ y ∈ ps.map (·.1), Key e d y) := by
  rcases h with ⟨h1, h2⟩ | ⟨h1, p, hp, hk⟩
  · refine .inl ⟨by omega, fun y hy => ?_⟩
    obtain ⟨p, hp, rfl⟩ := List.mem_map.1 hy
    obtain ⟨q, hq, rfl⟩ := List.getElem_of_mem hp
    exact h2 q _ hq (List.getElem?_eq_getElem hq)
  · exact .inr ⟨h1, p.1, List.mem_map.2 ⟨p, hp, rfl⟩, hk⟩
/-- Where the table may lie: not where the row of the entries lies. -/
def Pv (t : Nat) (v : Value) : Nat → Prop := fun b => b ≠ t ∧ b ≠ t + 1 ∧ v.ownBlock ≠ some b
/-- What a round of MemoFirst keeps. -/
structure FwI (t n : Nat) (W : World) (v : Value) (ps : List (En × Value)) (L : List (Option En)) (w : World) : Prop where
  len : L.length = n
  tab : Tab (Pv t v) w t (t + 2) (t + 1) L
  fst : Fst L (ps.map (·.1))
  row : InO (t + 3) w v ps
  lists : ∀ p ∈ ps, (∀ A, Below t W A → SsAt Any A p.2 p.1.l) ∧ p.1.l.length ≤ 8796093021952
  below : Below t W w
theorem FwI.keep {t n : Nat} {W : World} {v : Value} {ps : List (En × Value)} {L : List (Option En)} {w w' : World} (h : FwI t n W v ps L w) (hb : Below w.heap.size w w') : FwI t n W v ps L w' :=
  ⟨h.len, h.tab.below hb, h.fst, h.row.keep fun g hg _ => hb.block g hg, h.lists, h.below.trans (hb.mono (by have := h.tab.lt; omega))⟩
theorem FwI.short {t n : Nat} {W : World} {v : Value} {ps : List (En × Value)} {L : List (Option En)} {w : World} (h : FwI t n W v ps L w) : Short L := fun j x hj => by
  obtain ⟨p, hp, rfl⟩ := List.mem_map.1 (h.fst.mem j x hj)
  exact (h.lists p hp).2
theorem FwI.count {t n : Nat} {W : World} {v : Value} {ps : List (En × Value)} {L : List (Option En)} {w : World} (h : FwI t n W v ps L w) : ps.length ≤ n := by
  have h1 := h.fst.used
  have h2 := used_le L
  rw [List.length_map] at h1
  have := h.len
  omega
theorem FwI.off {t n : Nat} {W : World} {v : Value} {ps : List (En × Value)} {L : List (Option En)} {w : World} (h : FwI t n W v ps L w) (b : Nat) (hb : w.heap.size ≤ b) : Pv t v b := by
  have := h.tab.lt
  refine ⟨by omega, by omega, fun e => ?_⟩
  have := (World.ownsRow.lt h.row b e).2
  omega
theorem FwI.put {t n : Nat} {W : World} {v : Value} {ps : List (En × Value)} {L L' : List (Option En)} {w w' : World} (h : FwI t n W v ps L w) (hl : L'.length = n) (hT : Tab (Pv t v) w' t (t + 2) (t + 1) L') (hk : Kb (fun k => k ≠ t + 1) w w') (hF : Fst L' (ps.map (·.1))) : FwI t n W v ps L' w' :=
  ⟨hl, hT, hF, h.row.keep fun g hg hB => hk.block g hg (by omega), h.lists, h.below.trans (hk.below (fun q hq => by omega) (by have := h.tab.lt; omega))⟩
theorem inC_app (ps : List (En × Value)) (x : En) (sv : Value) : InC (ps ++ [(x, sv)]) = InC ps ++ [.int .i64 x.e, .int .i64 x.d, sv] := by simp [InC]
/-- An entry more in the row. -/
theorem FwI.app {t n : Nat} {W : World} {v v8 : Value} {ps : List (En × Value)} {L L' : List (Option En)} {w w6 w8 : World} {x : En} {sv : Value} {o : Obj} (h : FwI t n W v ps L w) (hl : L'.length = n) (hT : Tab (Pv t v) w6 t (t + 2) (t + 1) L') (hk : Kb (fun k => k ≠ t + 1) w w6) (hF : Fst L' (ps.map (·.1) ++ [x]))
    (hs : ∀ A, Below t W A → SsAt Any A sv x.l) (hx : x.l.length ≤ 8796093021952) (ho : w8.ownsRow (t + 3) 31 3 v8 (ps.length + 1) (InC ps ++ [.int .i64 x.e, .int .i64 x.d, sv])) (hg : (w6.alloc o).grownBy w8 v.ownBlock) (hat : v8.ownBlock = v.ownBlock ∨ v8.ownBlock = some (w6.alloc o).heap.size) :
    FwI t n W v8 (ps ++ [(x, sv)]) L' w8 ∧ Kb (fun k => v.ownBlock ≠ some k) w6 w8 := by
  have hrow : InO (t + 3) w6 v ps := h.row.keep fun g hg hB => hk.block g hg (by omega)
  have hsz : (w6.alloc o).heap.size = w6.heap.size + 1 := World.size_alloc _ _
  have hs8 := hg.size
  have hkb : Kb (fun k => v.ownBlock ≠ some k) w6 w8 := ⟨hg.os, hg.tape, hg.output, by omega, fun k hk hv => (hg.block k (by omega) (fun e => hv e.symm)).trans (Below.heap_alloc w6 o k hk)⟩
  have hlt := hT.lt
  have hvt : ∀ k, v.ownBlock = some k → t + 3 ≤ k ∧ k < w6.heap.size := fun k e => World.ownsRow.lt hrow k e
  have hTq : Tab (fun k => Pv t v k ∧ k < w6.heap.size) w6 t (t + 2) (t + 1) L' := hT.mono (fun k hk hh => ⟨hh, hk⟩) (fun hh => hh.1.1 rfl) (fun hh => hh.1.2.1 rfl)
  have hTq8 : Tab (fun k => Pv t v k ∧ k < w6.heap.size) w8 t (t + 2) (t + 1) L' := hTq.keep (hkb.mono fun k _ hh => hh.1.2.2) (hkb.block t hlt.1 (fun e => by have := hvt t e; omega)) (hkb.block (t + 1) hlt.2.2 (fun e => by have := hvt (t + 1) e; omega))
  have hb6 : Below t W w6 := h.below.trans (hk.below (fun q hq => by omega) (by have := h.tab.lt; omega))
  refine ⟨⟨hl, hTq8.mono (fun k _ hh => ⟨hh.1.1, hh.1.2.1, fun e => ?_⟩) (fun hh => hh.1 rfl) (fun hh => hh.2.1 rfl), ?_, ?_, fun p hp => ?_, ?_⟩, hkb⟩
  · rcases hat with e1 | e1
    · exact hh.1.2.2 (e1 ▸ e)
    · rw [e1] at e
      injection e with e
      have := hh.2
      omega
  · rw [List.map_append]
    exact hF
  · unfold InO
    rw [inC_app, List.length_append]
    exact ho
  · rcases List.mem_append.1 hp with hp | hp
    · exact h.lists p hp
    · rw [List.mem_singleton.1 hp]
      exact ⟨hs, hx⟩
  · exact hb6.trans (hkb.below (fun q hq e => by have := hvt q e; omega) (by omega))
end Go.Proofs.Ytdgbebgjenfmbaa.M
