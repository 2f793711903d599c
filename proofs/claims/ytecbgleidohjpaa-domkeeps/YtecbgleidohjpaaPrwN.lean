/- A growing row of pointers, and what an append to it leaves. -/
import Derived.Test.YtecbgleidohjpaaRowN
import Derived.Laws.AppendOwn
namespace Go.Proofs.Ytecbgleidohjpaa.N
open Go.RowKit
set_option maxRecDepth 100000

/-- No pointer. -/
def NP (v : Value) : Prop := ∀ p, v ≠ .pointer p
/-- All blocks stand but those of two types of pointers; so does every cell that holds no pointer. -/
structure KpT (w w' : World) : Prop where
  size : w.heap.size ≤ w'.heap.size
  blk : ∀ (j : Nat) (c : Array Value) (t : TypeId) (fr : Nat × Nat), w.heap[j]? = some (.cells c t fr) → t ≠ 25 → t ≠ 29 → w'.heap[j]? = some (.cells c t fr)
  cell : ∀ a v, w.cell? a = some v → NP v → w'.cell? a = some v
theorem KpT.of {w w' : World} (h : Below w.heap.size w w') : KpT w w' :=
  ⟨h.size, fun j c t fr hj _ _ => (h.block _ (Array.getElem?_eq_some_iff.1 hj).1).trans hj, fun a v hv _ => by
    have hl : a.block < w.heap.size := by
      refine Classical.byContradiction fun hn => ?_
      have : w.heap[a.block]? = none := Array.getElem?_eq_none (by omega)
      simp [World.cell?, this] at hv
    exact (h.cell hl).trans hv⟩
theorem KpT.trans {w w1 w2 : World} (h : KpT w w1) (k : KpT w1 w2) : KpT w w2 :=
  ⟨Nat.le_trans h.size k.size, fun j c t fr hj h1 h2 => k.blk j c t fr (h.blk j c t fr hj h1 h2) h1 h2, fun a v hv hn => k.cell a v (h.cell a v hv hn) hn⟩
/-- A row of pointers of one's own. -/
def PRow (w : World) (B : Nat) (e : TypeId) (v : Value) (ps : List Value) : Prop :=
  ∃ g cap cur, v = .slice (some ⟨g, 0, none⟩) ps.length cap ∧ B ≤ g ∧ w.heap[g]? = some (.cells cur e (0, 0)) ∧ ps.length ≤ cap ∧ cap ≤ maxLen ∧ cur.size = cap ∧ cur.toList.take ps.length = ps ∧ ∀ u ∈ cur.toList, ∃ p, u = .pointer p
theorem PRow.keep {w w' : World} {B : Nat} {e : TypeId} {v : Value} {ps : List Value} (h : PRow w B e v ps) (hb : Below w.heap.size w w') : PRow w' B e v ps := by
  obtain ⟨g, cap, cur, h1, h2, h3, h4⟩ := h
  exact ⟨g, cap, cur, h1, h2, (hb.block _ (Array.getElem?_eq_some_iff.1 h3).1).trans h3, h4⟩
theorem PRow.at {w : World} {B : Nat} {e : TypeId} {v : Value} {ps : List Value} (h : PRow w B e v ps) : ∃ g cap, v = .slice (some ⟨g, 0, none⟩) ps.length cap ∧ ps.length ≤ cap ∧ cap ≤ 9223372036854775807 ∧ ∀ j (hj : j < ps.length), w.cell? ⟨g, j, none⟩ = some ps[j] := by
  obtain ⟨g, cap, cur, h1, _, h3, h4, h5, h6, h7, _⟩ := h
  refine ⟨g, cap, h1, h4, h5, fun j hj => ?_⟩
  have hlt : j < cur.size := by omega
  have h8 : (cur.toList.take ps.length)[j]? = ps[j]? := by rw [h7]
  rw [List.getElem?_take_of_lt hj, List.getElem?_eq_getElem hj] at h8
  simp only [World.cell?, h3]
  simpa using h8
theorem PRow.one (w : World) (B : Nat) (e : TypeId) (p : Option Addr) (hB : B ≤ w.heap.size) : PRow (w.alloc (.cells #[.pointer p] e)) B e (.slice (some ⟨w.heap.size, 0, none⟩) 1 1) [.pointer p] :=
  ⟨w.heap.size, 1, #[.pointer p], rfl, hB, heap_alloc_last w _, Nat.le_refl _, by decide, rfl, rfl, fun u hu => ⟨p, by simpa using hu⟩⟩
/-- What the append leaves. -/
structure PApp (w w' : World) (B : Nat) (e : TypeId) (v' : Value) (ps : List Value) : Prop where
  row : PRow w' B e v' ps
  kp : KpT w w'
  bel : Below B w w'
  oth : ∀ e' v2 qs, e' ≠ e → PRow w B e' v2 qs → PRow w' B e' v2 qs
  fr : ∀ (j : Nat) (c : Array Value) (t : TypeId) (f : Nat × Nat), w.heap[j]? = some (.cells c t f) → t ≠ e → w'.heap[j]? = some (.cells c t f)
theorem prow_append {w : World} {B : Nat} {e t : TypeId} {i : TypeInfo} {v : Value} {ps : List Value} {p : Option Addr} {src : Nat} (he : e = 25 ∨ e = 29) (ht : Try.prog.underlying t = some (.slice e)) (hi : Try.prog.info? e = some i) (hz : i.zero = some (.pointer none)) (hs : i.size = 1) (hby : i.bytes = 8)
    (h : PRow w B e v ps) (hsrc : w.heap[src]? = some (.cells #[.pointer p] e (0, 0))) (hl : ps.length ≤ 1000) (hB : B ≤ w.heap.size) (ty : TypeId) :
    ∃ v' w', (Builtin.append_ #[t, t] ty #[v, .slice (some ⟨src, 0, none⟩) 1 1]).run Try.prog w = .ok v' w' ∧ PApp w w' B e v' (ps ++ [.pointer p]) := by
  obtain ⟨g, cap, cur, rfl, h2, h3, h4, h5, h6, h7, h8⟩ := h
  have hnews : ∀ j u, [Value.pointer p][j]? = some u → w.cell? ((⟨src, 0, none⟩ : Addr).add j) = some u := fun j u hu => by
    have hj : j = 0 := by
      have := (List.getElem?_eq_some_iff.1 hu).1
      simp at this
      exact this
    subst hj
    rw [← hu]
    show World.cell? w ⟨src, 0 + 0, none⟩ = _
    simp [World.cell?, hsrc]
  have hgl : g < w.heap.size := (Array.getElem?_eq_some_iff.1 h3).1
  by_cases hroom : ps.length + 1 ≤ cap
  · have hr := run_append_room (P := Try.prog) w t ty e i ht hi g ps.length cap cur h3 ⟨src, 0, none⟩ 1 1 [.pointer p] (by simp [hs]) hnews (fun u hu => by rw [List.mem_singleton.1 hu]; rfl) hroom (by simp [hs]; omega)
    rw [hs, Nat.mul_one, h7] at hr
    have hh := setRow_heap w g cur (ps ++ [Value.pointer p] ++ cur.toList.drop (ps.length + [Value.pointer p].length)).toArray e (0, 0) h3
    have hot : ∀ k, k ≠ g → (w.setRow g (ps ++ [Value.pointer p] ++ cur.toList.drop (ps.length + [Value.pointer p].length)).toArray).heap[k]? = w.heap[k]? := fun k hk => setRow_other w g k _ hk
    have hlc : cur.toList.length = cap := by simpa using h6
    have hfr : ∀ (j : Nat) (c : Array Value) (t : TypeId) (f : Nat × Nat), w.heap[j]? = some (.cells c t f) → t ≠ e → (w.setRow g (ps ++ [Value.pointer p] ++ cur.toList.drop (ps.length + [Value.pointer p].length)).toArray).heap[j]? = some (.cells c t f) := fun j c t f hj hne => by
      have hjg : j ≠ g := fun e1 => by
        subst e1
        rw [h3] at hj
        cases hj
        exact hne rfl
      rw [hot j hjg]
      exact hj
    refine ⟨_, _, hr, ⟨⟨g, cap, _, by simp, h2, hh, by simp; omega, h5, by simp; omega, ?_, ?_⟩, ⟨by simp [World.setRow], fun j c t fr hj n1 n2 => hfr j c t fr hj (by rcases he with rfl | rfl <;> assumption), ?_⟩, ⟨rfl, rfl, rfl, by simp [World.setRow], fun k hk => hot k (by omega)⟩, ?_, hfr⟩⟩
    · simp only [List.length_append, List.length_singleton]
      rw [show ps.length + 1 = (ps ++ [Value.pointer p]).length by simp]
      exact List.take_left
    · intro u hu
      simp only [List.mem_append, List.mem_singleton] at hu
      rcases hu with (hu | rfl) | hu
      · exact h8 u (by rw [← h7] at hu; exact List.mem_of_mem_take hu)
      · exact ⟨p, rfl⟩
      · exact h8 u (List.mem_of_mem_drop hu)
    · intro a u hu hn
      by_cases hag : a.block = g
      · exfalso
        obtain ⟨ab, ao, asp⟩ := a
        dsimp only at hag
        subst hag
        have hsp := World.cell?_spot hu
        dsimp only at hsp
        subst hsp
        have hm : cur[ao]? = some u := by
          simp only [World.cell?, h3] at hu
          simpa using hu
        obtain ⟨q, hq⟩ := h8 u (by
          have := Array.mem_of_getElem? hm
          simpa using this)
        exact hn q hq
      · exact (World.cell?_of_block (hot a.block hag)).trans hu
    · rintro e' v2 qs hne ⟨g', cap', cur', r1, r2, r3, r4⟩
      exact ⟨g', cap', cur', r1, r2, hfr g' cur' e' (0, 0) r3 hne, r4⟩
  · have hold : ∀ j u, ps[j]? = some u → w.cell? ((⟨g, 0, none⟩ : Addr).add j) = some u := fun j u hu => by
      have hj := (List.getElem?_eq_some_iff.1 hu).1
      rw [← h7, List.getElem?_take_of_lt hj] at hu
      rw [Addr.add_mid]
      simp only [World.cell?, h3, Nat.zero_add]
      simpa using hu
    have hr := run_append_grow (P := Try.prog) w t ty e i (.pointer none) ht hi hz ⟨g, 0, none⟩ ps.length cap ps (by simp [hs]) hold ⟨src, 0, none⟩ 1 1 [.pointer p] (by simp [hs]) hnews (by omega) (by omega) (growslice_fits (by omega) (by rw [hby]; omega))
    have hge := grownCap_ge w (ps.length + 1) cap e
    have hcm : grownCap w (ps.length + 1) cap e ≤ maxLen := grownCap_le_maxLen w (ps.length + 1) cap e (by unfold maxLen; omega)
    have hBl : ∀ o, Below w.heap.size w (w.drew.alloc o) := fun o => ((Below.refl _ w).drew).alloc (Nat.le_refl _) _
    refine ⟨_, _, hr, ⟨⟨w.heap.size, _, _, by simp, hB, heap_alloc_new w.drew _, by simpa using hge, hcm, ?_, ?_, ?_⟩, KpT.of (hBl _), (hBl _).mono hB, fun e' v2 qs _ hp => hp.keep (hBl _), fun j c t f hj _ => ((hBl _).block _ (Array.getElem?_eq_some_iff.1 hj).1).trans hj⟩⟩
    · simp only [Array.size_append, List.size_toArray, size_zeroCells, List.length_singleton]
      simp [Value.cells]
      omega
    · simp only [Array.toList_append, List.append_assoc]
      rw [← List.append_assoc]
      exact List.take_left
    · intro u hu
      simp only [Array.toList_append, List.mem_append] at hu
      rcases hu with (hu | hu) | hu
      · have hu' : u ∈ ps := by simpa using hu
        exact h8 u (by rw [← h7] at hu'; exact List.mem_of_mem_take hu')
      · exact ⟨p, by simpa using hu⟩
      · refine ⟨none, ?_⟩
        simp [Builtin.zeroCells, Value.cells] at hu
        obtain ⟨q, _, hq⟩ := hu
        rw [← hq, Nat.mod_one]
        rfl
/-- An append of one pointer, in a walk. -/
theorem wpList_prow {ops : Array Oper} {rest : List Oper} {o : Oper} {a : Act} {Q : Exit → Act → World → Prop} {w : World} (hgd : o.guard = none) (s x : Operand) (t : TypeId) (ho : o.op = .call { callee := .builtin .append, args := #[s, x], argTypes := #[t, t] })
    {B : Nat} {e : TypeId} {i : TypeInfo} {v : Value} {ps : List Value} {p : Option Addr} {src : Nat} (he : e = 25 ∨ e = 29) (ht : Try.prog.underlying t = some (.slice e)) (hi : Try.prog.info? e = some i) (hz : i.zero = some (.pointer none)) (hs : i.size = 1) (hby : i.bytes = 8)
    (hp : PRow w B e v ps) (hsrc : w.heap[src]? = some (.cells #[.pointer p] e (0, 0))) (hl : ps.length ≤ 1000) (hB : B ≤ w.heap.size) (hv : a.eval s = v) (hx : a.eval x = .slice (some ⟨src, 0, none⟩) 1 1)
    (h : ∀ v' w', PApp w w' B e v' (ps ++ [.pointer p]) → wpList Try.prog ops Q rest (a.put o.dst v') w') : wpList Try.prog ops Q (o :: rest) a w := by
  refine wpList_plain hgd fun K hK => ?_
  obtain ⟨v', w', hr, h2⟩ := prow_append (w := w) he ht hi hz hs hby hp hsrc hl hB o.type
  unfold Oper.wp execOp
  simp only [ho, resolve, invoke, builtin, Sem.run_bind, Sem.run_pure, Result.andThen_ok, List.map_toArray, List.map_cons, List.map_nil, hv, hx, hr]
  exact hK _ _ (h v' w' h2)
theorem info25p : ∃ i, Try.prog.info? 25 = some i ∧ i.zero = some (.pointer none) ∧ i.size = 1 ∧ i.bytes = 8 := ⟨_, by rfl, by rfl, by rfl, by rfl⟩
theorem info29p : ∃ i, Try.prog.info? 29 = some i ∧ i.zero = some (.pointer none) ∧ i.size = 1 ∧ i.bytes = 8 := ⟨_, by rfl, by rfl, by rfl, by rfl⟩
end Go.Proofs.Ytecbgleidohjpaa.N
