/- What stays of a memory; texts in a slice; one's own rows of texts. -/
import Derived.Test.YtdgbebgjenfmbaaRows
import Derived.WalkKit
import Derived.WalkLawsBesides
import Derived.Deep.MidRow
import Derived.BigQuiet
import Derived.Deep.QuietTactic
import Derived.Below
import Derived.Deep.WholeRow
import Derived.Deep.DeepCutAuto
import Derived.Deep.RegionLaw
import Derived.Deep.RegionHeld3
import Derived.WalkMore
import Derived.Deep.LoopGhost
import Derived.Maps.AppendAt
import Derived.Laws.LoneSync
import Derived.Laws.Pointers
namespace Go.Proofs.Ytdgbebgjenfmbaa.M
open Go.RowKit
set_option maxRecDepth 100000

theorem hid_mk {p : Prop} (h : p) : Hid p := h
/-- All blocks with P are as they were. -/
structure Kb (P : Nat → Prop) (w w' : World) : Prop where
  os : w'.os = w.os
  tape : w'.tape = w.tape
  output : w'.output = w.output
  size : w.heap.size ≤ w'.heap.size
  block : ∀ k, k < w.heap.size → P k → w'.heap[k]? = w.heap[k]?
theorem Kb.refl (P : Nat → Prop) (w : World) : Kb P w w := ⟨rfl, rfl, rfl, Nat.le_refl _, fun _ _ _ => rfl⟩
theorem Kb.trans {P : Nat → Prop} {a b c : World} (h : Kb P a b) (k : Kb P b c) : Kb P a c :=
  ⟨k.os.trans h.os, k.tape.trans h.tape, k.output.trans h.output, Nat.le_trans h.size k.size, fun i hi hp => (k.block i (Nat.lt_of_lt_of_le hi h.size) hp).trans (h.block i hi hp)⟩
theorem Kb.of_below {P : Nat → Prop} {a b : World} (h : Below a.heap.size a b) : Kb P a b := ⟨h.os, h.tape, h.output, h.size, fun k hk _ => h.block k hk⟩
theorem Kb.mono {P Q : Nat → Prop} {a b : World} (h : Kb P a b) (hq : ∀ k, k < a.heap.size → Q k → P k) : Kb Q a b := ⟨h.os, h.tape, h.output, h.size, fun k hk hp => h.block k hk (hq k hk hp)⟩
theorem Kb.below {P : Nat → Prop} {n : Nat} {a b : World} (h : Kb P a b) (hp : ∀ k, k < n → P k) (hn : n ≤ a.heap.size) : Below n a b := ⟨h.os, h.tape, h.output, h.size, fun k hk => h.block k (by omega) (hp k hk)⟩
theorem Kb.drew {P : Nat → Prop} {a b : World} (h : Kb P a b) : Kb P a b.drew := ⟨h.os, h.tape, h.output, h.size, h.block⟩
theorem Kb.alloc {P : Nat → Prop} {a b : World} (h : Kb P a b) (o : Obj) : Kb P a (b.alloc o) := h.trans (Kb.of_below ((Below.refl _ b).alloc (Nat.le_refl _) o))
theorem Kb.set {P : Nat → Prop} {a b : World} (h : Kb P a b) {p : Addr} (hp : ¬ P p.block) (u : Value) : Kb P a (b.setCell p u) :=
  h.trans ⟨rfl, rfl, rfl, by simp [World.setCell], fun k _ hk => Below.heap_setCell b p u k (fun e => hp (e ▸ hk))⟩
/-- A store into a block that is new. -/
theorem Kb.set_new {P : Nat → Prop} {a b : World} (h : Kb P a b) {p : Addr} (hp : a.heap.size ≤ p.block) (u : Value) : Kb P a (b.setCell p u) :=
  ⟨h.os, h.tape, h.output, by simpa [World.setCell] using h.size, fun k hk hpk => (Below.heap_setCell b p u k (by omega)).trans (h.block k hk hpk)⟩
theorem below_set {a b : World} (h : Below a.heap.size a b) {p : Addr} (hp : a.heap.size ≤ p.block) (u : Value) : Below a.heap.size a (b.setCell p u) := h.setCell hp u

/-- Texts in a slice, whose block has P. -/
def SsAt (P : Nat → Prop) (w : World) (v : Value) (l : List ByteArray) : Prop := ∃ a c g o, v = .slice a l.length c ∧ l.length ≤ c ∧ c ≤ maxLen ∧ (0 < l.length → a = some ⟨g, o, none⟩ ∧ g < w.heap.size ∧ P g) ∧ ∀ (k : Nat) (s : ByteArray), l[k]? = some s → w.cell? ⟨g, o + k, none⟩ = some (.string s)
theorem SsAt.keep {P : Nat → Prop} {w w' : World} {v : Value} {l : List ByteArray} (h : SsAt P w v l) (hb : Kb P w w') : SsAt P w' v l := by
  obtain ⟨a, c, g, o, h1, h2, h3, h4, h5⟩ := h
  refine ⟨a, c, g, o, h1, h2, h3, fun h0 => ?_, fun k s hk => ?_⟩
  · obtain ⟨x1, x2, x3⟩ := h4 h0
    exact ⟨x1, Nat.lt_of_lt_of_le x2 hb.size, x3⟩
  · have hlt := (List.getElem?_eq_some_iff.1 hk).1
    obtain ⟨x1, x2, x3⟩ := h4 (by omega)
    exact (World.cell?_of_block (a := ⟨g, o + k, none⟩) (hb.block g x2 x3)).trans (h5 k s hk)
theorem SsAt.mono {P Q : Nat → Prop} {w : World} {v : Value} {l : List ByteArray} (h : SsAt P w v l) (hq : ∀ k, k < w.heap.size → P k → Q k) : SsAt Q w v l := by
  obtain ⟨a, c, g, o, h1, h2, h3, h4, h5⟩ := h
  exact ⟨a, c, g, o, h1, h2, h3, fun h0 => ⟨(h4 h0).1, (h4 h0).2.1, hq g (h4 h0).2.1 (h4 h0).2.2⟩, h5⟩
/-- The texts do not lie in a block whose cells are no texts. -/
theorem SsAt.off {P : Nat → Prop} {w : World} {v : Value} {l : List ByteArray} (h : SsAt P w v l) {b : Nat} (hb : ∀ o s, w.cell? ⟨b, o, none⟩ ≠ some (.string s)) : SsAt (fun k => P k ∧ k ≠ b) w v l := by
  obtain ⟨a, c, g, o, h1, h2, h3, h4, h5⟩ := h
  refine ⟨a, c, g, o, h1, h2, h3, fun h0 => ⟨(h4 h0).1, (h4 h0).2.1, (h4 h0).2.2, fun e => ?_⟩, h5⟩
  subst e
  exact hb _ _ (h5 0 _ (List.getElem?_eq_getElem h0))
theorem SsAt.nil (P : Nat → Prop) (w : World) : SsAt P w (.slice none 0 0) [] := ⟨none, 0, 0, 0, rfl, Nat.le_refl _, Nat.zero_le _, fun h => absurd h (Nat.lt_irrefl 0), fun k s hk => by rw [List.getElem?_nil] at hk; cases hk⟩
/-- A row of texts of one's own, from block B on. -/
def StO (B : Nat) (w : World) (v : Value) (l : List ByteArray) : Prop := w.ownsRow B 9 1 v l.length (l.map Value.string)
theorem StO.ss {B : Nat} {w : World} {v : Value} {l : List ByteArray} (h : StO B w v l) : SsAt (fun k => B ≤ k) w v l := by
  have hh := h
  obtain ⟨hl, hc⟩ := h
  rcases hc with ⟨rfl, h0⟩ | ⟨g, cap, cur, rfl, hBg, hg, hnc, hcm, hszz, hcur⟩
  · exact ⟨none, 0, 0, 0, by rw [h0], by omega, Nat.zero_le _, fun h => by omega, fun k s hk => by have := (List.getElem?_eq_some_iff.1 hk).1; omega⟩
  · refine ⟨_, cap, g, 0, rfl, hnc, hcm, fun _ => ⟨rfl, (Array.getElem?_eq_some_iff.1 hg).1, hBg⟩, fun k s hk => ?_⟩
    have := World.ownsRow.cells hh (g := g) rfl k (.string s) (by rw [List.getElem?_map, hk]; rfl)
    rw [Addr.add_mid] at this
    exact this
theorem StO.keep {B : Nat} {w w' : World} {v : Value} {l : List ByteArray} (h : StO B w v l) (hb : ∀ g, g < w.heap.size → B ≤ g → w'.heap[g]? = w.heap[g]?) : StO B w' v l := by
  refine ⟨h.1, ?_⟩
  rcases h.2 with ⟨hv, hn⟩ | ⟨g, cap, cur, hv, hB, hg, rest⟩
  · exact .inl ⟨hv, hn⟩
  · exact .inr ⟨g, cap, cur, hv, hB, (hb g (Array.getElem?_eq_some_iff.1 hg).1 hB).trans hg, rest⟩
theorem StO.mono {B B' : Nat} {w : World} {v : Value} {l : List ByteArray} (h : StO B w v l) (hb : B' ≤ B) : StO B' w v l := by
  refine ⟨h.1, ?_⟩
  rcases h.2 with ⟨hv, hn⟩ | ⟨g, cap, cur, hv, hB, hg, rest⟩
  · exact .inl ⟨hv, hn⟩
  · exact .inr ⟨g, cap, cur, hv, Nat.le_trans hb hB, hg, rest⟩
theorem lt_of_cell {w : World} {a : Addr} {v : Value} (h : w.cell? a = some v) : a.block < w.heap.size := by
  unfold World.cell? at h
  cases hx : w.heap[a.block]? with
  | none => rw [hx] at h; cases h
  | some o => exact (Array.getElem?_eq_some_iff.1 hx).1

/-- An entry: its epoch, its node and its style. -/
structure En where
  e : Int
  d : Int
  l : List ByteArray
/-- An entry in a block of its own. -/
def EnAt (P : Nat → Prop) (w : World) (g : Nat) (x : En) : Prop := P g ∧ ∃ sv, w.heap[g]? = some (.cells #[.int .i64 x.e, .int .i64 x.d, sv] 31 (0, 0)) ∧ SsAt P w sv x.l
theorem EnAt.lt {P : Nat → Prop} {w : World} {g : Nat} {x : En} (h : EnAt P w g x) : g < w.heap.size := by
  obtain ⟨_, sv, h, _⟩ := h
  exact (Array.getElem?_eq_some_iff.1 h).1
theorem EnAt.keep {P : Nat → Prop} {w w' : World} {g : Nat} {x : En} (h : EnAt P w g x) (hb : Kb P w w') : EnAt P w' g x := by
  obtain ⟨hp, sv, h1, h2⟩ := h
  exact ⟨hp, sv, (hb.block g (Array.getElem?_eq_some_iff.1 h1).1 hp).trans h1, h2.keep hb⟩
theorem EnAt.mono {P Q : Nat → Prop} {w : World} {g : Nat} {x : En} (h : EnAt P w g x) (hq : ∀ k, k < w.heap.size → P k → Q k) : EnAt Q w g x := by
  obtain ⟨hp, sv, h1, h2⟩ := h
  exact ⟨hq g (Array.getElem?_eq_some_iff.1 h1).1 hp, sv, h1, h2.mono hq⟩
/-- A cell: empty, or it points to an entry. -/
def CeV (P : Nat → Prop) (w : World) (v : Value) : Option En → Prop
  | none => v = .pointer none
  | some x => ∃ g, v = .pointer (some ⟨g, 0, none⟩) ∧ EnAt P w g x
theorem CeV.keep {P : Nat → Prop} {w w' : World} {v : Value} {o : Option En} (h : CeV P w v o) (hb : Kb P w w') : CeV P w' v o := by
  cases o with
  | none => exact h
  | some x =>
    obtain ⟨g, h1, h2⟩ := h
    exact ⟨g, h1, h2.keep hb⟩
theorem CeV.mono {P Q : Nat → Prop} {w : World} {v : Value} {o : Option En} (h : CeV P w v o) (hq : ∀ k, k < w.heap.size → P k → Q k) : CeV Q w v o := by
  cases o with
  | none => exact h
  | some x =>
    obtain ⟨g, h1, h2⟩ := h
    exact ⟨g, h1, h2.mono hq⟩
/-- The cells of a ring in block c; P says where else it may lie. -/
structure Ring (P : Nat → Prop) (w : World) (c : Nat) (L : List (Option En)) : Prop where
  off : ¬ P c
  row : ∃ vs : Array Value, w.heap[c]? = some (.cells vs 83 (0, 0)) ∧ vs.size = L.length ∧ ∀ (j : Nat) (o : Option En), L[j]? = some o → ∃ v, vs[j]? = some v ∧ CeV P w v o
theorem Ring.lt {P : Nat → Prop} {w : World} {c : Nat} {L : List (Option En)} (h : Ring P w c L) : c < w.heap.size := by
  obtain ⟨vs, h1, _⟩ := h.row
  exact (Array.getElem?_eq_some_iff.1 h1).1
theorem Ring.keep {P : Nat → Prop} {w w' : World} {c : Nat} {L : List (Option En)} (h : Ring P w c L) (hb : Kb P w w') (hc : w'.heap[c]? = w.heap[c]?) : Ring P w' c L := by
  refine ⟨h.off, ?_⟩
  obtain ⟨vs, h1, h2, h3⟩ := h.row
  refine ⟨vs, hc.trans h1, h2, fun j o hj => ?_⟩
  obtain ⟨v, x1, x2⟩ := h3 j o hj
  exact ⟨v, x1, x2.keep hb⟩
theorem Ring.mono {P Q : Nat → Prop} {w : World} {c : Nat} {L : List (Option En)} (h : Ring P w c L) (hq : ∀ k, k < w.heap.size → P k → Q k) (hc : ¬ Q c) : Ring Q w c L := by
  refine ⟨hc, ?_⟩
  obtain ⟨vs, h1, h2, h3⟩ := h.row
  refine ⟨vs, h1, h2, fun j o hj => ?_⟩
  obtain ⟨v, x1, x2⟩ := h3 j o hj
  exact ⟨v, x1, x2.mono hq⟩
theorem Ring.cell {P : Nat → Prop} {w : World} {c : Nat} {L : List (Option En)} (h : Ring P w c L) {j : Nat} {o : Option En} (hj : L[j]? = some o) : ∃ v, w.cell? ⟨c, j, none⟩ = some v ∧ CeV P w v o ∧ w.frozen? ⟨c, j, none⟩ = false := by
  obtain ⟨vs, h1, h2, h3⟩ := h.row
  obtain ⟨v, x1, x2⟩ := h3 j o hj
  refine ⟨v, ?_, x2, ?_⟩
  · simp [World.cell?, h1, x1]
  · simp [World.frozen?, h1]
/-- A table: a variable in block t that points to a slice in block r, of the ring in block c. -/
structure Tab (P : Nat → Prop) (w : World) (t r c : Nat) (L : List (Option En)) : Prop where
  offT : ¬ P t
  onR : P r
  ne : t ≠ c
  box : w.heap[t]? = some (.cells #[.pointer (some ⟨r, 0, none⟩)] 65 (0, 0))
  var : w.heap[r]? = some (.cells #[.slice (some ⟨c, 0, none⟩) L.length L.length] 71 (0, 0))
  small : L.length ≤ 65536
  ring : Ring P w c L
theorem Tab.keep {P : Nat → Prop} {w w' : World} {t r c : Nat} {L : List (Option En)} (h : Tab P w t r c L) (hb : Kb P w w') (ht : w'.heap[t]? = w.heap[t]?) (hc : w'.heap[c]? = w.heap[c]?) : Tab P w' t r c L :=
  ⟨h.offT, h.onR, h.ne, ht.trans h.box, (hb.block r (Array.getElem?_eq_some_iff.1 h.var).1 h.onR).trans h.var, h.small, h.ring.keep hb hc⟩
theorem Tab.below {P : Nat → Prop} {w w' : World} {t r c : Nat} {L : List (Option En)} (h : Tab P w t r c L) (hb : Below w.heap.size w w') : Tab P w' t r c L :=
  h.keep (Kb.of_below hb) (hb.block t (Array.getElem?_eq_some_iff.1 h.box).1) (hb.block c h.ring.lt)
theorem Tab.mono {P Q : Nat → Prop} {w : World} {t r c : Nat} {L : List (Option En)} (h : Tab P w t r c L) (hq : ∀ k, k < w.heap.size → P k → Q k) (ht : ¬ Q t) (hc : ¬ Q c) : Tab Q w t r c L :=
  ⟨ht, hq r (Array.getElem?_eq_some_iff.1 h.var).1 h.onR, h.ne, h.box, h.var, h.small, h.ring.mono hq hc⟩
theorem Tab.lt {P : Nat → Prop} {w : World} {t r c : Nat} {L : List (Option En)} (h : Tab P w t r c L) : t < w.heap.size ∧ r < w.heap.size ∧ c < w.heap.size :=
  ⟨(Array.getElem?_eq_some_iff.1 h.box).1, (Array.getElem?_eq_some_iff.1 h.var).1, h.ring.lt⟩
/-- One cell is put. -/
theorem Ring.set {P : Nat → Prop} {w1 : World} {c : Nat} {L : List (Option En)} (h : Ring P w1 c L) {j g : Nat} {x : En} (hj : j < L.length) (hx : EnAt P w1 g x) : Ring P (w1.setCell ⟨c, j, none⟩ (.pointer (some ⟨g, 0, none⟩))) c (L.set j (some x)) := by
  have hk : Kb P w1 (w1.setCell ⟨c, j, none⟩ (.pointer (some ⟨g, 0, none⟩))) := (Kb.refl P w1).set (p := ⟨c, j, none⟩) h.off _
  refine ⟨h.off, ?_⟩
  obtain ⟨vs, h1, h2, h3⟩ := h.row
  refine ⟨vs.setIfInBounds j (.pointer (some ⟨g, 0, none⟩)), ?_, ?_, fun i o hi => ?_⟩
  · have hlt := (Array.getElem?_eq_some_iff.1 h1).1
    simp only [World.setCell, Array.getElem?_modify, h1]
    simp
  · simp [h2]
  · rw [List.getElem?_set] at hi
    by_cases he : j = i
    · subst he
      rw [if_pos rfl, if_pos hj] at hi
      injection hi with hi
      subst hi
      exact ⟨_, by rw [Array.getElem?_setIfInBounds_self_of_lt (by omega)], g, rfl, hx.keep hk⟩
    · rw [if_neg he] at hi
      obtain ⟨v, x1, x2⟩ := h3 i o hi
      exact ⟨v, by rw [Array.getElem?_setIfInBounds_ne he]; exact x1, x2.keep hk⟩
end Go.Proofs.Ytdgbebgjenfmbaa.M
