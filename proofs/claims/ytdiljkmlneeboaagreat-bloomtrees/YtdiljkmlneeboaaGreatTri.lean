/- A trie's nodes as a tree that bears its addresses, and what of it lies in memory. -/
import Derived.Test.YtdiljkmlneeboaaGreatRows
import Derived.WalkKit
import Derived.WalkLawsBesides
import Derived.Deep.MidRow
import Derived.BigQuiet
import Derived.Deep.QuietTactic
import Derived.Below
import Derived.Laws.Tables
import Derived.Deep.WholeRow
import Derived.Deep.DeepCutAuto
namespace Go.Proofs.YtdiljkmlneeboaaGreat
open Go.RowKit
set_option maxRecDepth 100000

/-- A fact that the walk does not look into. -/
def Hid (p : Prop) : Prop := p
theorem hid_mk {p : Prop} (h : p) : Hid p := h
theorem Hid.out {p : Prop} (h : Hid p) : p := h
/-- Nothing; a value at a block; a node at a block, with what follows each part. -/
inductive T where
  | nil
  | val (b : Nat) (v : Value)
  | node (b : Nat) (kids : Nat → T)

def T.bp : T → Value
  | .node b _ => .pointer (some ⟨b, 0, none⟩)
  | _ => .pointer none
def T.vp : T → Value
  | .val b _ => .pointer (some ⟨b, 0, none⟩)
  | _ => .pointer none
theorem T.bp_ptr (t : T) : ∃ a, t.bp = .pointer a := by cases t <;> exact ⟨_, rfl⟩
theorem T.vp_ptr (t : T) : ∃ a, t.vp = .pointer a := by cases t <;> exact ⟨_, rfl⟩
def T.kid : T → Nat → T
  | .node _ k, p => k p
  | _, _ => .nil
def T.upd (t : T) (p : Nat) (x : T) : Nat → T := fun q => if q = p then x else t.kid q
def kidCells (k : Nat → T) : List Value := (List.range 16).flatMap fun p => [(k p).bp, (k p).vp]
theorem kidCells_len (k : Nat → T) : (kidCells k).length = 32 := rfl
theorem kidCells_at (k : Nat → T) : ∀ j, j < 32 → (kidCells k)[j]? = some (if j % 2 = 0 then (k (j / 2)).bp else (k (j / 2)).vp)
  | 0, _ => rfl | 1, _ => rfl | 2, _ => rfl | 3, _ => rfl | 4, _ => rfl | 5, _ => rfl | 6, _ => rfl | 7, _ => rfl
  | 8, _ => rfl | 9, _ => rfl | 10, _ => rfl | 11, _ => rfl | 12, _ => rfl | 13, _ => rfl | 14, _ => rfl | 15, _ => rfl
  | 16, _ => rfl | 17, _ => rfl | 18, _ => rfl | 19, _ => rfl | 20, _ => rfl | 21, _ => rfl | 22, _ => rfl | 23, _ => rfl
  | 24, _ => rfl | 25, _ => rfl | 26, _ => rfl | 27, _ => rfl | 28, _ => rfl | 29, _ => rfl | 30, _ => rfl | 31, _ => rfl
  | n + 32, h => absurd h (by omega)

/-- An element as the trie keeps it: its number, its tag, its Parent, and the two lists. -/
structure N5 where
  id : Int
  tag : ByteArray
  par : Int
  ka : Option Addr
  kn : Nat
  kc : Nat
  aa : Option Addr
  an : Nat
  ac : Nat
def N5.cells (s : N5) : Array Value := #[.int .i64 s.id, .string s.tag, .int .i64 s.par, .slice s.ka s.kn s.kc, .slice s.aa s.an s.ac]
def N5.val (s : N5) : Value := .agg #[.int .i64 s.id, .string s.tag, .int .i64 s.par, .slice s.ka s.kn s.kc, .slice s.aa s.an s.ac]
/-- The tree lies in memory, its nodes as blocks of type ty.1, its values as blocks of type ty.2. -/
def Held (ty : Nat × Nat) (w : World) : T → Prop
  | .nil => True
  | .val b v => ∃ s : N5, v = s.val ∧ w.heap[b]? = some (.cells s.cells ty.2 (0, 0))
  | .node b k => w.heap[b]? = some (.cells (kidCells k).toArray ty.1 (0, 0)) ∧ ∀ p, p < 16 → Held ty w (k p)
theorem Held.keep {ty : Nat × Nat} {w w' : World} (hb : Below w.heap.size w w') : ∀ {t : T}, Held ty w t → Held ty w' t
  | .nil, _ => trivial
  | .val _ _, ⟨s, e, h⟩ => ⟨s, e, (hb.block _ (Array.getElem?_eq_some_iff.1 h).1).trans h⟩
  | .node _ _, h => ⟨(hb.block _ (Array.getElem?_eq_some_iff.1 h.1).1).trans h.1, fun p hp => Held.keep hb (h.2 p hp)⟩
/-- A store into a block of another type leaves it. -/
theorem Held.set {ty : Nat × Nat} {w : World} {B o : Nat} {C : Array Value} {t0 : Nat} {fr : Nat × Nat} (hB : w.heap[B]? = some (.cells C t0 fr)) (h1 : t0 ≠ ty.1) (h2 : t0 ≠ ty.2) (v : Value) : ∀ {t : T}, Held ty w t → Held ty (w.setCell ⟨B, o, none⟩ v) t
  | .nil, _ => trivial
  | .val b _, ⟨s, es, h⟩ => ⟨s, es, (Below.heap_setCell w ⟨B, o, none⟩ v b (fun e => by
      have e' : b = B := e
      subst e'
      have : w.heap[b]? = some (.cells s.cells ty.2 (0, 0)) := h
      rw [hB] at this
      injection this with this
      injection this with _ this
      exact h2 this)).trans h⟩
  | .node b k, h => ⟨(Below.heap_setCell w ⟨B, o, none⟩ v b (fun e => by
      have e' : b = B := e
      subst e'
      have := h.1
      rw [hB] at this
      injection this with this
      injection this with _ this
      exact h1 this)).trans h.1, fun p hp => Held.set hB h1 h2 v (h.2 p hp)⟩
theorem Held.kid {ty : Nat × Nat} {w : World} {t : T} (h : Held ty w t) (p : Nat) (hp : p < 16) : Held ty w (t.kid p) := by
  cases t with
  | nil => trivial
  | val b v => trivial
  | node b k => exact h.2 p hp
theorem Held.upd {ty : Nat × Nat} {w : World} {t x : T} (h : Held ty w t) (hx : Held ty w x) (p : Nat) : ∀ q, q < 16 → Held ty w (t.upd p x q) := fun q hq => by
  unfold T.upd
  split
  · exact hx
  · exact h.kid q hq
theorem T.bp_nil {t : T} (h : ∀ b k, t ≠ .node b k) : t.bp = .pointer none ∧ ∀ p, t.kid p = .nil := by
  cases t with
  | nil => exact ⟨rfl, fun _ => rfl⟩
  | val b v => exact ⟨rfl, fun _ => rfl⟩
  | node b k => exact absurd rfl (h b k)

/-- One branch is stored: the cells are those of the tree with that branch. -/
theorem cells_upd {w : World} {B : Nat} {t x : T} {cs : List Value} (hcs : ∀ j, j < 32 → cs[j]? = some (if j % 2 = 0 then (t.kid (j / 2)).bp else (t.kid (j / 2)).vp)) (hl : cs.length = 32) (h : w.rangeAt B 0 cs) (p : Nat) (hp : p < 16) :
    (w.setCells B (p * 2) [x.bp, x.vp]).rangeAt B 0 (kidCells (t.upd p x)) := by
  intro j v hv
  have hj : j < 32 := by have := (List.getElem?_eq_some_iff.1 hv).1; rwa [kidCells_len] at this
  rw [kidCells_at _ j hj] at hv
  have e : v = _ := (Option.some.inj hv).symm
  subst e
  rw [Nat.zero_add]
  have hsome : ∀ i, i < 2 → (w.cell? ⟨B, p * 2 + i, none⟩).isSome = true := fun i hi => by
    have := h.isSome (p * 2 + i) (by omega)
    rwa [Nat.zero_add] at this
  by_cases h1 : j / 2 = p
  · have hin := World.cell?_setCells_in B [x.bp, x.vp] (p * 2) w (fun i hi => hsome i (by simpa using hi)) (j - p * 2) (by simp; omega)
    rw [show p * 2 + (j - p * 2) = j by omega] at hin
    rw [hin]
    have : j - p * 2 = 0 ∨ j - p * 2 = 1 := by omega
    unfold T.upd
    rw [if_pos h1]
    rcases this with e | e
    · rw [if_pos (by omega)]
      simp [e]
    · rw [if_neg (by omega)]
      simp [e]
  · have hout := World.cell?_setCells_out B [x.bp, x.vp] (p * 2) w ⟨B, j, none⟩ (fun _ _ => by
      simp only [List.length_cons, List.length_nil]
      omega)
    rw [hout]
    have := h j _ (hcs j hj)
    rw [Nat.zero_add] at this
    rw [this]
    unfold T.upd
    rw [if_neg h1]

theorem kidCells_one (k : Nat → T) : (kidCells k).toArray.all (·.oneCell') = true := by
  refine all_oneCell_toArray fun v hv => ?_
  obtain ⟨p, _, hp⟩ := List.mem_flatMap.1 hv
  simp only [List.mem_cons, List.not_mem_nil, or_false] at hp
  rcases hp with rfl | rfl
  · obtain ⟨a, e⟩ := (k p).bp_ptr
    rw [e]; rfl
  · obtain ⟨a, e⟩ := (k p).vp_ptr
    rw [e]; rfl
theorem fold_at : ∀ (cs : List Value) (z : Array Value) (k i : Nat), (List.foldl (fun (cs : Array Value) (x : Value × Nat) => cs.setIfInBounds x.2 x.1) z (cs.zipIdx k))[i]? = if k ≤ i ∧ i < k + cs.length ∧ i < z.size then cs[i - k]? else z[i]?
  | [], z, k, i => by
    rw [if_neg (by simp only [List.length_nil]; omega)]
    rfl
  | c :: r, z, k, i => by
    rw [List.zipIdx_cons, List.foldl_cons, fold_at r _ (k + 1) i]
    simp only [Array.size_setIfInBounds, List.length_cons]
    by_cases h : k + 1 ≤ i ∧ i < k + 1 + r.length ∧ i < z.size
    · rw [if_pos h, if_pos (by omega), show i - k = (i - (k + 1)) + 1 by omega, List.getElem?_cons_succ]
    · rw [if_neg h]
      by_cases h2 : i = k
      · subst h2
        by_cases h3 : i < z.size
        · rw [if_pos (by omega), Nat.sub_self]
          simp [h3]
        · rw [if_neg (by omega)]
          simp [h3]
      · rw [if_neg (by omega), Array.getElem?_setIfInBounds, if_neg (fun e => h2 e.symm)]
theorem fold32 (cs : List Value) (h : cs.length = 32) : List.foldl (fun (cs : Array Value) (x : Value × Nat) => cs.setIfInBounds x.2 x.1) #[.pointer none, .pointer none, .pointer none, .pointer none, .pointer none, .pointer none, .pointer none, .pointer none, .pointer none, .pointer none, .pointer none, .pointer none, .pointer none, .pointer none, .pointer none, .pointer none, .pointer none, .pointer none, .pointer none, .pointer none, .pointer none, .pointer none, .pointer none, .pointer none, .pointer none, .pointer none, .pointer none, .pointer none, .pointer none, .pointer none, .pointer none, .pointer none] cs.zipIdx = cs.toArray := by
  apply Array.ext_getElem?
  intro i
  rw [fold_at]
  have hz : (#[.pointer none, .pointer none, .pointer none, .pointer none, .pointer none, .pointer none, .pointer none, .pointer none, .pointer none, .pointer none, .pointer none, .pointer none, .pointer none, .pointer none, .pointer none, .pointer none, .pointer none, .pointer none, .pointer none, .pointer none, .pointer none, .pointer none, .pointer none, .pointer none, .pointer none, .pointer none, .pointer none, .pointer none, .pointer none, .pointer none, .pointer none, .pointer none] : Array Value).size = 32 := rfl
  rw [hz]
  by_cases hi : i < 32
  · rw [if_pos (by omega)]
    simp
  · rw [if_neg (by omega)]
    rw [Array.getElem?_eq_none (by rw [hz]; omega), Array.getElem?_eq_none (by simp; omega)]

end Go.Proofs.YtdiljkmlneeboaaGreat
