/- What text.Runes gives: the characters of the bytes, ends of lines made alike; it leaves all that was there. -/
import Derived.Test.YtihdiaklhkecmabCount
import Derived.Below
import Derived.OneCell
import Derived.Maps.AppendAt
import Derived.WalkSpells
namespace Go.Proofs.Ytihdiaklhkecmab
open Go.RowKit

theorem Try.info21 : (Try.prog.info? 21).map (fun i => (i.zero, i.size, i.bytes)) = some (some (.int .i32 0), 1, 4) := by kernel_rfl
theorem Try.info5 : (Try.prog.info? 5).map (fun i => (i.zero, i.size, i.bytes)) = some (some (.int .u8 0), 1, 1) := by kernel_rfl

/-- A character with ends of lines made alike. -/
def settledZ (c : Int) : Int := if c = 13 ∨ c = 12 then 10 else if c = 0 then 65533 else c

/-- The characters from place pos on, as they are. -/
def charsFrom (s : ByteArray) : Nat → Nat → List Int
  | 0, _ => []
  | f + 1, pos => if pos < s.size then ((Utf8.decode s pos).1 : Int) :: charsFrom s f (pos + (Utf8.decode s pos).2) else []
def chars (s : ByteArray) : List Int := charsFrom s s.size 0

/-- Ends of lines made alike, behind the character 'last'. -/
def normZ : Int → List Int → List Int
  | _, [] => []
  | last, c :: r => if last = 13 ∧ c = 10 then normZ c r else settledZ c :: normZ c r
def runesZ (s : ByteArray) : List Int := normZ 0 (chars s)

theorem charsFrom_end (s : ByteArray) (f pos : Nat) (h : ¬ pos < s.size) : charsFrom s f pos = [] := by
  cases f <;> simp [charsFrom, h]

/-- An owned row stays owned while a string's iterator moves on. -/
theorem ownsRow_iter {w : World} {B : Nat} {e : TypeId} {v : Value} {n : Nat} {xs : List Value} (h : w.ownsRow B e 1 v n xs) {k : Nat} {s : ByteArray} {pos : Nat} (hk : w.heap[k]? = some (.stringIter s pos)) (pos' : Nat) :
    (w.iterAt k s pos').ownsRow B e 1 v n xs := by
  refine ⟨h.1, ?_⟩
  rcases h.2 with hn | ⟨g, cap, cur, hv, hb, hg, rest⟩
  · exact .inl hn
  · have hkg : g ≠ k := by
      intro e1
      rw [e1, hk] at hg
      cases hg
    exact .inr ⟨g, cap, cur, hv, hb, (Lib.iterAt_other w k g s pos' hkg).trans hg, rest⟩

/-- A string's iterator stands where it stood behind an append to an owned row. -/
theorem iter_grown {w w' : World} {B : Nat} {e : TypeId} {v : Value} {n : Nat} {xs : List Value} (h : w.ownsRow B e 1 v n xs) {k : Nat} {s : ByteArray} {pos : Nat} (hk : w.heap[k]? = some (.stringIter s pos)) (hg : w.grownBy w' v.ownBlock) :
    w'.heap[k]? = some (.stringIter s pos) := by
  have hlt : k < w.heap.size := (Array.getElem?_eq_some_iff.1 hk).1
  rw [hg.block k hlt ?_]
  · exact hk
  · intro hkv
    rcases h.2 with ⟨rfl, _⟩ | ⟨g, cap, cur, rfl, _, hgg, _⟩
    · simp [Value.ownBlock] at hkv
    · simp [Value.ownBlock] at hkv
      subst hkv
      rw [hk] at hgg
      cases hgg

theorem conv_any {w : World} {v : Value} {s : ByteArray} (h : BytesAt w v s) : (convert 51 9 v).run Try.prog w = .ok (.string s) w := by
  obtain ⟨a, cap, rfl, _, hc⟩ := h
  by_cases h0 : 0 < s.size
  · obtain ⟨b, off, rfl, hc'⟩ := hc h0
    exact conv hc'
  · have e : s = ByteArray.empty := by
      cases s with
      | mk d =>
        have : d.size = 0 := by simp only [ByteArray.size] at h0; omega
        have : d = #[] := by simpa using this
        subst this
        rfl
    subst e
    exact conv_empty

theorem BytesAt.below {w w' : World} {v : Value} {s : ByteArray} (h : BytesAt w v s) (hb : Below w.heap.size w w') : BytesAt w' v s := by
  obtain ⟨a, cap, rfl, h1, hc⟩ := h
  refine ⟨a, cap, rfl, h1, fun h0 => ?_⟩
  obtain ⟨b, off, rfl, hc'⟩ := hc h0
  refine ⟨b, off, rfl, fun j hj => ?_⟩
  have := hc' j hj
  exact (hb.cell (World.block_lt_of_cell? w _ this)).trans this

end Go.Proofs.Ytihdiaklhkecmab
