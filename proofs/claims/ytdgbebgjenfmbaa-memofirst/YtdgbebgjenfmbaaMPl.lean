/- The plain table: where a search ends. -/
import Derived.Test.YtdgbebgjenfmbaaMCa
import Derived.Test.YtdgbebgjenfmbaaMEa
namespace Go.Proofs.Ytdgbebgjenfmbaa.M
open Go.RowKit Go.Shelf
set_option maxRecDepth 100000

/-- Where a search ends. -/
inductive Slot where
  | full
  | free (j : Nat)
  | here (x : En)
def seek (L : List (Option En)) (e d : Int) (h : Nat) : Nat → Nat → Slot
  | 0, _ => .full
  | m + 1, k => match (L[(h + k) % L.length]?).join with
    | none => .free ((h + k) % L.length)
    | some x => if isE x e d then .here x else seek L e d h m (k + 1)
def find (L : List (Option En)) (e d : Int) : Slot := seek L e d (homeN L.length e d) L.length 0
/-- The first i cells hold others. -/
def Past (L : List (Option En)) (e d : Int) (h i : Nat) : Prop := ∀ k, k < i → ∃ x, L[(h + k) % L.length]? = some (some x) ∧ isE x e d = false
theorem seek_past {L : List (Option En)} {e d : Int} {h : Nat} : ∀ (i m k : Nat), (∀ q, k ≤ q → q < k + i → ∃ x, L[(h + q) % L.length]? = some (some x) ∧ isE x e d = false) → seek L e d h (m + i) k = seek L e d h m (k + i)
  | 0, m, k, _ => rfl
  | i + 1, m, k, hp => by
    obtain ⟨x, h1, h2⟩ := hp k (Nat.le_refl _) (by omega)
    have := seek_past i m (k + 1) fun q h3 h4 => hp q (by omega) (by omega)
    rw [show m + (i + 1) = (m + i) + 1 by omega, seek]
    rw [show k + (i + 1) = k + 1 + i by omega, ← this]
    simp [h1, h2]
theorem find_past {L : List (Option En)} {e d : Int} {i : Nat} (hi : i ≤ L.length) (hp : Past L e d (homeN L.length e d) i) : find L e d = seek L e d (homeN L.length e d) (L.length - i) i := by
  have := seek_past (L := L) (e := e) (d := d) (h := homeN L.length e d) i (L.length - i) 0 fun q _ h2 => hp q (by omega)
  rw [show L.length - i + i = L.length by omega, Nat.zero_add] at this
  exact this
theorem find_full {L : List (Option En)} {e d : Int} (hp : Past L e d (homeN L.length e d) L.length) : find L e d = .full := by
  rw [find_past (Nat.le_refl _) hp, Nat.sub_self]
  rfl
theorem find_free {L : List (Option En)} {e d : Int} {i : Nat} (hi : i < L.length) (hp : Past L e d (homeN L.length e d) i) (hj : L[(homeN L.length e d + i) % L.length]? = some none) : find L e d = .free ((homeN L.length e d + i) % L.length) := by
  rw [find_past (by omega) hp, show L.length - i = (L.length - i - 1) + 1 by omega, seek]
  simp [hj]
theorem find_here {L : List (Option En)} {e d : Int} {i : Nat} {x : En} (hi : i < L.length) (hp : Past L e d (homeN L.length e d) i) (hj : L[(homeN L.length e d + i) % L.length]? = some (some x)) (hx : isE x e d = true) : find L e d = .here x := by
  rw [find_past (by omega) hp, show L.length - i = (L.length - i - 1) + 1 by omega, seek]
  simp [hj, hx]
theorem Past.step {L : List (Option En)} {e d : Int} {h i : Nat} {x : En} (hp : Past L e d h i) (hj : L[(h + i) % L.length]? = some (some x)) (hx : isE x e d = false) : Past L e d h (i + 1) := fun k hk => by
  by_cases he : k = i
  · subst he
    exact ⟨x, hj, hx⟩
  · exact hp k (by omega)
theorem Past.zero (L : List (Option En)) (e d : Int) (h : Nat) : Past L e d h 0 := fun k hk => by omega
theorem home_le (n : Nat) (e d : Int) (hn : n ≤ 65536) : homeN n e d ≤ 65536 := by
  by_cases h0 : n = 0
  · subst h0
    exact Nat.zero_le _
  · have := home_lt (n := n) e d (by omega)
    omega
theorem StO.putO {B : Nat} {w : World} {v : Value} {l : List ByteArray} (h : StO B w v l) {q : Nat} {o : Obj} (ho : w.heap[q]? = some o) (hc : o.isCells = false) (o' : Obj) : StO B (w.putObj q o') v l := by
  refine ⟨h.1, ?_⟩
  rcases h.2 with ⟨hv, hn⟩ | ⟨g, cap, cur, hv, hB, hg, rest⟩
  · exact .inl ⟨hv, hn⟩
  · refine .inr ⟨g, cap, cur, hv, hB, (World.putObj_heap_other fun e => ?_).trans hg, rest⟩
    subst e
    rw [hg] at ho
    injection ho with ho
    rw [← ho] at hc
    cases hc
theorem cell_putO {w : World} {b q : Nat} {cs : Array Value} {t : TypeId} (h : w.heap[b]? = some (.cells cs t (0, 0))) {o : Obj} (ho : w.heap[q]? = some o) (hc : o.isCells = false) (o' : Obj) : (w.putObj q o').heap[b]? = some (.cells cs t (0, 0)) := by
  refine (World.putObj_heap_other fun e => ?_).trans h
  subst e
  rw [h] at ho
  injection ho with ho
  rw [← ho] at hc
  cases hc
theorem below_putO {n : Nat} {w A : World} (h : Below n w A) {q : Nat} (hq : n ≤ q) (o' : Obj) : Below n w (A.putObj q o') := h.trans ⟨rfl, rfl, rfl, by simp [World.putObj], fun j hj => World.putObj_heap_other (by omega)⟩
end Go.Proofs.Ytdgbebgjenfmbaa.M
