/- The document's Get, Drop, Put and Nodes of pairs. -/
import Derived.Test.YtnmpakjklbamiaaEnts
import Derived.Maps.AppendAt
import Derived.Deep.AppendLies
import Derived.OneCell
namespace Go.Proofs.Ytnmpakjklbamiaa
open Go.RowKit
set_option maxRecDepth 100000

/-- The slice holds the pairs. -/
def PsAt (W : World) (v : Value) (xs : List Pr) : Prop :=
  ∃ a cap, v = .slice a xs.length cap ∧ xs.length ≤ cap ∧ cap ≤ 9223372036854775807 ∧ (0 < xs.length → ∃ b off, a = some ⟨b, off, none⟩ ∧ b < W.heap.size ∧ ∀ i (h : i < xs.length), W.cell? ⟨b, off + i * 2, none⟩ = some (.int .i64 (xs[i]'h).1) ∧ W.cell? ⟨b, off + i * 2 + 1, none⟩ = some (.string (xs[i]'h).2))
theorem PsAt.keep {W W' : World} {v : Value} {xs : List Pr} (h : PsAt W v xs) (hb : Below W.heap.size W W') : PsAt W' v xs := by
  obtain ⟨a, cap, e, h1, h2, h3⟩ := h
  refine ⟨a, cap, e, h1, h2, fun h0 => ?_⟩
  obtain ⟨b, off, ea, hlt, hc⟩ := h3 h0
  exact ⟨b, off, ea, Nat.lt_of_lt_of_le hlt hb.size, fun i h => ⟨(hb.cell (p := ⟨b, off + i * 2, none⟩) hlt).trans (hc i h).1, (hb.cell (p := ⟨b, off + i * 2 + 1, none⟩) hlt).trans (hc i h).2⟩⟩
theorem PsAt.nil (W : World) : PsAt W (.slice none 0 0) [] := ⟨none, 0, rfl, Nat.le_refl _, by decide, fun h => absurd h (by simp)⟩
def prCells (p : Pr) : List Value := [.int .i64 p.1, .string p.2]
theorem prFlat_at : ∀ (ps : List Pr) (k i : Nat) (h : k < ps.length), i < 2 → (ps.flatMap prCells)[k * 2 + i]? = (prCells (ps[k]'h))[i]?
  | [], k, _, h, _ => by simp at h
  | t :: r, 0, i, _, hi => by
    simp only [List.flatMap_cons, Nat.zero_mul, Nat.zero_add]
    rw [List.getElem?_append_left (by simpa [prCells] using hi)]
    rfl
  | t :: r, k + 1, i, h, hi => by
    have e : (k + 1) * 2 + i = 2 + (k * 2 + i) := by omega
    rw [List.flatMap_cons, e, List.getElem?_append_right (by simp [prCells])]
    have e2 : 2 + (k * 2 + i) - (prCells t).length = k * 2 + i := by simp [prCells]
    rw [e2]
    exact prFlat_at r k i (by simpa using h) hi
theorem PsAt.own {W : World} {B : Nat} {v : Value} {xs : List Pr} (h : W.ownsRow B 71 2 v xs.length (xs.flatMap prCells)) : PsAt W v xs := by
  obtain ⟨hl, h⟩ := h
  rcases h with ⟨rfl, hn⟩ | ⟨g, cap, cur, rfl, _, hg, hnc, hcm, hsz, hx⟩
  · have hxs : xs = [] := List.length_eq_zero_iff.1 hn
    subst hxs
    exact PsAt.nil W
  · refine ⟨_, cap, rfl, hnc, hcm, fun _ => ⟨g, 0, rfl, (Array.getElem?_eq_some_iff.1 hg).1, fun i hi => ?_⟩⟩
    have key : ∀ j y, j < 2 → (prCells (xs[i]'hi))[j]? = some y → W.cell? ⟨g, i * 2 + j, none⟩ = some y := fun j y hj hy => by
      rw [← prFlat_at xs i j hi hj, ← hx] at hy
      rw [List.getElem?_take_of_lt (by omega)] at hy
      simp only [World.cell?, hg]
      simpa using hy
    exact ⟨by rw [Nat.zero_add]; exact key 0 _ (by omega) rfl, by rw [Nat.zero_add]; exact key 1 _ (by omega) rfl⟩
def lookZ : List Pr → Int → Option ByteArray
  | [], _ => none
  | p :: r, n => if p.1 = n then some p.2 else lookZ r n
def dropZ (l : List Pr) (n : Int) : List Pr := l.filter fun p => p.1 != n
def putGo (n : Int) (s : ByteArray) : List Pr → Bool → List Pr
  | [], done => if done then [] else [(n, s)]
  | p :: r, done => (if n ≤ p.1 ∧ done = false then [(n, s)] else []) ++ ((if p.1 ≠ n then [p] else []) ++ putGo n s r (done || decide (n ≤ p.1)))
theorem drop_getE {xs : List Pr} {i : Nat} (h : i < xs.length) : xs.drop i = xs[i] :: xs.drop (i + 1) := List.drop_eq_getElem_cons h

set_option maxHeartbeats 800000 in
theorem rget_any {W : World} {v : Value} {xs : List Pr} (hp : PsAt W v xs) (n : Int) : Calls Try.prog 16 #[v, .int .i64 n] W fun e w' => e = .returned (.tuple #[.string ((lookZ xs n).getD ⟨#[]⟩), .bool (lookZ xs n).isSome]) ∧ Below W.heap.size W w' := by
  obtain ⟨a, cap, rfl, hcap, hmax, hx⟩ := hp
  have HX := hid_mk hx
  clear hx
  go_enter Try.func16, Try.ntmps16
  go_wp2
  go_loopw [11] (fun a11 wr => ∃ i : Nat, i ≤ xs.length ∧ a11 = .int .i64 (i : Int) ∧ lookZ xs n = lookZ (xs.drop i) n ∧ Below W.heap.size W wr) (fun a11 _ => xs.length + 1 - (intOf a11).toNat)
  case atStart => exact ⟨0, Nat.zero_le _, rfl, rfl, Below.refl _ _⟩
  case round =>
    obtain ⟨i, hi, rfl, he, hB⟩ := hrel
    have HE := hid_mk he
    have HB := hid_mk hB
    clear he hB
    by_cases hlt : i < xs.length
    · obtain ⟨b, off, rfl, hblt, hc⟩ := HX.out (by omega)
      have c0 := (HB.out.cell (p := ⟨b, off + i * 2, none⟩) hblt).trans (hc i hlt).1
      have c1 := (HB.out.cell (p := ⟨b, off + i * 2 + 1, none⟩) hblt).trans (hc i hlt).2
      have HD : Hid (lookZ (xs.drop i) n = if xs[i].1 = n then some xs[i].2 else lookZ (xs.drop (i + 1)) n) := by
        show _ = _
        rw [drop_getE hlt, lookZ]
      have hal : ∀ o, Below wr.heap.size wr (wr.alloc o) := fun o => (Below.refl _ wr).alloc (Nat.le_refl _) o
      clear hc HX
      generalize xs[i].1 = m at *
      generalize xs[i].2 = s at *
      by_cases hmn : m = n
      · subst hmn
        have HR : Hid (lookZ xs m = some s) := by show _ = _; rw [HE.out, HD.out, if_pos rfl]
        go_wp2
        go_ret2
        exact ⟨by rw [HR.out]; rfl, HB.out.trans ((hal _).mono HB.out.size)⟩
      · have HR : Hid (lookZ xs n = lookZ (xs.drop (i + 1)) n) := by show _ = _; rw [HE.out, HD.out, if_neg hmn]
        have hne : (m == n) = false := by simpa using hmn
        go_wp2
        exact ⟨⟨i + 1, by omega, rfl, HR.out, HB.out.trans ((hal _).mono HB.out.size)⟩, by simp only [intOf]; omega⟩
    · have HR : Hid (lookZ xs n = none) := by show _ = _; rw [HE.out, List.drop_of_length_le (by omega)]; rfl
      obtain rfl : i = xs.length := by omega
      go_wp2
      go_ret2
      exact ⟨by rw [HR.out]; rfl, HB.out⟩

end Go.Proofs.Ytnmpakjklbamiaa
