/- Ints; the document's example. -/
import Derived.Test.YtlnpiadjnjdfiaaERc
namespace Go.Proofs.Ytlnpiadjnjdfiaa.E
open Go.RowKit
set_option maxRecDepth 100000

def iv (x : Int) : Value := .int .i64 x
/-- Numbers in a slice. -/
def IsAt (w : World) (v : Value) (xs : List Int) : Prop := ∃ a c, v = .slice a xs.length c ∧ RowAt w 1 a xs.length c (xs.map iv)
theorem IsAt.keep {w w' : World} {v : Value} {xs : List Int} (h : IsAt w v xs) (hb : Below w.heap.size w w') : IsAt w' v xs := by
  obtain ⟨a, c, e, h⟩ := h
  exact ⟨a, c, e, h.keep hb⟩
theorem RowAt.num {w : World} {a : Option Addr} {n c : Nat} {xs : List Int} (h : RowAt w 1 a n c (xs.map iv)) {k : Nat} {x : Int} (hx : xs[k]? = some x) : ∃ b off, a = some ⟨b, off, none⟩ ∧ w.cell? ⟨b, off + k, none⟩ = some (.int .i64 x) := by
  obtain ⟨h1, h2, h3, h4, h5⟩ := h
  have hk := (List.getElem?_eq_some_iff.1 hx).1
  rcases h5 with ⟨rfl, hc⟩ | ⟨b, off, e, hl, hc⟩
  · rw [List.length_map] at h1; omega
  · exact ⟨b, off, e, hc k _ (by simp [hx, iv])⟩

set_option maxHeartbeats 2000000 in
theorem ints_any {w : World} {u v : Value} {xs ys : List Int} (hu : IsAt w u xs) (hv : IsAt w v ys) : Calls Try.prog 19 #[u, v] w fun e w' => e = .returned (.bool (decide (xs = ys))) ∧ Below w.heap.size w w' := by
  obtain ⟨a, c, rfl, hu⟩ := hu
  obtain ⟨a2, c2, rfl, hv⟩ := hv
  have hcu : xs.length ≤ c ∧ c ≤ maxLen := ⟨hu.2.1, hu.2.2.1⟩
  have hcv : ys.length ≤ c2 ∧ c2 ≤ maxLen := ⟨hv.2.1, hv.2.2.1⟩
  unfold maxLen at hcu hcv
  have HU := hid_mk hu
  have HV := hid_mk hv
  clear hu hv
  by_cases hl : xs.length = ys.length
  · have HL := hid_mk hl
    have hne : ((xs.length : Int) != (ys.length : Int)) = false := by rw [hl]; simp
    obtain ⟨n, hn⟩ : ∃ n, n = xs.length := ⟨_, rfl⟩
    have hn2 : ys.length = n := by omega
    rw [hn2, ← hn] at hne
    rw [hn2] at hcv ⊢
    rw [← hn] at hcu ⊢
    have HN := hid_mk hn
    have HN2 := hid_mk hn2
    clear hn hn2 hl
    go_enter Try.func19, Try.ntmps19
    go_wp2
    go_loopw [13] (fun p wr => ∃ k : Nat, k ≤ n ∧ p = .int .i64 (k : Int) ∧ Hid (xs.take k = ys.take k) ∧ Hid (Below w.heap.size w wr)) (fun p _ => n + 1 - (intOf p).toNat)
    case atStart => exact ⟨0, Nat.zero_le _, rfl, rfl, Below.refl _ _⟩
    case round =>
      obtain ⟨k, hk, rfl, HE, HB⟩ := hrel
      by_cases hkn : k < n
      · have hkx : k < xs.length := by have := HN.out; omega
        have hky : k < ys.length := by have := HN2.out; omega
        obtain ⟨x, hx⟩ : ∃ x, xs[k]? = some x := ⟨_, List.getElem?_eq_getElem hkx⟩
        obtain ⟨y, hy⟩ : ∃ y, ys[k]? = some y := ⟨_, List.getElem?_eq_getElem hky⟩
        obtain ⟨b, off, rfl, hc1⟩ := (HU.out.keep HB.out).num hx
        obtain ⟨b2, off2, rfl, hc2⟩ := (HV.out.keep HB.out).num hy
        have hd : (k : Int) < (n : Int) := by omega
        have HX := hid_mk hx
        have HY := hid_mk hy
        clear hx hy hkx hky
        have HBd : Hid (Below w.heap.size w wr.drew) := HB.out.drew
        by_cases hxy : x = y
        · subst hxy
          have hxx : (x != x) = false := by simp
          have HE2 : Hid (xs.take (k + 1) = ys.take (k + 1)) := by
            show _ = _
            rw [List.take_add_one, List.take_add_one, HE.out, HX.out, HY.out]
          go_upto_region 6 with (fail)
          go_region
          all_goals go_wp2
          all_goals exact ⟨⟨k + 1, by omega, by simp, HE2, HBd⟩, by simp [intOf]; omega⟩
        · have hxx : (x != y) = true := by simpa using hxy
          have HR : Hid (decide (xs = ys) = false) := decide_eq_false (fun e => by
            have h1 := HX.out
            rw [e, HY.out] at h1
            exact hxy (Option.some.inj h1).symm)
          go_upto_region 6 with (fail)
          go_region
          all_goals go_wp2
          all_goals go_ret
          all_goals exact ⟨by rw [HR.out]; rfl, HBd.out⟩
      · have hke : k = n := by omega
        have HR : Hid (decide (xs = ys) = true) := decide_eq_true (by
          have h1 := HE.out
          rw [List.take_of_length_le (by have := HN.out; omega), List.take_of_length_le (by have := HN2.out; omega)] at h1
          exact h1)
        subst hke
        go_wp2
        go_ret
        exact ⟨by rw [HR.out]; rfl, HB.out⟩
  · have hne : ((xs.length : Int) != (ys.length : Int)) = true := by simp; omega
    have HR : Hid (decide (xs = ys) = false) := decide_eq_false (fun e => hl (by rw [e]))
    go_enter Try.func19, Try.ntmps19
    go_wp2
    go_ret
    exact ⟨by rw [HR.out]; rfl, Below.refl _ _⟩

/-- Epochs in memory that was made since w0. -/
structure LvE (w0 w : World) (X : EX) (v : Value) (L : List It) : Prop where
  eo : EO w X v L
  below : Below w0.heap.size w0 w
  lo : w0.heap.size ≤ X.b
  own : ∀ k, v.ownBlock = some k → w0.heap.size ≤ k
theorem LvE.step {w0 w w' : World} {X X' : EX} {v v' : Value} {L L' : List It} (h : LvE w0 w X v L) (he : EO w' X' v' L') (hb : X'.b = X.b) (hk : Kv X.b v w v' w') : LvE w0 w' X' v' L' := by
  refine ⟨he, h.below.trans (hk.below h.below.size h.lo h.own), by rw [hb]; exact h.lo, fun k e => ?_⟩
  rcases hk.own k e with e | e
  · exact h.own k e
  · exact Nat.le_trans h.below.size e
theorem LvE.keep {w0 w w' : World} {X : EX} {v : Value} {L : List It} (h : LvE w0 w X v L) (hb : Below w.heap.size w w') : LvE w0 w' X v L := h.step (h.eo.keep hb) rfl (Kv.of_below hb)
theorem pin_first {w : World} {X : EX} {v : Value} {L : List It} (h : EO w X v L) {k : Nat} (hf : FreeAt X.n X.S k) : Calls Try.prog 13 #[.pointer (some ⟨X.b, 0, none⟩)] w fun e w' => e = .returned (.tuple #[.int .i64 (k : Int), .int .i64 0]) ∧ EO w' { X with S := X.S.set k X.now } v L ∧ Kv X.b v w v w' := by
  refine (pin_any h).mono ?_
  rintro e w' ⟨hk, ⟨j, hj, he, ho⟩ | ⟨hn, he, ho⟩⟩
  · obtain rfl : j = k := by
      rcases Nat.lt_trichotomy j k with h1 | h1 | h1
      · exact absurd rfl (hf.2.2 j 0 h1 hj.2.1)
      · exact h1
      · exact absurd rfl (hj.2.2 k 0 h1 hf.2.1)
    exact ⟨he, ho, hk⟩
  · exact absurd rfl (hn k 0 hf.1 hf.2.1)
theorem pin_full {w : World} {X : EX} {v : Value} {L : List It} (h : EO w X v L) (hf : NoFree X.n X.S) : Calls Try.prog 13 #[.pointer (some ⟨X.b, 0, none⟩)] w fun e w' => e = .returned (.tuple #[.int .i64 0, .int .i64 6]) ∧ EO w' X v L ∧ Kv X.b v w v w' := by
  refine (pin_any h).mono ?_
  rintro e w' ⟨hk, ⟨j, hj, he, ho⟩ | ⟨hn, he, ho⟩⟩
  · exact absurd rfl (hf j 0 hj.1 hj.2.1)
  · exact ⟨he, ho, hk⟩
end Go.Proofs.Ytlnpiadjnjdfiaa.E
