/- slices.Compact of keys, at any length. -/
import Derived.Test.YtdiljkmlneeboaaKee
import Derived.Shelf.SlicesE.Compact
import Derived.Ground.SlgnProg
namespace Go.Proofs
open Go.Shelf
shelf_lay_g SlLaysE.n43 Slgn 43 at Try 29 as Try.laysCompact
end Go.Proofs
namespace Go.Proofs.Ytdiljkmlneeboaa
open Go.RowKit Go.Lib Go.Sort
set_option maxRecDepth 100000

theorem compact_any (g off cap : Nat) (d : Array Int) (w : World) (hH : Holds (Value.int .u32) w g off d) (hsz : d.size ≤ 9223372036854775807) (hcap : d.size ≤ cap) :
    Calls Try.prog 29 #[.slice (some ⟨g, off, none⟩) d.size cap] w fun e w' => e = .returned (.slice (some ⟨g, off, none⟩) (compactUpTo d d.size).length cap) ∧ ∃ q, w' = putRow (Value.int .u32) (Sort.ahead w q) g off (compactUpTo d d.size ++ List.replicate (d.size - (compactUpTo d d.size).length) 0).toArray :=
  AnyE.slices_Compact Try.laysCompact (Value.int .u32) (fun _ => rfl) (.intD _ _ _) (.intD _ _ _) 0 (fun _ => by rfl) g off cap d w hH hsz hcap
/-- Of what is sorted it leaves each once. -/
theorem compact_rise (d : Array Int) (hs : ∀ i j, i ≤ j → j < d.size → d[i]! ≤ d[j]!) : ∀ m, m ≤ d.size → (compactUpTo d m).Pairwise (· < ·) ∧ ∀ y, y ∈ compactUpTo d m ↔ ∃ j, j < m ∧ d[j]! = y
  | 0, _ => by
    refine ⟨by simp [compactUpTo], fun y => ⟨fun h => by simp [compactUpTo] at h, fun ⟨j, hj, _⟩ => absurd hj (by omega)⟩⟩
  | m + 1, hm => by
    obtain ⟨h1, h2⟩ := compact_rise d hs m (by omega)
    rw [compactUpTo_succ]
    by_cases hk : keeps d m = true
    · rw [if_pos hk]
      have hlt : ∀ j, j < m → d[j]! < d[m]! := fun j hj => by
        have hk' := of_decide_eq_true hk
        rcases hk' with h0 | h0
        · omega
        · have a1 := hs j (m - 1) (by omega) (by omega)
          have a2 := hs (m - 1) m (by omega) (by omega)
          omega
      refine ⟨?_, fun y => ?_⟩
      · rw [List.pairwise_append]
        refine ⟨h1, by simp, fun a ha b hb => ?_⟩
        rw [List.mem_singleton.1 hb]
        obtain ⟨j, hj, rfl⟩ := (h2 a).1 ha
        exact hlt j hj
      · rw [List.mem_append, h2, List.mem_singleton]
        constructor
        · rintro (⟨j, hj, e⟩ | e)
          · exact ⟨j, by omega, e⟩
          · exact ⟨m, by omega, e.symm⟩
        · rintro ⟨j, hj, e⟩
          rcases Nat.lt_or_ge j m with h | h
          · exact .inl ⟨j, h, e⟩
          · rw [show j = m by omega] at e
            exact .inr e.symm
    · rw [if_neg hk, List.append_nil]
      refine ⟨h1, fun y => ?_⟩
      have hk' : ¬ (m = 0 ∨ d[m]! ≠ d[m - 1]!) := fun h => hk (decide_eq_true h)
      have h0 : m ≠ 0 := fun h => hk' (.inl h)
      have he : d[m]! = d[m - 1]! := Decidable.not_not.1 fun h => hk' (.inr h)
      rw [h2]
      constructor
      · rintro ⟨j, hj, e⟩
        exact ⟨j, by omega, e⟩
      · rintro ⟨j, hj, e⟩
        rcases Nat.lt_or_ge j m with h | h
        · exact ⟨j, h, e⟩
        · rw [show j = m by omega, he] at e
          exact ⟨m - 1, by omega, e⟩
/-- The same as the document's, put in one behind the other. -/
theorem compact_puts (d : Array Int) (hs : ∀ i j, i ≤ j → j < d.size → d[i]! ≤ d[j]!) (l : List Nat) (hm : ∀ y : Int, (∃ j, j < d.size ∧ d[j]! = y) ↔ ∃ k ∈ l, y = (k : Nat)) : compactUpTo d d.size = (putsL l).map fun k : Nat => (k : Int) := by
  obtain ⟨h1, h2⟩ := compact_rise d hs d.size (Nat.le_refl _)
  have hpos : ∀ y ∈ compactUpTo d d.size, 0 ≤ y := fun y hy => by
    obtain ⟨k, _, e⟩ := (hm y).1 ((h2 y).1 hy)
    omega
  have e : (compactUpTo d d.size).map Int.toNat = putsL l := by
    refine rise_ext ?_ (puts_rise l) fun y => ?_
    · rw [List.pairwise_map]
      exact h1.imp_of_mem fun {a b} ha hb hab => by have := hpos a ha; have := hpos b hb; omega
    · rw [puts_mem, List.mem_map]
      constructor
      · rintro ⟨z, hz, rfl⟩
        obtain ⟨k, hk, e⟩ := (hm z).1 ((h2 z).1 hz)
        rw [e]
        exact hk
      · intro hy
        exact ⟨(y : Int), (h2 _).2 ((hm _).2 ⟨y, hy, rfl⟩), by simp⟩
  rw [← e, List.map_map]
  conv => lhs; rw [← List.map_id (compactUpTo d d.size)]
  exact List.map_congr_left fun y hy => by have := hpos y hy; simp; omega
end Go.Proofs.Ytdiljkmlneeboaa
