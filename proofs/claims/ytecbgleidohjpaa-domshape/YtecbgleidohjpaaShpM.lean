/- DomShape: as many kids as elements but the root. -/
import Derived.Test.YtecbgleidohjpaaTacN
namespace Go.Proofs.Ytecbgleidohjpaa.N
open Go.RowKit
set_option maxRecDepth 100000

variable {m : M} {nx : Int} {d : Int → Nat}
/-- The kids of the elements below a number. -/
def kidsB (m : M) : Nat → List Int
  | 0 => []
  | n + 1 => kidsB m n ++ kidsOf m (n : Int)
theorem kidsB_mem {k : Int} : ∀ {n : Nat}, k ∈ kidsB m n ↔ ∃ j : Nat, j < n ∧ k ∈ kidsOf m (j : Int)
  | 0 => by simp [kidsB]
  | n + 1 => by
    rw [kidsB, List.mem_append, kidsB_mem]
    constructor
    · rintro (⟨j, hj, hk⟩ | hk)
      · exact ⟨j, by omega, hk⟩
      · exact ⟨n, by omega, hk⟩
    · rintro ⟨j, hj, hk⟩
      by_cases h : j = n
      · subst h; exact .inr hk
      · exact .inl ⟨j, by omega, hk⟩
theorem kidsB_nodup (I : Inv uOk m nx d) : ∀ n : Nat, (kidsB m n).Nodup
  | 0 => List.nodup_nil
  | n + 1 => by
    rw [kidsB]
    refine List.nodup_append.2 ⟨kidsB_nodup I n, ?_, fun a ha b hb hab => ?_⟩
    · cases e : m (n : Int) with
      | none => rw [kidsOf_none e]; exact List.nodup_nil
      | some x => rw [kidsOf_some e]; exact I.nd e
    · subst hab
      obtain ⟨j, hj, hk⟩ := kidsB_mem.1 ha
      obtain ⟨e, he, h1⟩ := mem_kidsOf hk
      obtain ⟨e', he', h2⟩ := mem_kidsOf hb
      obtain ⟨c, hc, hp⟩ := I.kid he h1
      obtain ⟨c', hc', hp'⟩ := I.kid he' h2
      rw [hc] at hc'
      cases hc'
      omega
theorem kidsB_cnt (I : Inv uOk m nx d) : Cnt m ((kidsB m nx.toNat).length + 1) := by
  have hnx := I.nxb
  refine ⟨1 :: kidsB m nx.toNat, List.nodup_cons.2 ⟨fun h => ?_, kidsB_nodup I _⟩, by simp, fun n => ?_⟩
  · obtain ⟨j, _, hk⟩ := kidsB_mem.1 h
    obtain ⟨e, he, h1⟩ := mem_kidsOf hk
    exact I.kidne he h1 rfl
  · rw [List.mem_cons]
    constructor
    · rintro (rfl | h)
      · obtain ⟨r, hr, _⟩ := I.root
        rw [hr]; simp
      · obtain ⟨j, _, hk⟩ := kidsB_mem.1 h
        obtain ⟨e, he, h1⟩ := mem_kidsOf hk
        obtain ⟨c, hc, _⟩ := I.kid he h1
        rw [hc]; simp
    · intro h
      cases e : m n with
      | none => exact absurd e h
      | some x =>
        by_cases h1 : n = 1
        · exact .inl h1
        · obtain ⟨p, hp, hk⟩ := I.par e h1
          have hl := I.lo hp
          refine .inr (kidsB_mem.2 ⟨x.par.toNat, by omega, ?_⟩)
          rw [show ((x.par.toNat : Nat) : Int) = x.par by omega, kidsOf_some hp]
          exact hk
theorem kidsB_len (I : Inv uOk m nx d) (n : Nat) : (kidsB m n).length ≤ 200000 := by
  have := len_range (kidsB_nodup I n) (a := 1) (b := nx) (fun x hx => by
    obtain ⟨j, _, hk⟩ := kidsB_mem.1 hx
    obtain ⟨e, he, h1⟩ := mem_kidsOf hk
    obtain ⟨c, hc, _⟩ := I.kid he h1
    exact I.lo hc)
  have := I.nxb
  omega
theorem attr_self {us : Us} (h : Srt us) {i : Nat} (hi : i < us.length) : valA us us[i].1 = some us[i].2 := by
  have hm : us[i] ∈ us := List.getElem_mem hi
  unfold valA
  cases hf : us.find? (fun p => decide (cmpB p.1 us[i].1 = 0)) with
  | none =>
    have := List.find?_eq_none.1 hf us[i] hm
    simp [cmpB_zero.2 rfl] at this
  | some q =>
    have hq := List.find?_some hf
    have hqm := List.mem_of_find?_eq_some hf
    have hz : q.1 = us[i].1 := cmpB_zero.1 (of_decide_eq_true hq)
    obtain ⟨j, hj, hjq⟩ := List.getElem_of_mem hqm
    have hpw := List.pairwise_iff_getElem.1 h
    have : j = i := by
      rcases Nat.lt_trichotomy j i with hl | hl | hl
      · have := hpw j i hj hi hl
        rw [hjq, hz, cmpB_zero.2 rfl] at this
        omega
      · exact hl
      · have := hpw i j hi hj hl
        rw [hjq, hz, cmpB_zero.2 rfl] at this
        omega
    subst this
    rw [← hjq]
    rfl

end Go.Proofs.Ytecbgleidohjpaa.N
