/- What follows from the order. -/
import Derived.Test.YtmpppijgjbfolaaCSo
namespace Go.Proofs.Ytmpppijgjbfolaa.C
open Go.RowKit
set_option maxRecDepth 100000

theorem lessE_asym {x y : E8} (h : lessE x y = true) : lessE y x = false := by
  rw [false_iff (lessE_iff _ _)]
  rw [lessE_iff] at h
  omega
theorem lessE_tr {x y z : E8} (h : lessE x y = true) (k : lessE y z = true) : lessE x z = true := by
  rw [lessE_iff] at *
  omega
theorem Fall.next {L : List R9} {es : List E8} (h : Fall L es) {i : Nat} (h1 : i + 1 < es.reverse.length) : lessE (es.reverse[i + 1]'h1) (es.reverse[i]'(by omega)) = false := by
  obtain ⟨ys, rfl, _, hw⟩ := h
  simp only [List.length_reverse, List.length_map] at h1
  simp only [List.getElem_reverse, List.getElem_map, List.length_map]
  have hp := (List.pairwise_iff_getElem.1 hw) (ys.length - 1 - (i + 1)) (ys.length - 1 - i) (by omega) (by omega) (by omega)
  have := (false_iff (bt_iff _ _)).1 hp
  cases hh : lessE ys[ys.length - 1 - (i + 1)].1 ys[ys.length - 1 - i].1 with
  | false => rfl
  | true => exact absurd (.inl hh) this
theorem Fall.heap {ys : List R9} (hw : ys.Pairwise (fun x y => bt y x = false)) : HeapL bt ys.length ys := by
  intro c x y h0 hc hx hy
  have hpc : par c < c := by unfold par; omega
  have hp := (List.pairwise_iff_getElem.1 hw) (par c) c (by omega) hc hpc
  rw [List.getElem?_eq_getElem hc] at hx
  rw [List.getElem?_eq_getElem (by omega)] at hy
  cases hx
  cases hy
  exact hp
/-- The first of the chain is the winner. -/
theorem Fall.win {f es : List E8} (h : Fall (tagF f 0) es) : winF f none = es[0]? := by
  obtain ⟨ys, rfl, hp, hw⟩ := h
  by_cases h0 : 0 < ys.length
  · rw [win_of_top hp (Fall.heap hw) h0, List.getElem?_map, List.getElem?_eq_getElem h0]
    rfl
  · have hy : ys = [] := List.length_eq_zero_iff.1 (by omega)
    have hf : f = [] := by
      have := hp.length_eq
      rw [tagF_len, hy] at this
      exact List.length_eq_zero_iff.1 this.symm
    rw [hy, hf]
    rfl
/-- Two fallings of one row are the same. -/
theorem Fall.same {l : List E8} {es es' : List E8} (h : Fall (tagF l 0) es) (h' : Fall (tagF l 0) es') : es = es' := by
  obtain ⟨ys, rfl, hp, hw⟩ := h
  obtain ⟨zs, rfl, hq, hv⟩ := h'
  have : ys = zs := List.Perm.eq_of_pairwise (le := fun x y => bt y x = false) (fun a b ha hb h1 h2 => tagF_one l 0 a b (hp.mem_iff.1 ha) (hq.mem_iff.1 hb) (bt_same h2 h1)) hw hv (hp.trans hq.symm)
  rw [this]
theorem tagF_fst : ∀ (l : List E8) (i : Nat), (tagF l i).map (·.1) = l
  | [], _ => rfl
  | x :: r, i => by simp [tagF, tagF_fst r (i + 1)]
/-- In rising order: none is less than one ahead of it. -/
def Rise (s : List E8) : Prop := s.Pairwise fun x y => lessE y x = false
theorem tagF_rise : ∀ (s : List E8) (i : Nat), Rise s → (tagF s i).Pairwise fun x y => bt x y = false
  | [], _, _ => List.Pairwise.nil
  | x :: r, i, h => by
    obtain ⟨h1, h2⟩ := List.pairwise_cons.1 h
    refine List.Pairwise.cons (fun y hy => ?_) (tagF_rise r (i + 1) h2)
    have h3 := tagF_mem r (i + 1) y hy
    have h4 : y.1 ∈ r := by
      have : y.1 ∈ (tagF r (i + 1)).map (·.1) := List.mem_map.2 ⟨y, hy, rfl⟩
      rwa [tagF_fst] at this
    have h5 := h1 y.1 h4
    rw [false_iff (bt_iff _ _)]
    dsimp only
    rw [h5]
    rintro (h | ⟨_, _, h⟩)
    · cases h
    · omega
/-- What rises falls from its end. -/
theorem Rise.fall {s : List E8} (h : Rise s) : Fall (tagF s 0) s.reverse := by
  refine ⟨(tagF s 0).reverse, by rw [← List.map_reverse.symm, tagF_fst], List.reverse_perm _, ?_⟩
  rw [List.pairwise_reverse]
  exact tagF_rise s 0 h
theorem Fall.rise {L : List R9} {es : List E8} (h : Fall L es) : Rise es.reverse := by
  obtain ⟨ys, rfl, _, hw⟩ := h
  unfold Rise
  rw [List.pairwise_reverse, List.pairwise_map]
  refine hw.imp fun {x y} hxy => ?_
  have := (false_iff (bt_iff _ _)).1 hxy
  cases hh : lessE x.1 y.1 with
  | false => rfl
  | true => exact absurd (.inl hh) this
/-- Sorted twice is sorted once. -/
theorem sort_twice {L : List R9} {es es' : List E8} (h : Fall L es) (h' : Fall (tagF es.reverse 0) es') : es'.reverse = es.reverse := by
  have := Fall.same h' h.rise.fall
  rw [this, List.reverse_reverse]
end Go.Proofs.Ytmpppijgjbfolaa.C
