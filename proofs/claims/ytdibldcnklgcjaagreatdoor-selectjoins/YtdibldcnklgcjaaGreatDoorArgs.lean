/- What a slice that came in holds, as bytes or as numbers. -/
import Derived.Test.YtdibldcnklgcjaaGreatDoorName
import Derived.Laws.AppendOwnNone
namespace Go.Proofs.YtdibldcnklgcjaaGreatDoor
open Go.RowKit
set_option maxRecDepth 100000

theorem RowAt.arg {k : IntKind} {w : World} {a : Addr} {len cap : Nat} {zs : List Int} (hl : len ≤ cap) (hz : zs.length = cap) (hcell : ∀ i, i < zs.length → w.cell? (a.add i) = some (.int k (zs.getD i 0))) :
    RowAt k w (.slice (some a) len cap) (zs.take len) := by
  have hlen : (zs.take len).length = len := by simp; omega
  refine ⟨some a, cap, by rw [hlen], by omega, fun h0 => ?_⟩
  rw [hlen] at h0 ⊢
  obtain ⟨b, off, spot⟩ := a
  have hc := hcell 0 (by omega)
  have hspot : spot = none := by simpa [Addr.add] using World.cell?_spot hc
  subst hspot
  refine ⟨b, off, rfl, fun j hj => ?_⟩
  have e : (⟨b, off, none⟩ : Addr).add j = ⟨b, off + j, none⟩ := by unfold Addr.add; split <;> simp_all
  have := hcell j (by omega)
  rw [e] at this
  rw [this]
  simp [List.getD, hj]

theorem strOf_size (xs : List Int) : (strOfNums xs).size = xs.length := by
  show (xs.map _).toArray.size = _
  simp

theorem strOf_get {xs : List Int} (hx : ∀ n ∈ xs, (Lit.int .u8 n).wf = true) (j : Nat) (hj : j < xs.length) : (((strOfNums xs).get! j).toNat : Int) = xs.getD j 0 := by
  have hb : 0 ≤ xs.getD j 0 ∧ xs.getD j 0 ≤ 255 := by
    have hm : xs.getD j 0 ∈ xs := by simp [List.getD, hj]
    simpa [Lit.wf, IntKind.min, IntKind.max, IntKind.signed, IntKind.bits] using hx _ hm
  have e : (strOfNums xs).get! j = UInt8.ofNat (xs.getD j 0).toNat := by
    show (xs.map fun n => UInt8.ofNat n.toNat).toArray[j]! = _
    rw [getElem!_pos _ j (by simpa using hj)]
    simp [List.getD, hj]
  rw [e]
  simp only [UInt8.toNat_ofNat']
  omega

theorem RowAt.bytes {w : World} {v : Value} {xs : List Int} (h : RowAt .u8 w v xs) (hx : ∀ n ∈ xs, (Lit.int .u8 n).wf = true) : BytesAt w v (strOfNums xs) := by
  obtain ⟨a, cap, rfl, hcap, hc⟩ := h
  refine ⟨a, cap, by rw [strOf_size], by rw [strOf_size]; exact hcap, fun h0 => ?_⟩
  rw [strOf_size] at h0
  obtain ⟨b, off, rfl, hcell⟩ := hc h0
  refine ⟨b, off, rfl, fun j hj => ?_⟩
  rw [strOf_size] at hj
  rw [hcell j hj, strOf_get hx j hj]

end Go.Proofs.YtdibldcnklgcjaaGreatDoor
