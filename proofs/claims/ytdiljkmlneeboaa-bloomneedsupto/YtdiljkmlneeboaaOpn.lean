/- A filter and keys that came in. -/
import Derived.Test.YtdiljkmlneeboaaMth
import Derived.ProofKit
import Derived.OpenShut
import Derived.Laws.IdiomArrays
namespace Go.Proofs.Ytdiljkmlneeboaa
open Go.ChangeShapes Go.WideShapes Go.ChangeAt Go.RowKit
set_option maxRecDepth 100000

theorem c22 : Try.prog.cellsOf 22 = 1 := by kernel_rfl
theorem c23 : Try.prog.cellsOf 23 = 4 := by kernel_rfl
theorem list4 {α : Type} (l : List α) (h : (⟨l⟩ : Array α).size = 4) : ∃ a b c d, l = [a, b, c, d] := by
  match l, h with
  | [a, b, c, d], _ => exact ⟨a, b, c, d, rfl⟩
theorem nat_u64 {x : Int} (h : (Lit.int .u64 x).wf = true) : ∃ n : Nat, x = n ∧ n < 18446744073709551616 := by
  have hb := bounds_u64 h
  exact ⟨x.toNat, by omega, by omega⟩
theorem open_flt {H : Type} {enc : TypeId × Value → H} {W : World} {base : Nat} {v : Value} {d : DataW H} {ps : List MemPlace} (hval : Value.okWide Try.prog W .any base 23 v) (hd : DataW.Trod enc Try.prog W 0 (fun _ => true) true 23 v d ps) :
    ∃ f : Flt, v = f.v ∧ f.ok := by
  obtain ⟨cs, rfl, hsz, _⟩ : ∃ cs, v = .agg cs ∧ cs.size = Try.prog.cellsOf 23 ∧ Row.okWide Try.prog W .any base 23 cs := by
    simpa [Value.okWide, Try.underlying23] using hval
  rw [c23] at hsz
  obtain ⟨l⟩ := cs
  obtain ⟨c0, c1, c2, c3, rfl⟩ := list4 l hsz
  obtain ⟨fuel, hf⟩ := hd
  obtain ⟨y0, y1, y2, y3, m, hx, hy0, hy1, hy2, hy3⟩ := trod_array4 Try.underlying23 c22 hf
  obtain ⟨x0, e0, rfl, w0⟩ := DataW.trod_int Try.underlying22 hy0
  obtain ⟨x1, e1, rfl, w1⟩ := DataW.trod_int Try.underlying22 hy1
  obtain ⟨x2, e2, rfl, w2⟩ := DataW.trod_int Try.underlying22 hy2
  obtain ⟨x3, e3, rfl, w3⟩ := DataW.trod_int Try.underlying22 hy3
  simp at e0 e1 e2 e3
  subst e0 e1 e2 e3
  obtain ⟨n0, rfl, h0⟩ := nat_u64 w0
  obtain ⟨n1, rfl, h1⟩ := nat_u64 w1
  obtain ⟨n2, rfl, h2⟩ := nat_u64 w2
  obtain ⟨n3, rfl, h3⟩ := nat_u64 w3
  exact ⟨⟨n0, n1, n2, n3⟩, rfl, h0, h1, h2, h3⟩

/-- A slice of keys. -/
def KsAt (W : World) (v : Value) (ks : List Nat) : Prop := ∃ a c, v = .slice a ks.length c ∧ ks.length ≤ c ∧ c ≤ maxLen ∧ ∀ t (h : t < ks.length), ∃ b off, a = some ⟨b, off, none⟩ ∧ b < W.heap.size ∧ ks[t] < 4294967296 ∧ W.cell? ⟨b, off + t, none⟩ = some (.int .u32 (ks[t] : Nat))
theorem c25 : Try.prog.cellsOf 25 = 1 := by kernel_rfl
theorem open_keys {H : Type} {enc : TypeId × Value → H} {W : World} {fuel : Nat} {v : Value} {x : DataW H × List MemPlace}
    (hf : DataW.trod enc Try.prog W 0 (fun _ => true) true fuel 40 [v] = some x) : ∃ ks, KsAt W v ks := by
  rcases open_ints Try.underlying40 Try.underlying25 c25 hf with ⟨hcs, _⟩ | ⟨a, l, c, zs, hcs, _, hl, hm, hz, _, hcell, hwz⟩
  · obtain rfl : v = .slice none 0 0 := by simpa using hcs
    exact ⟨[], none, 0, rfl, Nat.le_refl _, Nat.zero_le _, fun t h => absurd h (Nat.not_lt_zero _)⟩
  · obtain rfl : v = .slice (some a) l c := by simpa using hcs
    have hz' : zs.length = c := by simpa using hz
    have hlen : ((zs.take l).map Int.toNat).length = l := by simp; omega
    refine ⟨(zs.take l).map Int.toNat, some a, c, by rw [hlen], by omega, hm, fun t ht => ?_⟩
    have htl : t < l := by omega
    have hc := hcell t (by omega)
    have hc0 := hcell 0 (by omega)
    obtain ⟨b, off, spot⟩ := a
    have hspot : spot = none := by simpa [Addr.add] using World.cell?_spot hc0
    subst hspot
    have e : (⟨b, off, none⟩ : Addr).add t = ⟨b, off + t, none⟩ := by unfold Addr.add; split <;> simp_all
    rw [e] at hc
    have hzt : t < zs.length := by omega
    have hg : zs.getD t 0 = zs[t] := by simp [List.getD, hzt]
    have hwf := bounds_u32 (hwz _ (List.getElem_mem hzt))
    have hkt : ((zs.take l).map Int.toNat)[t] = zs[t].toNat := by simp
    rw [hkt]
    refine ⟨b, off, rfl, ?_, by omega, ?_⟩
    · refine Classical.byContradiction fun hn => ?_
      have : W.heap[b]? = none := Array.getElem?_eq_none (by omega)
      simp [World.cell?, this] at hc
    · rw [hc, hg]
      congr 2
      omega
end Go.Proofs.Ytdiljkmlneeboaa
