/- Waiting, in full: a sorted copy. -/
import Derived.Test.YtlnpiadjnjdfiaaEWb
import Derived.Test.YtlnpiadjnjdfiaaERd
import Derived.Shelf.SlSortCmp.WholeK
namespace Go.Proofs.Ytlnpiadjnjdfiaa.E
open Go.Shelf Go.RowKit
open Go.MuLone
set_option maxRecDepth 100000

theorem one2 : ∀ x : It, ∀ v ∈ c2 x, v.oneCell' = true := by
  intro x v hv
  simp only [c2, List.mem_cons, List.not_mem_nil, or_false] at hv
  rcases hv with rfl | rfl <;> rfl
theorem sort_any {w : World} {g c : Nat} (d : Array It) (hH : Sort.HoldsK c2 2 w g 0 d) (hg : g < w.heap.size) (hsz : d.size ≤ 1000000) : Calls Try.prog 53 #[.slice (some ⟨g, 0, none⟩) d.size c, .func (.func 54) #[] #[]] w fun e w' => (∃ v, e = .returned v) ∧ ∃ d' n os, Sort.PermIn 0 d.size d d' ∧ Sort.SortedIn (ltOf ordZ) 0 d.size d' ∧ w' = sortWorldK c2 2 w g 0 n d' os := by
  have eg : ∀ args w, (callFunc 54 args).run Try.prog w = .ok (.enter 54 args) w := enters_of Try.func54 (by kernel_rfl) rfl
  have hcmp : CmpLays Try.prog 54 #[] c2 2 ordZ g 0 d.size w := fun m os dk _ x y => order_lays _ x y
  have hlim : Lib.bitLen d.size < 4611686018427387904 := Nat.lt_of_le_of_lt (Lib.bitLen_le d.size 62 (by omega) (by omega)) (by omega)
  have hp := AnyQ.pdqsortCmpFunc_all pdqIt 2 Try.isAgg48 Try.sizeOf48 c2 ordZ 54 #[] swo_bt g 0 c d w eg hcmp ⟨fun _ => rfl, one2, hH, hg⟩ (d.size + 1) 0 d.size (Lib.bitLen d.size) d w (by omega) rfl (SWK.start hH) (Nat.zero_le _) (Nat.le_refl _) (by omega) hlim (Or.inl rfl)
  change Calls Try.prog 64 _ _ _ at hp
  have hl : Calls Try.prog 65 #[.int .u64 (d.size : Int)] w fun e w' => e = .returned (.int .i64 (Lib.bitLen d.size : Nat)) ∧ w' = w := by
    have h := Any.bits_Len bitsLen (d.size : Int) w (by omega) (by omega)
    rwa [Int.toNat_natCast] at h
  have wr : IntKind.u64.wrap (d.size : Int) = d.size := by simp [IntKind.wrap, IntKind.bits, IntKind.signed]; omega
  have hs := Sort.pdq_sorts (ltOf ordZ) swo_bt d 0 d.size (Lib.bitLen d.size) true true (Nat.zero_le _) (Nat.le_refl _) (Or.inl rfl)
  generalize Sort.pdq (ltOf ordZ) d 0 d.size (Lib.bitLen d.size) true true = d1 at hp hs
  generalize Lib.bitLen d.size = lim at *
  have HS := hid_mk hs
  clear hs hH hcmp eg
  go_enter Try.func53, Try.ntmps53
  go_wp2_with (first
    | (go_at_call 65; refine hl.mono ?_; rintro e w' ⟨rfl, hw⟩; rw [hw]; clear hw w')
    | (go_at_call 64; refine hp.mono ?_; rintro e w' ⟨rfl, n, os, hw⟩; rw [hw]; clear hw w'))
  go_end0
  exact ⟨⟨_, rfl⟩, d1, _, _, HS.out.1, HS.out.2, rfl⟩
theorem add_none' (b off j : Nat) : (⟨b, off, none⟩ : Addr).add j = ⟨b, off + j, none⟩ := by unfold Addr.add; split <;> simp_all
theorem holds_pl {w : World} {B g c : Nat} {M : List It} (h : w.ownsRow B 48 2 (.slice (some ⟨g, 0, none⟩) M.length c) M.length (M.flatMap c2)) : Sort.HoldsK c2 2 w g 0 M.toArray := by
  intro j hj
  have hj : j < M.length * 2 := by simpa using hj
  have hi : j / 2 < M.length := by omega
  have e1 := h.cells (g := g) rfl j ((c2 (M[j / 2]'hi))[j % 2]!)
  have e2 := flat2_at M (j / 2) hi (j % 2) (by omega)
  have e3 : j / 2 * 2 + j % 2 = j := by omega
  rw [e3] at e2
  have e4 : (c2 (M[j / 2]'hi))[j % 2]? = some ((c2 (M[j / 2]'hi))[j % 2]!) := by
    rcases (by omega : j % 2 = 0 ∨ j % 2 = 1) with hh | hh <;> rw [hh] <;> rfl
  refine ⟨?_, ?_⟩
  · have e5 := e1 (e2.trans e4)
    rw [show (⟨g, 0, none⟩ : Addr).add j = ⟨g, 0 + j, none⟩ from by rw [add_none']] at e5
    rw [e5, Sort.get_flatK _ _ _ _ (by simpa using hj)]
    simp [hi]
  · rcases h.2 with ⟨e, _⟩ | ⟨k, c', cur, e, h1, h2, h3, h4, _⟩
    · cases e
    · cases e
      simp [World.frozen?, h2]
/-- What lies in a slice of items. -/
def WAt (B : Nat) (w : World) (u : Value) (M : List It) : Prop := ∃ a c, u = .slice a M.length c ∧ (∀ g, a = some g → g.spot = none ∧ g.off = 0) ∧ (0 < M.length → ∃ g, a = some ⟨g, 0, none⟩ ∧ B ≤ g ∧ ∀ i (hi : i < M.length), w.cell? ⟨g, i * 2, none⟩ = some (.int .i64 M[i].1) ∧ w.cell? ⟨g, i * 2 + 1, none⟩ = some (.int .i64 M[i].2))
theorem below_sorted {w : World} {B g n : Nat} {d : Array It} {os : Array Obj} (hB : B ≤ g) (hBw : B ≤ w.heap.size) : Below B w (sortWorldK c2 2 w g 0 n d os) := by
  refine ⟨rfl, rfl, rfl, by simp [sortWorldK, Sort.putRowK, Sort.putRow, Sort.mapBlock, Sort.ahead], fun k hk => ?_⟩
  unfold sortWorldK
  rw [Sort.heap_grow_old _ _ (by simp [Sort.putRowK, Sort.putRow, Sort.mapBlock, Sort.ahead]; omega)]
  have : g ≠ k := by omega
  simp [Sort.putRowK, Sort.putRow, Sort.mapBlock, Sort.ahead, Array.getElem?_modify, this]
theorem srt_of {d : Array It} (h : Sort.SortedIn (ltOf ordZ) 0 d.size d) : Srt d.toList := by
  unfold Srt
  rw [List.pairwise_iff_getElem]
  intro i j hi hj hij
  have := h i j (Nat.zero_le _) hij (by simpa using hj)
  rw [ltOf_bt] at this
  have hi' : i < d.size := by simpa using hi
  have hj' : j < d.size := by simpa using hj
  rw [getElem!_pos d j hj', getElem!_pos d i hi'] at this
  simpa using this
theorem sorted_any {w : World} {B g c : Nat} {M : List It} (h : w.ownsRow B 48 2 (.slice (some ⟨g, 0, none⟩) M.length c) M.length (M.flatMap c2)) (hB : B ≤ w.heap.size) (hM : M.length ≤ 1000000) : Calls Try.prog 43 #[.slice (some ⟨g, 0, none⟩) M.length c] w fun e w' => ∃ u M', e = .returned u ∧ M'.Perm M ∧ Srt M' ∧ WAt B w' u M' ∧ Below B w w' := by
  have hg := h.lt g rfl
  have hH := holds_pl h
  have hs := sort_any (c := c) M.toArray hH hg.2 (by simpa using hM)
  rw [List.size_toArray] at hs
  have HH := hid_mk hH
  have HG := hid_mk hg
  clear h hH hg
  go_enter Try.func43, Try.ntmps43
  go_wp2_with (go_at_call 53; refine hs.mono ?_; rintro e w' ⟨⟨v, rfl⟩, d', n, os, h1, h2, hw⟩; rw [hw]; clear hw w')
  have hsz : d'.size = M.length := by simpa using h1.1
  have hd : d'.toList.length = M.length := by simpa using hsz
  have hp : d'.toList.Perm M := by
    have := h1.2.2
    simpa [Array.extract_eq_self_of_le, hsz] using this
  have hr : Srt d'.toList := srt_of (by rw [hsz]; exact h2)
  have hk := holdsK_sortWorldK c2 2 w g 0 n M.toArray d' os HG.out.2 HH.out (by simpa using hsz)
  have HW : Hid (WAt B (sortWorldK c2 2 w g 0 n d' os) (.slice (some ⟨g, 0, none⟩) M.length c) d'.toList) := by
    refine ⟨_, c, by rw [hd], fun x e => ?_, fun _ => ⟨g, rfl, HG.out.1, fun i hi => ?_⟩⟩
    · cases e
      exact ⟨rfl, rfl⟩
    · have hi' : i < d'.size := by simpa using hi
      have a0 := (hk.cell hi' (c := 0) (by omega)).1
      have a1 := (hk.cell hi' (c := 1) (by omega)).1
      rw [getElem!_pos d' i hi'] at a0 a1
      rw [Nat.zero_add] at a0 a1
      exact ⟨by simpa [c2] using a0, by simpa [c2] using a1⟩
  have HB : Hid (Below B w (sortWorldK c2 2 w g 0 n d' os)) := below_sorted HG.out.1 hB
  have HP : Hid (d'.toList.Perm M ∧ Srt d'.toList) := ⟨hp, hr⟩
  clear h1 h2 hsz hd hp hr hk
  generalize sortWorldK c2 2 w g 0 n d' os = w2 at *
  go_ret
  exact ⟨_, d'.toList, rfl, HP.out.1, HP.out.2, HW.out, HB.out⟩
end Go.Proofs.Ytlnpiadjnjdfiaa.E
