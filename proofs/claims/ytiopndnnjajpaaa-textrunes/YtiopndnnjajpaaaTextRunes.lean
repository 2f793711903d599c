/- For every slice of bytes the law TextRunes returns true: the program's Runes answers as the document's answer does, and the examples are as it says. No condition. -/
import Derived.Test.YtiopndnnjajpaaaRefRunes
import Derived.Test.YtiopndnnjajpaaaArgs
import Derived.ProofKit
import Derived.OpenShut
import Derived.ShutString
import Derived.ChangeOld
import Derived.SizedLaws
namespace Go.Proofs.Ytiopndnnjajpaaa.textRunes
open Go.ChangeShapes Go.WideShapes Go.ChangeAt Go.RowKit
open Go.ChangeMaps (open_string shut_string)

theorem own : ownKnob Try.prog.godebug = none := by kernel_rfl
theorem laidOut : laidOutB Try.prog = true := by kernel_rfl

theorem news_arg {w : World} {a : Addr} {len cap : Nat} {z : List Int} (h : RowAt .u8 w (.slice (some a) len cap) z) (o : Obj) : ∀ (j : Nat) u, (z.map (Value.int .u8))[j]? = some u → (w.alloc o).cell? (a.add j) = some u := by
  intro j u hj
  have hj' : j < z.length := by
    have := (List.getElem?_eq_some_iff.1 hj).1
    simpa using this
  obtain ⟨a', cap', e, _, hc⟩ := h
  simp only [Value.slice.injEq] at e
  obtain ⟨rfl, rfl, rfl⟩ := e
  obtain ⟨b, off, e2, hcell⟩ := hc (by omega)
  cases e2
  have e3 : (⟨b, off, none⟩ : Addr).add j = ⟨b, off + j, none⟩ := by unfold Addr.add; split <;> simp_all
  have h1 := hcell j hj'
  rw [e3, World.cell?_alloc_lt _ _ _ (World.block_lt_of_cell? w _ h1), h1]
  simp [hj'] at hj
  rw [← hj]
  simp [List.getD, hj']

theorem bytes_oneCell (z : List Int) : ∀ u ∈ z.map (Value.int .u8), u.oneCell' = true := ints_oneCell .u8 z

theorem runes_le (s : ByteArray) : (runesZ s).length ≤ s.size := by
  have h1 := chars_le s
  have h2 : ∀ (l : List Int) (c : Int), (normZ c l).length ≤ l.length := by
    intro l
    induction l with
    | nil => intro c; simp [normZ]
    | cons x r ih =>
      intro c
      have := ih x
      unfold normZ
      split
      · simp only [List.length_cons]; omega
      · simp only [List.length_cons]; omega
  exact Nat.le_trans (h2 _ 0) h1

set_option maxHeartbeats 1000000 in
set_option maxRecDepth 1000000 in
theorem walk (w : World) (a : Option Addr) (len cap : Nat) (z : List Int) (hv : RowAt .u8 w (.slice a len cap) z) (hz : ∀ n ∈ z, (Lit.int .u8 n).wf = true) (hl : z.length ≤ maxLen) (hn : a = none → cap = 0) :
    Calls Try.prog 3 #[.slice a len cap] w fun e w' => e = .returned (.bool true) ∧ Below w.heap.size w w' := by
  obtain ⟨i0, hi, hz0, hz1, hz2⟩ := info_parts Try.info5
  have hbv := RowAt.bytes hv hz
  have hsz := strOf_size z
  have hrl := runes_le (strOfNums z)
  unfold maxLen at hl
  obtain rfl : len = z.length := by
    obtain ⟨a', cap', e, _⟩ := hv
    simp only [Value.slice.injEq] at e
    exact e.2.1
  by_cases h : 20000 < z.length
  · clear hsz hrl
    go_enter Try.func3, Try.ntmps3
    go_wp2_with (go_at_call 9; refine (lives_any _).mono ?_; rintro e w' ⟨rfl, hbl⟩)
    go_ret
    exact ⟨rfl, hbl⟩
  · have h2 : z.length ≤ 20000 := by omega
    clear h
    have hr2 : (runesZ (strOfNums z)).length ≤ 20000 := by omega
    have hs2 : (strOfNums z).size ≤ 20000 := by omega
    clear hsz hrl
    have hown0 : (w.alloc (.cells #[] 5)).ownsRow w.heap.size 5 1 (.slice (some ⟨w.heap.size, 0, none⟩) 0 0) 0 [] := World.ownsRow_made w #[] 0 (Nat.le_refl _) (by decide) rfl
    have hB0 : Below w.heap.size w (w.alloc (.cells #[] 5)) := (Below.refl _ w).alloc (Nat.le_refl _) _
    have REST : ∀ (u : Value) (w5 : World), Below w.heap.size w w5 → w5.ownsRow w.heap.size 5 1 u z.length (z.map (Value.int .u8)) → BytesAt w5 u (strOfNums z) := fun u w5 _ ho => RowAt.bytes (RowAt.own ho) hz
    cases a with
    | none =>
      have hz0' : z = [] := by
        obtain ⟨a', cap', e, _, hc⟩ := hv
        simp only [Value.slice.injEq] at e
        obtain ⟨rfl, _, _⟩ := e
        rcases Nat.eq_zero_or_pos z.length with h | h
        · simpa using h
        · obtain ⟨_, _, h', _⟩ := hc h
          cases h'
      have hcap0 := hn rfl
      subst hz0' hcap0
      have HB := REST _ _ hB0 hown0
      clear REST hv hz hn
      go_enter Try.func3, Try.ntmps3
      go_wp2_with (first
        | (at_builtin; go_must (refine wpList_append_own_none rfl _ _ 22 rfl w.heap.size 5 i0 1 Try.underlying22 hi _ _ _ rfl hown0 rfl ?_))
        | (go_at_call 11; fail))
      refine (runes_any _ _ _ (by omega) HB).mono ?_
      rintro e w6 ⟨u1, rfl, ho6, hb6⟩
      have B6 : Below w.heap.size w w6 := hB0.trans (hb6.mono hB0.size)
      clear hb6
      go_wp2_with (go_at_call 12; fail)
      refine (refRunes_any _ _ _ (by omega) (hbv.below B6)).mono ?_
      rintro e w7 ⟨u2, rfl, ho7, hb7⟩
      have r6 := (RowAt.own ho6).below hb7
      have r7 := RowAt.own ho7
      have B7 : Below w.heap.size w w7 := B6.trans (hb7.mono B6.size)
      clear ho6 ho7 hb7
      go_wp2_with (first
        | (go_at_call 10; refine (same_yes r6 r7 (by omega)).mono ?_; rintro e w8 ⟨rfl, hb8⟩)
        | (go_at_call 9; refine (lives_any _).mono ?_; rintro e w9 ⟨rfl, hb9⟩))
      go_ret
      exact ⟨rfl, (B7.trans (hb8.mono B7.size)).trans (hb9.mono (Nat.le_trans B7.size hb8.size))⟩
    | some a =>
      have hnews := news_arg hv (.cells #[] 5)
      clear hv
      go_enter Try.func3, Try.ntmps3
      go_wp2_with (first
        | (at_builtin; go_must (refine wpList_append_own _ rfl _ _ 22 rfl w.heap.size 5 i0 (.int .u8 0) 1 1 Try.underlying22 hi hz0 hz1 hz2 rfl (by decide) _ _ _ rfl hown0 a z.length cap (z.map (Value.int .u8)) rfl (by simp) hnews (bytes_oneCell z) (by unfold maxLen; omega) (by omega) (by simp) ?_); intro v' w5 hown5 hgrow5 _)
        | (go_at_call 11; fail))
      have B5 : Below w.heap.size w w5 := hB0.grown hgrow5 (by simp) (fun k hk => (hown0.lt k hk).1)
      have HB := REST v' w5 B5 (by simpa using hown5)
      clear hgrow5 hown5 REST hnews
      refine (runes_any _ _ _ (by omega) HB).mono ?_
      rintro e w6 ⟨u1, rfl, ho6, hb6⟩
      have B6 : Below w.heap.size w w6 := B5.trans (hb6.mono B5.size)
      clear hb6
      go_wp2_with (go_at_call 12; fail)
      refine (refRunes_any _ _ _ (by omega) (hbv.below B6)).mono ?_
      rintro e w7 ⟨u2, rfl, ho7, hb7⟩
      have r6 := (RowAt.own ho6).below hb7
      have r7 := RowAt.own ho7
      have B7 : Below w.heap.size w w7 := B6.trans (hb7.mono B6.size)
      clear ho6 ho7 hb7
      go_wp2_with (first
        | (go_at_call 10; refine (same_yes r6 r7 (by omega)).mono ?_; rintro e w8 ⟨rfl, hb8⟩)
        | (go_at_call 9; refine (lives_any _).mono ?_; rintro e w9 ⟨rfl, hb9⟩))
      go_ret
      exact ⟨rfl, (B7.trans (hb8.mono B7.size)).trans (hb9.mono (Nat.le_trans B7.size hb8.size))⟩

set_option maxRecDepth 100000 in
theorem lifted (os : Os) (started : os.Started) (H : Type) (enc : TypeId × Value → H) :
    ReturnsInHanded {} Try.checked os 3 .any (Rows.textRunesSpec.pre6 enc Try.prog Try.f3 Rows.textRunesRow.domain false) (Rows.textRunesSpec.post enc Try.prog Try.f3 false true false false) := by
  refine returnsInHanded_of_change (C := Try.checked) own started (by kernel_rfl) Try.func3
    (ChangeSpec.witness6 (enc := enc) (C := Try.checked) false ⟨#[], #[.slice none 0 0], []⟩ 8 (by kernel_rfl) (by kernel_rfl) (by kernel_rfl) (by kernel_rfl)) ?_
  intro W base args ds gs before hval0 hW hcnd _
  have hval : ∀ (j : Nat) t v, Try.f3.params[j]? = some t → args[j]? = some v → Value.okWide Try.prog W .any base t v := hval0
  have hW' := hW
  obtain ⟨p, q, hA0, hV, rfl, hfz, hnd⟩ := hW
  have hA : DataW.TrodAll enc Try.prog W 0 (fun _ => true) true Try.f3.params.toList args.toList ds p := hA0
  rw [Try.params3] at hA hval
  obtain ⟨v0, vs0, d0, ds0, p0, q0, hargs, rfl, rfl, h0, r0⟩ := trodAll_cons hA
  obtain ⟨rfl, rfl, rfl⟩ := trodAll_nil r0
  obtain rfl : args = #[v0] := by cases args; simp_all
  obtain ⟨rfl, rfl⟩ := trodVars_none hV
  obtain ⟨a0, len0, cap0, rfl⟩ := okWide_slice Try.underlying22 (hval 0 22 v0 rfl rfl)
  have k0 := h0
  have lt0 : ∀ x ∈ p0, x.block < W.heap.size := by obtain ⟨m, hm⟩ := k0; exact DataW.trod_lt m _ _ _ hm
  obtain ⟨z0, w0, b0, m0, n0⟩ : ∃ zs : List Int, RowAt .u8 W (.slice a0 len0 cap0) zs ∧ (∀ n ∈ zs, (Lit.int .u8 n).wf = true) ∧ zs.length ≤ maxLen ∧ (a0 = none → cap0 = 0) := by
    obtain ⟨fuel, hf⟩ := h0
    rcases open_ints Try.underlying22 Try.underlying5 (by kernel_rfl) hf with ⟨hcs, _⟩ | ⟨x, l, c, zs, hcs, _, hl, hm, hz, _, hcell, hwz⟩
    · simp [Value.cells] at hcs
      obtain ⟨rfl, rfl, rfl⟩ := hcs
      exact ⟨[], ⟨none, 0, rfl, Nat.le_refl _, fun h => absurd h (by simp)⟩, by simp, by simp, fun _ => rfl⟩
    · simp [Value.cells] at hcs
      obtain ⟨rfl, rfl, rfl⟩ := hcs
      exact ⟨_, RowAt.arg hl (by simpa using hz) hcell, fun n hn => hwz n (List.mem_of_mem_take hn), by simp; omega, fun h => by cases h⟩
  clear hA0 hval0
  refine (walk W a0 len0 cap0 z0 w0 b0 m0 n0).mono fun e W' ⟨he, bel⟩ => ?_
  subst he
  exact ⟨_, rfl, _, _, _, [], _, [], hW', trodAll_mk1 (shut_bool Try.underlying4 _), (trodAll_cons_mk (Below.trod laidOut (by kernel_rfl) (of_decide_eq_true (by kernel_rfl)) k0 bel lt0) trodAll_mk0), rfl, bel.frame _, fun h => by cases h⟩

theorem over : Rows.textRunesRow.holds Try.pinned (OpenSpec.ofChange Rows.textRunesSpec) :=
  OpenClaim.holds_of_wide 3 Try.f3 rfl rfl rfl rfl rfl rfl rfl ⟨rfl, rfl, rfl, rfl, rfl⟩ rfl rfl rfl rfl rfl (by kernel_rfl) Try.func3 (by kernel_rfl)
    (of_decide_eq_true (by kernel_rfl)) (by unfold Func.isWrapper; first | (rw [if_pos (by decide +kernel)]; kernel_rfl) | (rw [if_neg (by decide +kernel)]; exact ⟨rfl, rfl⟩))
    (fun os started H enc _ => lifted os started H enc)

end Go.Proofs.Ytiopndnnjajpaaa.textRunes
namespace Go.Proofs.Ytiopndnnjajpaaa
theorem textRunes_holds : Rows.TextRunesSaid := textRunes.over
#print axioms textRunes_holds
end Go.Proofs.Ytiopndnnjajpaaa
