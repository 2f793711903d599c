/- For every slice of bytes the law TextBack returns true: what Runes tells is told the same again behind Bytes, it has no U+000D, U+000C or U+0000 and not more characters than bytes, and the examples are as the document says. No condition. -/
import Derived.Test.YtiopndnnjajpaaaMath
import Derived.Test.YtiopndnnjajpaaaRefRunes
import Derived.ProofKit
import Derived.OpenShut
import Derived.ShutString
import Derived.ChangeOld
import Derived.SizedLaws
namespace Go.Proofs.Ytiopndnnjajpaaa.textBack
open Go.ChangeShapes Go.WideShapes Go.ChangeAt Go.RowKit
open Go.ChangeMaps (open_string shut_string)

theorem own : ownKnob Try.prog.godebug = none := by kernel_rfl
theorem laidOut : laidOutB Try.prog = true := by kernel_rfl

theorem runes_le (s : ByteArray) : (runesZ s).length ≤ s.size := by
  have h1 := chars_le s
  have h2 : ∀ (l : List Int) (c : Int), (normZ c l).length ≤ l.length := by
    intro l
    induction l with
    | nil => intro c; simp [normZ]
    | cons x r ih =>
      intro c
      have := ih x
      unfold normZ
      split
      · simp only [List.length_cons]; omega
      · simp only [List.length_cons]; omega
  exact Nat.le_trans (h2 _ 0) h1

theorem walkBig (w : World) (a : Option Addr) (len cap : Nat) (h : 20000 < len) (hl : len ≤ 9223372036854775807) :
    Calls Try.prog 7 #[.slice a len cap] w fun e w' => e = .returned (.bool true) ∧ Below w.heap.size w w' := by
  go_enter Try.func7, Try.ntmps7
  go_wp2_with (go_at_call 9; refine (lives_any _).mono ?_; rintro e w' ⟨rfl, hbl⟩)
  go_ret
  exact ⟨rfl, hbl⟩

theorem told_wf {xs : List Int} (h : ∀ c ∈ xs, Told c) : ∀ n ∈ xs, (Lit.int .i32 n).wf = true := by
  intro n hn
  have := (h n hn).1
  unfold IsChar at this
  simp [Lit.wf, IntKind.min, IntKind.max, IntKind.signed, IntKind.bits]
  omega

set_option maxHeartbeats 2000000 in
set_option maxRecDepth 1000000 in
theorem walkSmall (w : World) (a : Option Addr) (len cap : Nat) (s : ByteArray) (hv : BytesAt w (.slice a len cap) s) (hl : len = s.size) (h2 : len ≤ 20000) :
    Calls Try.prog 7 #[.slice a len cap] w fun e w' => e = .returned (.bool true) ∧ Below w.heap.size w w' := by
  have hle := runes_le s
  have ht := runes_told s
  have hsz : s.size ≤ 20000 := by omega
  have hll : (runesZ s).length ≤ len := by omega
  clear hl hle
  obtain ⟨xs, hxs⟩ : ∃ xs, runesZ s = xs := ⟨_, rfl⟩
  rw [hxs] at ht hll
  have HW := told_wf ht
  have HA := runes_again ht
  have hbl4 := bytesZ_len xs
  go_enter Try.func7, Try.ntmps7
  go_wp2_with (go_at_call 11; fail)
  refine (runes_any _ s _ (by omega) hv).mono ?_
  rintro e w1 ⟨u, rfl, ho1, hb1⟩
  rw [hxs] at ho1
  have r1 := RowAt.own ho1
  have HX : Hid (∀ c ∈ xs, Told c) := ht
  clear ho1 hxs hv ht
  have r1' := r1
  obtain ⟨a1, cap1, rfl, hcap1, hc1⟩ := r1'
  go_wp2_with (go_at_call 13; fail)
  refine (bytes_any _ xs _ (by omega) r1 HW).mono ?_
  rintro e w2 ⟨u2, rfl, ho2, hb2⟩
  have q2 := RowAt.bytes (RowAt.own ho2) (bytesZ_wf xs)
  clear ho2
  go_wp2_with (go_at_call 11; fail)
  refine (runes_any _ _ _ (by rw [strOf_size]; omega) q2).mono ?_
  rintro e w3 ⟨u3, rfl, ho3, hb3⟩
  rw [HA] at ho3
  have r3 := RowAt.own ho3
  have B3 : Below w1.heap.size w1 w3 := hb2.trans (hb3.mono hb2.size)
  clear ho3 q2 HA HW hbl4
  go_wp2_with (go_at_call 10; refine (same_yes r3 (r1.below B3) (by omega)).mono ?_; rintro e w4 ⟨rfl, hb4⟩)
  have B4 : Below w1.heap.size w1 w4 := B3.trans (hb4.mono B3.size)
  have A4 : Below w.heap.size w w4 := hb1.trans (B4.mono hb1.size)
  clear r3 hb2 hb3 hb4 hb1 B3 r1
  go_loop [27] (fun i => ∃ k : Nat, k ≤ xs.length ∧ i = .int .i64 k) (fun i => xs.length - (intOf i).toNat)
  case atStart => exact ⟨0, Nat.zero_le _, rfl⟩
  case round =>
    obtain ⟨k, hk, rfl⟩ := hrel
    by_cases hlt : k < xs.length
    · obtain ⟨b, off, rfl, hcell⟩ := hc1 (by omega)
      obtain ⟨c, hck⟩ : ∃ c, xs.getD k 0 = c := ⟨_, rfl⟩
      have c0 : w4.cell? ⟨b, off + k, none⟩ = some (.int .i32 c) := by
        have := hcell k hlt
        rw [hck] at this
        exact (B4.cell (World.block_lt_of_cell? w1 _ this)).trans this
      have hT : Told c := HX.out c (by rw [← hck]; simp [List.getD, hlt])
      obtain ⟨⟨g1, g2, _⟩, g3, g4, g5⟩ := hT
      have e13 : (c == 13) = false := beq_eq_false_iff_ne.2 g3
      have e12 : (c == 12) = false := beq_eq_false_iff_ne.2 g4
      have e0 : (c == 0) = false := beq_eq_false_iff_ne.2 g5
      clear hck hcell hc1 g3 g4 g5
      go_wp2
      refine ⟨⟨_, _, _, ⟨k + 1, by omega, ?_⟩, rfl, rfl, rfl⟩, ?_⟩
      · go_num
      · simp [intOf]; omega
    · clear hc1
      go_wp2_with (go_at_call 9; refine (lives_any _).mono ?_; rintro e w5 ⟨rfl, hb5⟩)
      go_ret
      exact ⟨rfl, A4.trans (hb5.mono A4.size)⟩

theorem walk (w : World) (a : Option Addr) (len cap : Nat) (z : List Int) (hv : RowAt .u8 w (.slice a len cap) z) (hz : ∀ n ∈ z, (Lit.int .u8 n).wf = true) (hl : z.length ≤ maxLen) (_hn : a = none → cap = 0) :
    Calls Try.prog 7 #[.slice a len cap] w fun e w' => e = .returned (.bool true) ∧ Below w.heap.size w w' := by
  unfold maxLen at hl
  have hbv := RowAt.bytes hv hz
  have hlz : len = z.length := by
    obtain ⟨a', cap', e, _⟩ := hv
    simp only [Value.slice.injEq] at e
    exact e.2.1
  by_cases h : 20000 < len
  · exact walkBig w a len cap h (by omega)
  · exact walkSmall w a len cap _ hbv (by rw [strOf_size]; exact hlz) (by omega)

set_option maxRecDepth 100000 in
theorem lifted (os : Os) (started : os.Started) (H : Type) (enc : TypeId × Value → H) :
    ReturnsInHanded {} Try.checked os 7 .any (Rows.textBackSpec.pre6 enc Try.prog Try.f7 Rows.textBackRow.domain false) (Rows.textBackSpec.post enc Try.prog Try.f7 false true false false) := by
  refine returnsInHanded_of_change (C := Try.checked) own started (by kernel_rfl) Try.func7
    (ChangeSpec.witness6 (enc := enc) (C := Try.checked) false ⟨#[], #[.slice none 0 0], []⟩ 8 (by kernel_rfl) (by kernel_rfl) (by kernel_rfl) (by kernel_rfl)) ?_
  intro W base args ds gs before hval0 hW hcnd _
  have hval : ∀ (j : Nat) t v, Try.f7.params[j]? = some t → args[j]? = some v → Value.okWide Try.prog W .any base t v := hval0
  have hW' := hW
  obtain ⟨p, q, hA0, hV, rfl, hfz, hnd⟩ := hW
  have hA : DataW.TrodAll enc Try.prog W 0 (fun _ => true) true Try.f7.params.toList args.toList ds p := hA0
  rw [Try.params7] at hA hval
  obtain ⟨v0, vs0, d0, ds0, p0, q0, hargs, rfl, rfl, h0, r0⟩ := trodAll_cons hA
  obtain ⟨rfl, rfl, rfl⟩ := trodAll_nil r0
  obtain rfl : args = #[v0] := by cases args; simp_all
  obtain ⟨rfl, rfl⟩ := trodVars_none hV
  obtain ⟨a0, len0, cap0, rfl⟩ := okWide_slice Try.underlying22 (hval 0 22 v0 rfl rfl)
  have k0 := h0
  have lt0 : ∀ x ∈ p0, x.block < W.heap.size := by obtain ⟨m, hm⟩ := k0; exact DataW.trod_lt m _ _ _ hm
  obtain ⟨z0, w0, b0, m0, n0⟩ : ∃ zs : List Int, RowAt .u8 W (.slice a0 len0 cap0) zs ∧ (∀ n ∈ zs, (Lit.int .u8 n).wf = true) ∧ zs.length ≤ maxLen ∧ (a0 = none → cap0 = 0) := by
    obtain ⟨fuel, hf⟩ := h0
    rcases open_ints Try.underlying22 Try.underlying5 (by kernel_rfl) hf with ⟨hcs, _⟩ | ⟨x, l, c, zs, hcs, _, hl, hm, hz, _, hcell, hwz⟩
    · simp [Value.cells] at hcs
      obtain ⟨rfl, rfl, rfl⟩ := hcs
      exact ⟨[], ⟨none, 0, rfl, Nat.le_refl _, fun h => absurd h (by simp)⟩, by simp, by simp, fun _ => rfl⟩
    · simp [Value.cells] at hcs
      obtain ⟨rfl, rfl, rfl⟩ := hcs
      exact ⟨_, RowAt.arg hl (by simpa using hz) hcell, fun n hn => hwz n (List.mem_of_mem_take hn), by simp; omega, fun h => by cases h⟩
  clear hA0 hval0
  refine (walk W a0 len0 cap0 z0 w0 b0 m0 n0).mono fun e W' ⟨he, bel⟩ => ?_
  subst he
  exact ⟨_, rfl, _, _, _, [], _, [], hW', trodAll_mk1 (shut_bool Try.underlying4 _), (trodAll_cons_mk (Below.trod laidOut (by kernel_rfl) (of_decide_eq_true (by kernel_rfl)) k0 bel lt0) trodAll_mk0), rfl, bel.frame _, fun h => by cases h⟩

theorem over : Rows.textBackRow.holds Try.pinned (OpenSpec.ofChange Rows.textBackSpec) :=
  OpenClaim.holds_of_wide 7 Try.f7 rfl rfl rfl rfl rfl rfl rfl ⟨rfl, rfl, rfl, rfl, rfl⟩ rfl rfl rfl rfl rfl (by kernel_rfl) Try.func7 (by kernel_rfl)
    (of_decide_eq_true (by kernel_rfl)) (by unfold Func.isWrapper; first | (rw [if_pos (by decide +kernel)]; kernel_rfl) | (rw [if_neg (by decide +kernel)]; exact ⟨rfl, rfl⟩))
    (fun os started H enc _ => lifted os started H enc)

end Go.Proofs.Ytiopndnnjajpaaa.textBack
namespace Go.Proofs.Ytiopndnnjajpaaa
theorem textBack_holds : Rows.TextBackSaid := textBack.over
#print axioms textBack_holds
end Go.Proofs.Ytiopndnnjajpaaa
