/- For every slice of characters (every int32) the law TextBytes returns true: the program's Bytes answers as the document's answer does, and the examples are as it says. No condition. -/
import Derived.Test.YtiopndnnjajpaaaBytes
import Derived.Test.YtiopndnnjajpaaaArgs
import Derived.RegionTactic
import Derived.Deep.RegionWith
import Derived.ProofKit
import Derived.OpenShut
import Derived.ShutString
import Derived.ChangeOld
import Derived.SizedLaws
namespace Go.Proofs.Ytiopndnnjajpaaa.textBytes
open Go.ChangeShapes Go.WideShapes Go.ChangeAt Go.RowKit
open Go.ChangeMaps (open_string shut_string)

theorem own : ownKnob Try.prog.godebug = none := by kernel_rfl
theorem laidOut : laidOutB Try.prog = true := by kernel_rfl

theorem walkBig (w : World) (a : Option Addr) (len cap : Nat) (h : 20000 < len) (hl : len ≤ 9223372036854775807) :
    Calls Try.prog 4 #[.slice a len cap] w fun e w' => e = .returned (.bool true) ∧ Below w.heap.size w w' := by
  go_enter Try.func4, Try.ntmps4
  go_wp2_with (go_at_call 9; refine (lives_any _).mono ?_; rintro e w' ⟨rfl, hbl⟩)
  go_ret
  exact ⟨rfl, hbl⟩

theorem conv_own {w : World} {B : Nat} {u : Value} {xs : List Int} (h : w.ownsRow B 5 1 u (bytesZ xs).length ((bytesZ xs).map (Value.int .u8))) : (convert 22 9 u).run Try.prog w = .ok (.string (strOfNums (bytesZ xs))) w := conv_any (RowAt.bytes (RowAt.own h) (bytesZ_wf xs))

theorem conv_later {w w' : World} {B : Nat} {u : Value} {xs : List Int} (h : w.ownsRow B 5 1 u (bytesZ xs).length ((bytesZ xs).map (Value.int .u8))) (hb : Below w.heap.size w w') : (convert 22 9 u).run Try.prog w' = .ok (.string (strOfNums (bytesZ xs))) w' := conv_any ((RowAt.bytes (RowAt.own h) (bytesZ_wf xs)).below hb)

set_option maxHeartbeats 2000000 in
set_option maxRecDepth 1000000 in
theorem walkSmall (w : World) (a : Option Addr) (cap : Nat) (z : List Int) (hv : RowAt .i32 w (.slice a z.length cap) z) (hz : ∀ n ∈ z, (Lit.int .i32 n).wf = true) (h2 : z.length ≤ 20000) :
    Calls Try.prog 4 #[.slice a z.length cap] w fun e w' => e = .returned (.bool true) ∧ Below w.heap.size w w' := by
  have hv0 : RowAt .i32 w.drew (.slice a z.length cap) z := hv
  have HZ : Hid (∀ n ∈ z, (Lit.int .i32 n).wf = true) := hz
  clear hz
  go_enter Try.func4, Try.ntmps4
  go_wp2
  go_region_with (first
    | (go_at_call 13; refine (bytes_any _ z _ (by omega) hv0 HZ.out).mono ?_; rintro e w1 ⟨u1, rfl, ho1, hb1⟩; have hc1 := conv_own ho1)
    | (go_at_call 14; refine (refBytes_any _ z _ (by omega) (hv0.below hb1) HZ.out).mono ?_; rintro e w2 ⟨u2, rfl, ho2, hb2⟩; have hc2 := conv_own ho2; have hc3 := conv_later ho1 hb2)
    | (go_at_call 9; refine (lives_any _).mono ?_; rintro e w3 ⟨rfl, hb3⟩))
  all_goals go_wp2
  all_goals go_ret
  all_goals
    have B1 : Below w.heap.size w w1 := (Below.refl _ w).drew.trans hb1
    have B2 : Below w.heap.size w w2 := B1.trans (hb2.mono B1.size)
    exact ⟨rfl, B2.trans (hb3.mono B2.size)⟩

theorem walk (w : World) (a : Option Addr) (len cap : Nat) (z : List Int) (hv : RowAt .i32 w (.slice a len cap) z) (hz : ∀ n ∈ z, (Lit.int .i32 n).wf = true) (hl : z.length ≤ maxLen) (_hn : a = none → cap = 0) :
    Calls Try.prog 4 #[.slice a len cap] w fun e w' => e = .returned (.bool true) ∧ Below w.heap.size w w' := by
  unfold maxLen at hl
  obtain rfl : len = z.length := by
    obtain ⟨a', cap', e, _⟩ := hv
    simp only [Value.slice.injEq] at e
    exact e.2.1
  by_cases h : 20000 < z.length
  · exact walkBig w a z.length cap h hl
  · exact walkSmall w a cap z hv hz (by omega)

set_option maxRecDepth 100000 in
theorem lifted (os : Os) (started : os.Started) (H : Type) (enc : TypeId × Value → H) :
    ReturnsInHanded {} Try.checked os 4 .any (Rows.textBytesSpec.pre6 enc Try.prog Try.f4 Rows.textBytesRow.domain false) (Rows.textBytesSpec.post enc Try.prog Try.f4 false true false false) := by
  refine returnsInHanded_of_change (C := Try.checked) own started (by kernel_rfl) Try.func4
    (ChangeSpec.witness6 (enc := enc) (C := Try.checked) false ⟨#[], #[.slice none 0 0], []⟩ 8 (by kernel_rfl) (by kernel_rfl) (by kernel_rfl) (by kernel_rfl)) ?_
  intro W base args ds gs before hval0 hW hcnd _
  have hval : ∀ (j : Nat) t v, Try.f4.params[j]? = some t → args[j]? = some v → Value.okWide Try.prog W .any base t v := hval0
  have hW' := hW
  obtain ⟨p, q, hA0, hV, rfl, hfz, hnd⟩ := hW
  have hA : DataW.TrodAll enc Try.prog W 0 (fun _ => true) true Try.f4.params.toList args.toList ds p := hA0
  rw [Try.params4] at hA hval
  obtain ⟨v0, vs0, d0, ds0, p0, q0, hargs, rfl, rfl, h0, r0⟩ := trodAll_cons hA
  obtain ⟨rfl, rfl, rfl⟩ := trodAll_nil r0
  obtain rfl : args = #[v0] := by cases args; simp_all
  obtain ⟨rfl, rfl⟩ := trodVars_none hV
  obtain ⟨a0, len0, cap0, rfl⟩ := okWide_slice Try.underlying25 (hval 0 25 v0 rfl rfl)
  have k0 := h0
  have lt0 : ∀ x ∈ p0, x.block < W.heap.size := by obtain ⟨m, hm⟩ := k0; exact DataW.trod_lt m _ _ _ hm
  obtain ⟨z0, w0, b0, m0, n0⟩ : ∃ zs : List Int, RowAt .i32 W (.slice a0 len0 cap0) zs ∧ (∀ n ∈ zs, (Lit.int .i32 n).wf = true) ∧ zs.length ≤ maxLen ∧ (a0 = none → cap0 = 0) := by
    obtain ⟨fuel, hf⟩ := h0
    rcases open_ints Try.underlying25 Try.underlying21 (by kernel_rfl) hf with ⟨hcs, _⟩ | ⟨x, l, c, zs, hcs, _, hl, hm, hz, _, hcell, hwz⟩
    · simp [Value.cells] at hcs
      obtain ⟨rfl, rfl, rfl⟩ := hcs
      exact ⟨[], ⟨none, 0, rfl, Nat.le_refl _, fun h => absurd h (by simp)⟩, by simp, by simp, fun _ => rfl⟩
    · simp [Value.cells] at hcs
      obtain ⟨rfl, rfl, rfl⟩ := hcs
      exact ⟨_, RowAt.arg hl (by simpa using hz) hcell, fun n hn => hwz n (List.mem_of_mem_take hn), by simp; omega, fun h => by cases h⟩
  clear hA0 hval0
  refine (walk W a0 len0 cap0 z0 w0 b0 m0 n0).mono fun e W' ⟨he, bel⟩ => ?_
  subst he
  exact ⟨_, rfl, _, _, _, [], _, [], hW', trodAll_mk1 (shut_bool Try.underlying4 _), (trodAll_cons_mk (Below.trod laidOut (by kernel_rfl) (of_decide_eq_true (by kernel_rfl)) k0 bel lt0) trodAll_mk0), rfl, bel.frame _, fun h => by cases h⟩

theorem over : Rows.textBytesRow.holds Try.pinned (OpenSpec.ofChange Rows.textBytesSpec) :=
  OpenClaim.holds_of_wide 4 Try.f4 rfl rfl rfl rfl rfl rfl rfl ⟨rfl, rfl, rfl, rfl, rfl⟩ rfl rfl rfl rfl rfl (by kernel_rfl) Try.func4 (by kernel_rfl)
    (of_decide_eq_true (by kernel_rfl)) (by unfold Func.isWrapper; first | (rw [if_pos (by decide +kernel)]; kernel_rfl) | (rw [if_neg (by decide +kernel)]; exact ⟨rfl, rfl⟩))
    (fun os started H enc _ => lifted os started H enc)

end Go.Proofs.Ytiopndnnjajpaaa.textBytes
namespace Go.Proofs.Ytiopndnnjajpaaa
theorem textBytes_holds : Rows.TextBytesSaid := textBytes.over
#print axioms textBytes_holds
end Go.Proofs.Ytiopndnnjajpaaa
