/- For every two slices of tokens the law ParseParts returns true: rules of two sheets, the first ending with a rule, are those of the one and of the other; declarations with a semicolon between likewise. No condition. -/
import Derived.Test.YtihdiaklhkecmaaReachT
import Derived.Test.YtihdiaklhkecmaaPParts
import Derived.ProofKit
import Derived.OpenShut
import Derived.ShutString
import Derived.ChangeOld
import Derived.SizedLaws
namespace Go.Proofs.Ytihdiaklhkecmaa.parseParts
open Go.ChangeShapes Go.WideShapes Go.ChangeAt Go.RowKit
open Go.ChangeMaps (open_string shut_string)

theorem own : ownKnob Try.prog.godebug = none := by kernel_rfl
theorem laidOut : laidOutB Try.prog = true := by kernel_rfl

theorem walk (W : World) {v u : Value} {ts us : List T5} (hv : TsAt W v ts) (hs : ∀ t ∈ ts, t.tx.size ≤ 140737488355328) (h1 : ts.length ≤ 3000000000000) (hu : TsAt W u us) (hs2 : ∀ t ∈ us, t.tx.size ≤ 140737488355328) (h2 : us.length ≤ 3000000000000) :
    Calls Try.prog 7 #[v, u] W fun e w' => e = .returned (.bool true) ∧ Below W.heap.size W w' := pparts_walk hv hs hu h1 h2 hs2

set_option maxRecDepth 100000 in
theorem lifted (os : Os) (started : os.Started) (H : Type) (enc : TypeId × Value → H) :
    ReturnsInHanded {} Try.checked os 7 .any (Rows.parsePartsSpec.pre6 enc Try.prog Try.f7 Rows.parsePartsRow.domain false) (Rows.parsePartsSpec.post enc Try.prog Try.f7 false true false false) := by
  refine returnsInHanded_of_change_sized (C := Try.checked) own started (by kernel_rfl) Try.func7
    (ChangeSpec.witness6 (enc := enc) (C := Try.checked) false ⟨#[], #[.slice none 0 0, .slice none 0 0], []⟩ 8 (by kernel_rfl) (by kernel_rfl) (by kernel_rfl) (by kernel_rfl)) ?_
  intro W base args ds gs before hval0 hW hcnd hsz0 _
  have hval : ∀ (j : Nat) t v, Try.f7.params[j]? = some t → args[j]? = some v → Value.okWide Try.prog W .any base t v := hval0
  have hsz : (DataW.weightsEach Try.prog (Try.f7.params.toList ++ Rows.parsePartsSpec.plain.varTypes Try.prog) (ds ++ gs)).all (· ≤ reachBytes) = true := hsz0
  have hW' := hW
  obtain ⟨p, q, hA0, hV, rfl, hfz, hnd⟩ := hW
  have hA : DataW.TrodAll enc Try.prog W 0 (fun _ => true) true Try.f7.params.toList args.toList ds p := hA0
  rw [Try.params7] at hA hval hsz
  obtain ⟨v0, vs0, d0, ds0, p0, q0, hargs, rfl, rfl, h0, r0⟩ := trodAll_cons hA
  obtain ⟨v1, vs1, d1, ds1, p1, q1, rfl, rfl, rfl, h1, r1⟩ := trodAll_cons r0
  obtain ⟨rfl, rfl, rfl⟩ := trodAll_nil r1
  obtain rfl : args = #[v0, v1] := by cases args; simp_all
  obtain ⟨rfl, rfl⟩ := trodVars_none hV
  obtain ⟨a0, len0, cap0, rfl⟩ := okWide_slice Try.underlying22 (hval 0 22 v0 rfl rfl)
  have k0 := h0
  have lt0 : ∀ x ∈ p0, x.block < W.heap.size := by obtain ⟨m, hm⟩ := k0; exact DataW.trod_lt m _ _ _ hm
  obtain ⟨z0, x0, y0, l0⟩ : ∃ xs, TsAt W (.slice a0 len0 cap0) xs ∧ (∀ t ∈ xs, t.tx.size ≤ 140737488355328) ∧ xs.length ≤ 3000000000000 := by
    obtain ⟨fuel, hf0⟩ := h0
    have hf : DataW.trod enc Try.prog W 0 (fun _ => true) true fuel 22 [Value.slice a0 len0 cap0] = some (d0, p0) := by simpa [Value.cells] using hf0
    have hr : Rch 22 d0 := rch_at hsz (j := 0) (t := 22) rfl rfl
    obtain ⟨xs, h1, h2⟩ := reach_toks hf hr
    exact ⟨xs, h1, h2, reach_len hf hr h1⟩
  obtain ⟨a1, len1, cap1, rfl⟩ := okWide_slice Try.underlying22 (hval 1 22 v1 rfl rfl)
  have k1 := h1
  have lt1 : ∀ x ∈ p1, x.block < W.heap.size := by obtain ⟨m, hm⟩ := k1; exact DataW.trod_lt m _ _ _ hm
  obtain ⟨z1, x1, y1, l1⟩ : ∃ xs, TsAt W (.slice a1 len1 cap1) xs ∧ (∀ t ∈ xs, t.tx.size ≤ 140737488355328) ∧ xs.length ≤ 3000000000000 := by
    obtain ⟨fuel, hf0⟩ := h1
    have hf : DataW.trod enc Try.prog W 0 (fun _ => true) true fuel 22 [Value.slice a1 len1 cap1] = some (d1, p1) := by simpa [Value.cells] using hf0
    have hr : Rch 22 d1 := rch_at hsz (j := 1) (t := 22) rfl rfl
    obtain ⟨xs, h1, h2⟩ := reach_toks hf hr
    exact ⟨xs, h1, h2, reach_len hf hr h1⟩
  clear hA0 hval0 hsz hsz0
  refine (walk W x0 y0 l0 x1 y1 l1).mono fun e W' ⟨he, bel⟩ => ?_
  subst he
  exact ⟨_, rfl, _, _, _, [], _, [], hW', trodAll_mk1 (shut_bool Try.underlying4 _), (trodAll_cons_mk (Below.trod laidOut (by kernel_rfl) (of_decide_eq_true (by kernel_rfl)) k0 bel lt0) (trodAll_cons_mk (Below.trod laidOut (by kernel_rfl) (of_decide_eq_true (by kernel_rfl)) k1 bel lt1) trodAll_mk0)), rfl, bel.frame _, fun h => by cases h⟩

theorem over : Rows.parsePartsRow.holds Try.pinned (OpenSpec.ofChange Rows.parsePartsSpec) :=
  OpenClaim.holds_of_wide 7 Try.f7 rfl rfl rfl rfl rfl rfl rfl ⟨rfl, rfl, rfl, rfl, rfl⟩ rfl rfl rfl rfl rfl (by kernel_rfl) Try.func7 (by kernel_rfl)
    (of_decide_eq_true (by kernel_rfl)) (by unfold Func.isWrapper; first | (rw [if_pos (by decide +kernel)]; kernel_rfl) | (rw [if_neg (by decide +kernel)]; exact ⟨rfl, rfl⟩))
    (fun os started H enc _ => lifted os started H enc)

end Go.Proofs.Ytihdiaklhkecmaa.parseParts
namespace Go.Proofs.Ytihdiaklhkecmaa
theorem parseParts_holds : Rows.ParsePartsSaid := parseParts.over
#print axioms parseParts_holds
end Go.Proofs.Ytihdiaklhkecmaa
