/- gouachelaw03.ParseBack: the walk. -/
import Derived.Test.YtihdiaklhkecmaaDeepV
import Derived.Test.YtihdiaklhkecmaaSameW
namespace Go.Proofs.Ytihdiaklhkecmaa
open Go.RowKit
set_option maxRecDepth 100000

set_option maxHeartbeats 400000 in
theorem pback_walk {W : World} {v : Value} {ts : List T5} (hv : TsAt W v ts) : Calls Try.prog 6 #[v] W fun e w' => e = .returned (.bool true) ∧ Below W.heap.size W w' := by
  have HV := hid_mk hv
  have HL : Hid (∀ w, Calls Try.prog 9 #[] w fun e w' => e = .returned (.bool true) ∧ Below w.heap.size w w') := lives_any
  obtain ⟨a, cap, rfl, hl, hcap, hx⟩ := hv
  clear hx
  by_cases h3 : 3000 < ts.length
  · go_enter Try.func6, Try.ntmps6
    go_wp2_with (go_at_call 9; fail)
    refine (HL.out _).mono ?_
    rintro e w' ⟨rfl, hb⟩
    go_wp2
    go_ret
    exact ⟨rfl, hb⟩
  · have hfl := flat_twice ts
    have H11 := hid_mk (values_any HV.out (by omega))
    have HVA : Hid (∀ w u, TsAt w u (flatL (valsZ ts)) → Calls Try.prog 11 #[u] w fun e w' => ∃ out, e = .returned out ∧ VsAt (fun b => w.heap.size ≤ b) w' out (valsZ ts) ∧ Below w.heap.size w w') := fun w u hu => by
      have h := values_any hu (by omega)
      rw [back_vals] at h
      exact h
    have HDE := hid_mk (vals_deep ts)
    have HFL := hid_mk hfl
    clear hfl
    generalize valsZ ts = vs at *
    go_enter Try.func6, Try.ntmps6
    go_wp2_with (go_at_call 11; fail)
    refine H11.out.mono ?_
    rintro e w1 ⟨o1, rfl, ho1, hb1⟩
    have HO1 := hid_mk ho1
    obtain ⟨a1, c1, rfl, _, _⟩ := ho1.slice
    have h17 := flat_any HO1.out (by have := HFL.out; omega)
    clear H11 ho1
    go_wp2_with (go_at_call 17; fail)
    refine h17.mono ?_
    rintro e w2 ⟨o2, rfl, ho2, hb2⟩
    have hB2 : Below W.heap.size W w2 := hb1.trans (hb2.mono hb1.size)
    have h11 := HVA.out w2 o2 ho2
    have HO2 := hid_mk (HO1.out.keep hb2)
    obtain ⟨a2, c2, rfl, -⟩ := ho2
    clear h17 HO1
    go_wp2_with (go_at_call 11; fail)
    refine h11.mono ?_
    rintro e w3 ⟨o3, rfl, ho3, hb3⟩
    have hB3 : Below W.heap.size W w3 := hB2.trans (hb3.mono hB2.size)
    have HO3 := hid_mk (HO2.out.keep hb3)
    have h24 := psame_any ho3 _ _ HO3.out w3 (Below.refl _ _) true (by simp)
    obtain ⟨a3, c3, rfl, _, _⟩ := ho3.slice
    clear h11 ho3 HO2
    go_wp2_with (go_at_call 24; fail)
    refine h24.mono ?_
    rintro e w4 ⟨rfl, hb4⟩
    have hB4 : Below W.heap.size W w4 := hB3.trans (hb4.mono hB3.size)
    have HO4 := hid_mk (HO3.out.keep hb4)
    have h25 := deep_any HO4.out w4 64 (Below.refl _ _) (by omega) (by omega)
    rw [HDE.out] at h25
    clear h24 HO3
    go_wp2_with (go_at_call 25; fail)
    refine h25.mono ?_
    rintro e w5 ⟨rfl, hb5⟩
    have hB5 : Below W.heap.size W w5 := hB4.trans (hb5.mono hB4.size)
    have h17 := flat_any (HO4.out.keep hb5) (by have := HFL.out; omega)
    clear h25 HO4
    go_wp2_with (go_at_call 17; fail)
    refine h17.mono ?_
    rintro e w6 ⟨o6, rfl, ho6, hb6⟩
    have hB6 : Below W.heap.size W w6 := hB5.trans (hb6.mono hB5.size)
    obtain ⟨a6, c6, rfl, -⟩ := ho6
    have hf2 := HFL.out
    have z : decide (((flatL vs).length : Int) ≤ 2 * (ts.length : Int)) = true := decide_eq_true (by omega)
    generalize (flatL vs).length = fl at *
    clear h17
    go_wp2_with (go_at_call 9; fail)
    refine (HL.out _).mono ?_
    rintro e w7 ⟨rfl, hb7⟩
    have HBF : Hid (Below W.heap.size W w7) := hB6.trans (hb7.mono hB6.size)
    clear hb7 hB6
    go_wp2
    go_ret
    exact ⟨rfl, HBF.out⟩

end Go.Proofs.Ytihdiaklhkecmaa
