/- parse.Values and gouacheref03.Values of any tokens. -/
import Derived.Test.YtihdiaklhkecmabRulesV
namespace Go.Proofs.Ytihdiaklhkecmab
open Go.RowKit
set_option maxRecDepth 100000

/-- The values of tokens. -/
def valsZ (ts : List T5) : List V := (someZ ts.length ts 0 0).1
set_option maxHeartbeats 400000 in
theorem values_any {W : World} {v : Value} {ts : List T5} (hv : TsAt W v ts) (hn : ts.length ≤ 100000) :
    Calls Try.prog 20 #[v] W fun e w' => ∃ out, e = .returned out ∧ VsAt (fun b => W.heap.size ≤ b) w' out (valsZ ts) ∧ Below W.heap.size W w' := by
  have hr := read_any ts.length ts (Nat.le_refl _) W v hv W (Below.refl _ _) 0 0 (.func (.func 28) #[] #[]) (.inl ⟨rfl, rfl⟩) (by omega) (by omega) hn
  have HZ : Hid ((someZ ts.length ts 0 0).1 = valsZ ts) := (rfl : _ = _)
  generalize someZ ts.length ts 0 0 = Z at *
  obtain ⟨a, cap, rfl, hl, hcap, _⟩ := hv
  obtain ⟨zk, zr⟩ := Z
  go_enter Try.func20, Try.ntmps20
  go_wp2_with (go_at_call 27; fail)
  refine hr.mono ?_
  rintro e w1 ⟨out, rest, rfl, ho, ht, hb⟩
  have HO := hid_mk ho
  obtain ⟨oa, oc, rfl, _, _⟩ := ho.slice
  obtain ⟨ra, rc, rfl, _⟩ := ht
  clear ho hr
  go_wp2
  go_ret
  exact ⟨_, rfl, by rw [← HZ.out]; exact HO.out, hb⟩
end Go.Proofs.Ytihdiaklhkecmab
