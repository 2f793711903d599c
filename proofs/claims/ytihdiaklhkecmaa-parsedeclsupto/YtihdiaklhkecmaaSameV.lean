/- gouacheref03.Same of two slices that hold the same tree. -/
import Derived.Test.YtihdiaklhkecmaaTree
import Derived.BigQuiet
import Derived.Deep.QuietTactic
namespace Go.Proofs.Ytihdiaklhkecmaa
open Go.RowKit
set_option maxRecDepth 100000

theorem below_drewN5 (B : Nat) (w : World) (n : Nat) : Below B w (w.drewN n) := ⟨rfl, rfl, rfl, Nat.le_refl _, fun _ _ => rfl⟩
set_option maxHeartbeats 1000000 in
theorem rsame_yes {P Q : Nat → Prop} {W : World} {v : Value} {vs : List V} (h : VsAt P W v vs) : ∀ u, VsAt Q W u vs → ∀ w, Below W.heap.size W w → Calls Try.prog 10 #[v, u] w fun e w' => e = .returned (.bool true) ∧ ∃ m, w' = w.drewN m := by
  induction h with
  | mk a cap vs b off kv h1 h2 ha hc hr ih =>
    intro u hu w hw
    obtain ⟨a', cap', rfl, h1', h2'⟩ := hu.slice
    obtain ⟨_, _, _, hu'⟩ := hu.cells
    have HA := hid_mk ha
    have HC := hid_mk hc
    have HR := hid_mk hr
    have HI := hid_mk ih
    have HU := hid_mk hu'
    have HW := hid_mk hw
    clear hu ha hc hr ih hu' hw
    go_enter Try.func10, Try.ntmps10
    go_wp2
    go_loopw [13] (fun i wr => ∃ (k m : Nat), i = .int .i64 k ∧ wr = w.drewN m ∧ k ≤ vs.length) (fun i _ => vs.length + 1 - (intOf i).toNat)
    case atStart => exact ⟨0, 0, rfl, rfl, Nat.zero_le _⟩
    case round =>
      obtain ⟨k, m, rfl, rfl, hk⟩ := hrel
      by_cases hlt : k < vs.length
      · obtain ⟨rfl, hb, -⟩ := HA.out (by omega)
        obtain ⟨b', off', kv', rfl, hb', hc', hr'⟩ := HU.out k hlt
        have hw := HW.out
        have ac := fun j y hy => (hw.cell (p := ⟨b, off + k * 6 + j, none⟩) hb).trans (HC.out k hlt j y hy)
        have bc := fun j y hy => (hw.cell (p := ⟨b', off' + k * 6 + j, none⟩) hb').trans (hc' j y hy)
        have hcall : ∀ n1 n2, Calls Try.prog 10 #[kv k, kv'] (w.drewN (n1 + n2)) fun e w'' => e = .returned (.bool true) ∧ ∃ n, w'' = w.drewN (n1 + n) := by
          intro n1 n2
          refine (HI.out k hlt kv' hr' _ (hw.trans (below_drewN5 _ _ (n1 + n2)))).mono ?_
          rintro e w'' ⟨he, m', rfl⟩
          exact ⟨he, n2 + m', by rw [World.drewN_drewN, Nat.add_assoc]⟩
        obtain ⟨a1, c1, e1, _, _⟩ := (HR.out k hlt).slice
        obtain ⟨a2, c2, e2, _, _⟩ := hr'.slice
        rw [e1] at ac hcall
        rw [e2] at bc hcall
        generalize (vs[k]'hlt).tok = t at *
        generalize (vs[k]'hlt).kids.length = kn at *
        obtain ⟨tk, tx, un, wh, fl⟩ := t
        have a0 := ac 0 _ rfl
        have a1' := ac 1 _ rfl
        have a2' := ac 2 _ rfl
        have a3 := ac 3 _ rfl
        have a4 := ac 4 _ rfl
        have a5 := ac 5 _ rfl
        have b0 := bc 0 _ rfl
        have b1 := bc 1 _ rfl
        have b2 := bc 2 _ rfl
        have b3 := bc 3 _ rfl
        have b4 := bc 4 _ rfl
        have b5 := bc 5 _ rfl
        simp only [Nat.add_zero] at a0 b0
        clear ac bc hc' hr' hw HA HC HR HI HU HW e1 e2
        go_wp2
        go_quiet (first | (go_at_call 10; exact hcall _ _))
        go_wp2
        go_roundw
        case rel => exact ⟨k + 1, _, by go_num, rfl, by omega⟩
        case measure => simp [intOf]; omega
      · go_wp2
        go_ret
        exact ⟨rfl, m, rfl⟩

end Go.Proofs.Ytihdiaklhkecmaa
