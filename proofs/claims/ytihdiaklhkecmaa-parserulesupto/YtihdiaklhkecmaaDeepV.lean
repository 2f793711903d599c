/- gouacheref03.Deep: whether values are nested deeper than some. -/
import Derived.Test.YtihdiaklhkecmaaFlatV
namespace Go.Proofs.Ytihdiaklhkecmaa
open Go.RowKit
set_option maxRecDepth 100000

theorem deepL_append (a b : List V) (m : Int) : deepL (a ++ b) m = (deepL a m || deepL b m) := by
  induction a with
  | nil => rfl
  | cons x r ih => rw [List.cons_append, deepL, deepL, ih, Bool.or_assoc]
theorem deepL_take (vs : List V) (k : Nat) (h : k < vs.length) (m : Int) : deepL (vs.take (k + 1)) m = (deepL (vs.take k) m || deepV (vs[k]'h) m) := by
  rw [List.take_succ_eq_append_getElem h, deepL_append]
  simp [deepL]
theorem deepL_yes (vs : List V) (k : Nat) (m : Int) (h : deepL (vs.take k) m = true) : deepL vs m = true := by
  have e : deepL vs m = (deepL (vs.take k) m || deepL (vs.drop k) m) := by rw [← deepL_append, List.take_append_drop]
  rw [e, h]
  rfl
set_option maxHeartbeats 400000 in
theorem deep_any {P : Nat → Prop} {W : World} {v : Value} {vs : List V} (h : VsAt P W v vs) : ∀ (w : World) (m : Int), Below W.heap.size W w → 0 ≤ m → m ≤ 1000 →
    Calls Try.prog 25 #[v, .int .i64 m] w fun e w' => e = .returned (.bool (deepL vs m)) ∧ Below w.heap.size w w' := by
  induction h with
  | mk a cap vs b off kv h1 h2 ha hc hr ih =>
    intro w m hw hm0 hm1
    have HA := hid_mk ha
    have HC := hid_mk hc
    have HR := hid_mk hr
    have HI := hid_mk ih
    have HW := hid_mk hw
    clear ha hc hr ih hw
    go_enter Try.func25, Try.ntmps25
    go_wp2
    go_loopw [9] (fun a9 wr => ∃ (k : Nat), a9 = .int .i64 k ∧ k ≤ vs.length ∧ deepL (vs.take k) m = false ∧ Below w.heap.size w wr) (fun a9 _ => vs.length + 1 - (intOf a9).toNat)
    case atStart => exact ⟨0, rfl, Nat.zero_le _, by simp [deepL], Below.refl _ _⟩
    case round =>
      obtain ⟨k, rfl, hk, hfa, hB⟩ := hrel
      by_cases hlt : k < vs.length
      · obtain ⟨rfl, hb, -⟩ := HA.out (by omega)
        have hWr : Below W.heap.size W wr := HW.out.trans (hB.mono HW.out.size)
        have hq := fun j y hy => (hWr.cell (p := ⟨b, off + k * 6 + j, none⟩) hb).trans (HC.out k hlt j y hy)
        have hbx : b < wr.heap.size := Nat.lt_of_lt_of_le hb hWr.size
        have HT : Hid (deepL (vs.take (k + 1)) m = (decide (0 < (vs[k]'hlt).kids.length) && (decide (m < 1) || deepL (vs[k]'hlt).kids (m - 1)))) := by
          show _ = _
          rw [deepL_take vs k hlt, hfa]
          cases vs[k]'hlt
          rfl
        have HY : Hid (deepL (vs.take (k + 1)) m = true → deepL vs m = true) := deepL_yes vs (k + 1) m
        have HI2 := hid_mk (HI.out k hlt)
        obtain ⟨x1, c1, e1, _, _⟩ := (HR.out k hlt).slice
        rw [e1] at hq HI2
        generalize (vs[k]'hlt).tok = t at *
        generalize (vs[k]'hlt).kids = ks at *
        obtain ⟨tk, tx, un, wh, fl⟩ := t
        have q0 : wr.cell? ⟨b, off + k * 6, none⟩ = some (.int .i64 tk) := hq 0 _ rfl
        have q1 : wr.cell? ⟨b, off + k * 6 + 1, none⟩ = some (.string tx) := hq 1 _ rfl
        have q2 : wr.cell? ⟨b, off + k * 6 + 2, none⟩ = some (.string un) := hq 2 _ rfl
        have q3 : wr.cell? ⟨b, off + k * 6 + 3, none⟩ = some (.bool wh) := hq 3 _ rfl
        have q4 : wr.cell? ⟨b, off + k * 6 + 4, none⟩ = some (.bool fl) := hq 4 _ rfl
        have q5 : wr.cell? ⟨b, off + k * 6 + 5, none⟩ = some (.slice x1 ks.length c1) := hq 5 _ rfl
        have hal : ∀ o, Below wr.heap.size wr (wr.alloc o) := fun o => (Below.refl _ wr).alloc (Nat.le_refl _) o
        have HBA : Hid (∀ o, Below w.heap.size w (wr.alloc o)) := fun o => hB.trans ((hal o).mono hB.size)
        have HWA : Hid (∀ o, Below W.heap.size W (wr.alloc o)) := fun o => hWr.trans ((hal o).mono hWr.size)
        clear hq e1 HA HC HR HI HW hWr hB hal hfa
        by_cases h0 : 0 < ks.length
        · have z0 : decide ((0 : Int) < (ks.length : Int)) = true := by simpa using h0
          by_cases hm : m < 1
          · have z1 : decide (m < 1) = true := by simpa using hm
            have HD : Hid (deepL vs m = true) := HY.out (by rw [HT.out]; simp [h0, hm])
            go_wp2
            go_ret
            exact ⟨by rw [HD.out]; rfl, HBA.out _⟩
          · have z1 : decide (m < 1) = false := by simpa using hm
            have hcl := fun o => HI2.out _ (m - 1) (HWA.out o) (by omega) (by omega)
            obtain ⟨dd, hdd⟩ : ∃ dd, dd = deepL ks (m - 1) := ⟨_, rfl⟩
            rw [← hdd] at hcl
            have HDD := hid_mk hdd
            clear hdd
            go_wp2_with (go_at_call 25; fail)
            refine (hcl _).mono ?_
            rintro e w2 ⟨rfl, hB2⟩
            have HB2 : Hid (Below w.heap.size w w2) := (HBA.out _).trans (hB2.mono (HBA.out _).size)
            clear hcl hB2 q0 q1 q2 q3 q4 q5
            cases dd
            · have HD : Hid (deepL (vs.take (k + 1)) m = false) := by
                show _ = _
                rw [HT.out, ← HDD.out]
                simp [hm]
              go_wp2
              go_roundw
              case rel => exact ⟨k + 1, by go_num, by omega, HD.out, HB2.out⟩
              case measure => simp [intOf]; omega
            · have HD : Hid (deepL vs m = true) := HY.out (by rw [HT.out, ← HDD.out]; simp [h0])
              go_wp2
              go_ret
              exact ⟨by rw [HD.out]; rfl, HB2.out⟩
        · have z0 : decide ((0 : Int) < (ks.length : Int)) = false := by simpa using h0
          have HD : Hid (deepL (vs.take (k + 1)) m = false) := by
            show _ = _
            rw [HT.out]
            simp [h0]
          go_wp2
          go_roundw
          case rel => exact ⟨k + 1, by go_num, by omega, HD.out, HBA.out _⟩
          case measure => simp [intOf]; omega
      · have e : vs.take k = vs := List.take_of_length_le (by omega)
        rw [e] at hfa
        have HD := hid_mk hfa
        have HB1 := hid_mk hB
        clear hfa hB
        go_wp2
        go_ret
        exact ⟨by rw [HD.out]; rfl, HB1.out⟩

end Go.Proofs.Ytihdiaklhkecmaa
