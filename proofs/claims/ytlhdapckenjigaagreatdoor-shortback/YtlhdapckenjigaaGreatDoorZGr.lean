/- gouachelaw15.great: values that are not too many have short texts. -/
import Derived.Test.YtlhdapckenjigaaGreatDoorYValuesV
namespace Go.Proofs.YtlhdapckenjigaaGreatDoor.Z
open Go.RowKit
open Go.Proofs.YtlhdapckenjigaaGreatDoor.L (T5 V VsAt t5Cells vCells cell_of_heap)
open Go.Proofs.YtlhdapckenjigaaGreatDoor.Y (hid_mk)
set_option maxRecDepth 100000

/-- What lies at a place of values. -/
theorem vs_cells {P : Nat → Prop} {W : World} {v : Value} {vs : List V} (h : VsAt P W v vs) : ∃ a cap, v = .slice a vs.length cap ∧ vs.length ≤ cap ∧ cap ≤ 9223372036854775807 ∧ ∃ b off, ∀ k (hk : k < vs.length), a = some ⟨b, off, none⟩ ∧ b < W.heap.size ∧ ∃ ka kc, VsAt P W (.slice ka (vs[k]'hk).kids.length kc) (vs[k]'hk).kids ∧ ∀ w, Below W.heap.size W w → (w.cell? ⟨b, off + k * 6, none⟩ = some (.int .i64 (vs[k]'hk).tok.k) ∧ w.cell? ⟨b, off + k * 6 + 1, none⟩ = some (.string (vs[k]'hk).tok.tx) ∧ w.cell? ⟨b, off + k * 6 + 2, none⟩ = some (.string (vs[k]'hk).tok.un)) ∧ (w.cell? ⟨b, off + k * 6 + 3, none⟩ = some (.bool (vs[k]'hk).tok.wh) ∧ w.cell? ⟨b, off + k * 6 + 4, none⟩ = some (.bool (vs[k]'hk).tok.fl) ∧ w.cell? ⟨b, off + k * 6 + 5, none⟩ = some (.slice ka (vs[k]'hk).kids.length kc)) := by
  cases h with
  | mk a cap vs b off kv h1 h2 ha hc hr =>
    refine ⟨a, cap, rfl, h1, h2, b, off, fun k hk => ?_⟩
    obtain ⟨ea, hb, -⟩ := ha (by omega)
    obtain ⟨ka, kc, ek, _, _⟩ := (hr k hk).slice
    have hr' := hr k hk
    rw [ek] at hr'
    refine ⟨ea, hb, ka, kc, hr', fun w hw => ?_⟩
    have hq := fun j y hy => (hw.cell (p := ⟨b, off + k * 6 + j, none⟩) hb).trans (hc k hk j y hy)
    rw [ek] at hq
    exact ⟨⟨hq 0 _ rfl, hq 1 _ rfl, hq 2 _ rfl⟩, hq 3 _ rfl, hq 4 _ rfl, hq 5 _ rfl⟩
set_option maxHeartbeats 1000000 in
/-- Count answers some number. -/
theorem count_some {P : Nat → Prop} {W : World} {v : Value} {vs : List V} (h : VsAt P W v vs) : ∀ w, Below W.heap.size W w →
    Calls Tryz.prog 25 #[v] w fun e w' => (∃ n, e = .returned (.int .i64 n)) ∧ Below w.heap.size w w' := by
  induction h with
  | mk a cap vs b off kv h1 h2 ha hc hr ih =>
    intro w hw
    have HA := hid_mk ha
    have HC := hid_mk hc
    have HR := hid_mk hr
    have HI := hid_mk ih
    have HW := hid_mk hw
    clear ha hc hr ih hw
    go_enter Tryz.func25, Tryz.ntmps25
    go_wp2
    go_loopw [3, 8] (fun a3 a8 wr => ∃ (k : Nat) (m : Int), a8 = .int .i64 k ∧ a3 = .int .i64 m ∧ k ≤ vs.length ∧ Below w.heap.size w wr) (fun _ a8 _ => vs.length + 1 - (intOf a8).toNat)
    case atStart => exact ⟨0, 0, rfl, rfl, Nat.zero_le _, Below.refl _ _⟩
    case round =>
      obtain ⟨k, m, rfl, rfl, hk, hB⟩ := hrel
      by_cases hlt : k < vs.length
      · obtain ⟨rfl, hb, -⟩ := HA.out (by omega)
        have hWr : Below W.heap.size W wr := HW.out.trans (hB.mono HW.out.size)
        have hq := fun j y hy => (hWr.cell (p := ⟨b, off + k * 6 + j, none⟩) hb).trans (HC.out k hlt j y hy)
        have hbx : b < wr.heap.size := Nat.lt_of_lt_of_le hb hWr.size
        have HI2 := hid_mk (HI.out k hlt)
        obtain ⟨x1, c1, e1, _, _⟩ := (HR.out k hlt).slice
        rw [e1] at hq HI2
        generalize (vs[k]'hlt).tok = t at *
        generalize (vs[k]'hlt).kids = ks at *
        obtain ⟨tk, tx, un, wh, fl⟩ := t
        have q0 : wr.cell? ⟨b, off + k * 6, none⟩ = some (.int .i64 tk) := hq 0 _ rfl
        have q1 : wr.cell? ⟨b, off + k * 6 + 1, none⟩ = some (.string tx) := hq 1 _ rfl
        have q2 : wr.cell? ⟨b, off + k * 6 + 2, none⟩ = some (.string un) := hq 2 _ rfl
        have q3 : wr.cell? ⟨b, off + k * 6 + 3, none⟩ = some (.bool wh) := hq 3 _ rfl
        have q4 : wr.cell? ⟨b, off + k * 6 + 4, none⟩ = some (.bool fl) := hq 4 _ rfl
        have q5 : wr.cell? ⟨b, off + k * 6 + 5, none⟩ = some (.slice x1 ks.length c1) := hq 5 _ rfl
        have hcall := fun o => HI2.out (wr.alloc o) (hWr.trans (((Below.refl _ wr).alloc (Nat.le_refl _) o).mono hWr.size))
        have HBA : Hid (∀ o, Below w.heap.size w (wr.alloc o)) := fun o => hB.trans (((Below.refl _ wr).alloc (Nat.le_refl _) o).mono hB.size)
        clear hq e1 HA HC HR HI HW hWr hB HI2
        go_wp2_with (go_at_call 25; fail)
        refine (hcall _).mono ?_
        rintro e w2 ⟨⟨n, rfl⟩, hB2⟩
        have HB2 : Hid (Below w.heap.size w w2) := (HBA.out _).trans (hB2.mono (HBA.out _).size)
        clear hcall hB2 HBA q0 q1 q2 q3 q4 q5
        go_wp2
        go_roundw
        case rel => exact ⟨k + 1, _, by go_num, rfl, by omega, HB2.out⟩
        case measure => simp [intOf]; omega
      · have HB1 := hid_mk hB
        clear hB
        go_wp2
        go_ret
        exact ⟨⟨_, rfl⟩, HB1.out⟩
set_option maxHeartbeats 1000000 in
/-- Deep answers yes or no. -/
theorem deep_some {P : Nat → Prop} {W : World} {v : Value} {vs : List V} (h : VsAt P W v vs) : ∀ (w : World) (m : Int), Below W.heap.size W w → 0 ≤ m → m ≤ 1000 →
    Calls Tryz.prog 24 #[v, .int .i64 m] w fun e w' => (∃ b, e = .returned (.bool b)) ∧ Below w.heap.size w w' := by
  induction h with
  | mk a cap vs b off kv h1 h2 ha hc hr ih =>
    intro w m hw hm0 hm1
    have HA := hid_mk ha
    have HC := hid_mk hc
    have HR := hid_mk hr
    have HI := hid_mk ih
    have HW := hid_mk hw
    clear ha hc hr ih hw
    go_enter Tryz.func24, Tryz.ntmps24
    go_wp2
    go_loopw [9] (fun a9 wr => ∃ (k : Nat), a9 = .int .i64 k ∧ k ≤ vs.length ∧ Below w.heap.size w wr) (fun a9 _ => vs.length + 1 - (intOf a9).toNat)
    case atStart => exact ⟨0, rfl, Nat.zero_le _, Below.refl _ _⟩
    case round =>
      obtain ⟨k, rfl, hk, hB⟩ := hrel
      by_cases hlt : k < vs.length
      · obtain ⟨rfl, hb, -⟩ := HA.out (by omega)
        have hWr : Below W.heap.size W wr := HW.out.trans (hB.mono HW.out.size)
        have hq := fun j y hy => (hWr.cell (p := ⟨b, off + k * 6 + j, none⟩) hb).trans (HC.out k hlt j y hy)
        have hbx : b < wr.heap.size := Nat.lt_of_lt_of_le hb hWr.size
        have HI2 := hid_mk (HI.out k hlt)
        obtain ⟨x1, c1, e1, _, _⟩ := (HR.out k hlt).slice
        rw [e1] at hq HI2
        generalize (vs[k]'hlt).tok = t at *
        generalize (vs[k]'hlt).kids = ks at *
        obtain ⟨tk, tx, un, wh, fl⟩ := t
        have q0 : wr.cell? ⟨b, off + k * 6, none⟩ = some (.int .i64 tk) := hq 0 _ rfl
        have q1 : wr.cell? ⟨b, off + k * 6 + 1, none⟩ = some (.string tx) := hq 1 _ rfl
        have q2 : wr.cell? ⟨b, off + k * 6 + 2, none⟩ = some (.string un) := hq 2 _ rfl
        have q3 : wr.cell? ⟨b, off + k * 6 + 3, none⟩ = some (.bool wh) := hq 3 _ rfl
        have q4 : wr.cell? ⟨b, off + k * 6 + 4, none⟩ = some (.bool fl) := hq 4 _ rfl
        have q5 : wr.cell? ⟨b, off + k * 6 + 5, none⟩ = some (.slice x1 ks.length c1) := hq 5 _ rfl
        have hal : ∀ o, Below wr.heap.size wr (wr.alloc o) := fun o => (Below.refl _ wr).alloc (Nat.le_refl _) o
        have HBA : Hid (∀ o, Below w.heap.size w (wr.alloc o)) := fun o => hB.trans ((hal o).mono hB.size)
        have HWA : Hid (∀ o, Below W.heap.size W (wr.alloc o)) := fun o => hWr.trans ((hal o).mono hWr.size)
        clear hq e1 HA HC HR HI HW hWr hB hal
        by_cases h0 : 0 < ks.length
        · have z0 : decide ((0 : Int) < (ks.length : Int)) = true := by simpa using h0
          by_cases hm : m < 1
          · have z1 : decide (m < 1) = true := by simpa using hm
            go_wp2
            go_ret
            exact ⟨⟨_, rfl⟩, HBA.out _⟩
          · have z1 : decide (m < 1) = false := by simpa using hm
            have hcl := fun o => HI2.out _ (m - 1) (HWA.out o) (by omega) (by omega)
            go_wp2_with (go_at_call 24; fail)
            refine (hcl _).mono ?_
            rintro e w2 ⟨⟨dd, rfl⟩, hB2⟩
            have HB2 : Hid (Below w.heap.size w w2) := (HBA.out _).trans (hB2.mono (HBA.out _).size)
            clear hcl hB2 q0 q1 q2 q3 q4 q5
            cases dd
            · go_wp2
              go_roundw
              case rel => exact ⟨k + 1, by go_num, by omega, HB2.out⟩
              case measure => simp [intOf]; omega
            · go_wp2
              go_ret
              exact ⟨⟨_, rfl⟩, HB2.out⟩
        · have z0 : decide ((0 : Int) < (ks.length : Int)) = false := by simpa using h0
          go_wp2
          go_roundw
          case rel => exact ⟨k + 1, by go_num, by omega, HBA.out _⟩
          case measure => simp [intOf]; omega
      · have HB1 := hid_mk hB
        clear hB
        go_wp2
        go_ret
        exact ⟨⟨_, rfl⟩, HB1.out⟩
set_option maxHeartbeats 1000000 in
theorem great_any {P : Nat → Prop} {W : World} {v : Value} {vs : List V} (h : VsAt P W v vs) (hz : ∀ y ∈ vs, y.tok.tx.size ≤ 140737488351232 ∧ y.tok.un.size ≤ 140737488351232) :
    Calls Tryz.prog 9 #[v] W fun e w' => (∃ b, e = .returned (.bool b) ∧ (b = false → ∀ y ∈ vs, y.tok.tx.size + y.tok.un.size ≤ 500)) ∧ Below W.heap.size W w' := by
  have HD : Hid (∀ w, Below W.heap.size W w → Calls Tryz.prog 24 #[v, .int .i64 80] w fun e w' => (∃ b, e = .returned (.bool b)) ∧ Below w.heap.size w w') := fun w hb => deep_some h w 80 hb (by omega) (by omega)
  have HCn : Hid (∀ w, Below W.heap.size W w → Calls Tryz.prog 25 #[v] w fun e w' => (∃ n, e = .returned (.int .i64 n)) ∧ Below w.heap.size w w') := fun w hb => count_some h w hb
  obtain ⟨a, cap, rfl, h1, h2, b, off, hx⟩ := vs_cells h
  have HX := hid_mk hx
  have HZ := hid_mk hz
  clear h hx hz
  go_enter Tryz.func9, Tryz.ntmps9
  go_wp2
  go_loopw [7] (fun a7 wr => ∃ (k : Nat), a7 = .int .i64 k ∧ k ≤ vs.length ∧ Hid (∀ y ∈ vs.take k, y.tok.tx.size + y.tok.un.size ≤ 500) ∧ Below W.heap.size W wr) (fun a7 _ => vs.length + 1 - (intOf a7).toNat)
  case atStart => exact ⟨0, rfl, Nat.zero_le _, fun y hy => by simp at hy, Below.refl _ _⟩
  case round =>
    obtain ⟨k, rfl, hk, HS, hB⟩ := hrel
    by_cases hlt : k < vs.length
    · obtain ⟨rfl, hb, ka, kc, -, hc⟩ := HX.out k hlt
      obtain ⟨⟨q0, q1, q2⟩, q3, q4, q5⟩ := hc wr hB
      have hbx : b < wr.heap.size := Nat.lt_of_lt_of_le hb hB.size
      have hzz := HZ.out (vs[k]'hlt) (List.getElem_mem hlt)
      have HT : Hid (vs.take (k + 1) = vs.take k ++ [vs[k]'hlt]) := by
        show _ = _
        rw [List.take_add_one]
        simp [hlt]
      have HBA : Hid (∀ o, Below W.heap.size W (wr.alloc o)) := fun o => hB.alloc hB.size o
      by_cases hs : 500 < (vs[k]'hlt).tok.tx.size + (vs[k]'hlt).tok.un.size
      · have hd : decide ((500 : Int) < ((vs[k]'hlt).tok.tx.size : Int) + ((vs[k]'hlt).tok.un.size : Int)) = true := decide_eq_true (by omega)
        have hi : (500 : Int) < ((vs[k]'hlt).tok.tx.size : Int) + ((vs[k]'hlt).tok.un.size : Int) := by omega
        clear HX HZ HT HS hB hc
        generalize (vs[k]'hlt).tok = t at *
        generalize (vs[k]'hlt).kids = ks at *
        obtain ⟨tk, tx, un, wh, fl⟩ := t
        simp only at q0 q1 q2 q3 q4 hzz hd hi hs
        go_wp2
        go_ret
        exact ⟨⟨true, rfl, fun h => by cases h⟩, HBA.out _⟩
      · have HS2 : Hid (∀ y ∈ vs.take (k + 1), y.tok.tx.size + y.tok.un.size ≤ 500) := fun y hy => by
          rw [HT.out] at hy
          rcases List.mem_append.1 hy with hy | hy
          · exact HS.out y hy
          · simp at hy
            subst hy
            omega
        have hd : decide ((500 : Int) < ((vs[k]'hlt).tok.tx.size : Int) + ((vs[k]'hlt).tok.un.size : Int)) = false := decide_eq_false (by omega)
        have hi : ¬ (500 : Int) < ((vs[k]'hlt).tok.tx.size : Int) + ((vs[k]'hlt).tok.un.size : Int) := by omega
        clear HX HZ HT HS hB hc
        generalize (vs[k]'hlt).tok = t at *
        generalize (vs[k]'hlt).kids = ks at *
        obtain ⟨tk, tx, un, wh, fl⟩ := t
        simp only at q0 q1 q2 q3 q4 hzz hd hi hs
        go_wp2
        go_roundw
        case rel => exact ⟨k + 1, by go_num, by omega, HS2, HBA.out _⟩
        case measure => simp [intOf]; omega
    · have HE : Hid (∀ y ∈ vs, y.tok.tx.size + y.tok.un.size ≤ 500) := by
        have := HS.out
        rw [List.take_of_length_le (by omega)] at this
        exact this
      have h24 := HD.out wr hB
      have HB := hid_mk hB
      clear HX HZ HS HD hB
      go_wp2_with (go_at_call 24; fail)
      refine h24.mono ?_
      rintro e w2 ⟨⟨b2, rfl⟩, hb2⟩
      have HB2 : Hid (Below W.heap.size W w2) := HB.out.trans (hb2.mono HB.out.size)
      clear h24 hb2 HB
      cases b2
      · have h25 := HCn.out w2 HB2.out
        go_wp2_with (go_at_call 25; fail)
        refine h25.mono ?_
        rintro e w3 ⟨⟨n, rfl⟩, hb3⟩
        have HB3 : Hid (Below W.heap.size W w3) := HB2.out.trans (hb3.mono HB2.out.size)
        clear h25 hb3 HCn
        go_wp2
        go_ret
        exact ⟨⟨_, rfl, fun _ => HE.out⟩, HB3.out⟩
      · go_wp2
        go_ret
        exact ⟨⟨true, rfl, fun h => by cases h⟩, HB2.out⟩
end Go.Proofs.YtlhdapckenjigaaGreatDoor.Z
