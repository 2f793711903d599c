/- gouacheref03.Count ends, whatever values came in, and leaves what was there. -/
import Derived.Test.YtpflliophellgaaDoorCountV
namespace Go.Proofs.YtpflliophellgaaDoor
open Go.RowKit

set_option maxHeartbeats 1000000 in
set_option maxRecDepth 100000 in
theorem count_nil (W : World) : Calls Tryd.prog 7 #[.slice none 0 0] W fun e w' => (∃ n : Int, e = .returned (.int .i64 n)) ∧ Below W.heap.size W w' := by
  go_enter Tryd.func7, Tryd.ntmps7
  go_wp2
  go_loop [3, 8] (fun a3 a8 => a3 = .int .i64 0 ∧ a8 = .int .i64 0) (fun _ _ => 0)
  case atStart => exact ⟨rfl, rfl⟩
  case round =>
    obtain ⟨rfl, rfl⟩ := hrel
    go_wp2
    go_ret
    exact ⟨⟨_, rfl⟩, Below.refl _ W⟩

set_option maxHeartbeats 2000000 in
set_option maxRecDepth 100000 in
theorem count_any {H : Type} {enc : TypeId × Value → H} {W : World} {base : Nat} {sp : Nat → Bool} {held : Bool} (fuel : Nat) : ∀ (v : Value) (x : DataW H × List MemPlace), DataW.trod enc Tryd.prog W base sp held fuel 22 [v] = some x → ∀ W', Below W.heap.size W W' →
    Calls Tryd.prog 7 #[v] W' fun e w' => (∃ n : Int, e = .returned (.int .i64 n)) ∧ Below W'.heap.size W' w' := by
  induction fuel using Nat.strongRecOn with
  | _ fuel ih =>
    intro v x hf W' hW
    rcases trod_vals hf with rfl | ⟨a, len, cap, rfl, hl, hcap, hval⟩
    · exact count_nil W'
    · have hcap2 : cap ≤ 9223372036854775807 := hcap
      have HV : Hid (∀ i, i < len → ∃ (b off : Nat) (k : Int) (tx un : ByteArray) (wh fl : Bool) (kid : Value), a = ⟨b, off, none⟩ ∧ b < W.heap.size ∧ (kid = .slice none 0 0 ∨ ∃ a' l' c', kid = .slice (some a') l' c') ∧ (∀ W2, Below W.heap.size W W2 → Calls Tryd.prog 7 #[kid] W2 fun e w' => (∃ n : Int, e = .returned (.int .i64 n)) ∧ Below W2.heap.size W2 w') ∧
          ∀ j y, [Value.int .i64 k, .string tx, .string un, .bool wh, .bool fl, kid][j]? = some y → W.cell? ⟨b, off + i * 6 + j, none⟩ = some y) := by
        intro i hi
        obtain ⟨b, off, ha, hlt, hv⟩ := hval (by omega)
        obtain ⟨k, tx, un, wh, fl, kid, m, z, hm, hz, _, _, hc⟩ := hv i hi
        refine ⟨b, off, k, tx, un, wh, fl, kid, ha, hlt, ?_, fun W2 h2 => ih m hm kid z hz W2 h2, hc⟩
        rcases trod_vals hz with h | ⟨a', l', c', h, _⟩
        · exact .inl h
        · exact .inr ⟨a', l', c', h⟩
      clear hval hf ih hcap
      go_enter Tryd.func7, Tryd.ntmps7
      go_wp2
      go_loopw [3, 8] (fun a3 a8 wr => ∃ (k : Nat) (n : Int), a8 = .int .i64 k ∧ a3 = .int .i64 n ∧ k ≤ len ∧ Below W'.heap.size W' wr) (fun _ a8 _ => len + 1 - (intOf a8).toNat)
      case atStart => exact ⟨0, 0, rfl, rfl, Nat.zero_le _, Below.refl _ W'⟩
      case round =>
        obtain ⟨k, n, rfl, rfl, hk, hbr⟩ := hrel
        by_cases hlt : k < len
        · obtain ⟨b, off, kk, tx, un, wh, fl, kid, rfl, hbw, hkid, hcall, hc⟩ := HV.out k hlt
          have hcc : ∀ j y, [Value.int .i64 kk, .string tx, .string un, .bool wh, .bool fl, kid][j]? = some y → wr.cell? ⟨b, off + k * 6 + j, none⟩ = some y := fun j y hy =>
            (hbr.cell (p := ⟨b, off + k * 6 + j, none⟩) (Nat.lt_of_lt_of_le hbw hW.size)).trans ((hW.cell (p := ⟨b, off + k * 6 + j, none⟩) hbw).trans (hc j y hy))
          have c0 := hcc 0 _ rfl
          have c1 := hcc 1 _ rfl
          have c2 := hcc 2 _ rfl
          have c3 := hcc 3 _ rfl
          have c4 := hcc 4 _ rfl
          have c5 := hcc 5 _ rfl
          have HB : Hid (∀ W2, Below wr.heap.size wr W2 → Below W.heap.size W W2 ∧ Below W'.heap.size W' W2) := fun W2 h2 => ⟨hW.trans ((hbr.trans (h2.mono hbr.size)).mono hW.size), hbr.trans (h2.mono hbr.size)⟩
          have HCALL := hid_mk hcall
          rw [Nat.add_zero] at c0
          clear hcc hc hcall
          have hal : Below wr.heap.size wr (wr.alloc (.cells #[.int .i64 kk, .string tx, .string un, .bool wh, .bool fl, kid] 28)) := (Below.refl _ wr).alloc (Nat.le_refl _) _
          have hcl := HCALL.out _ (HB.out _ hal).1
          have hB2 := (HB.out _ hal).2
          rcases hkid with rfl | ⟨a', l', c', rfl⟩
          all_goals
            go_wp2_with (go_at_call 7; fail)
            refine (hcl).mono ?_
            rintro e w3 ⟨⟨n3, rfl⟩, b3⟩
            go_wp2
            go_roundw
            case rel => exact ⟨k + 1, _, by go_num, rfl, by omega, hB2.trans (b3.mono hB2.size)⟩
            case measure => simp [intOf]; omega
        · go_wp2
          go_ret
          exact ⟨⟨_, rfl⟩, hbr⟩

end Go.Proofs.YtpflliophellgaaDoor
