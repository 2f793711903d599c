/- gouachelaw15.digits; value.Number of a length. -/
import Derived.Test.YtfgnlgkpgihbmaaGreatDoorZBk
import Derived.Shelf.Small.Wraps
import Derived.Laws.BytesArg
import Derived.WalkSmall
import Derived.WalkMore
import Derived.Laws.IdiomStrings
import Derived.Laws.Cover4
import Derived.WalkSpells
namespace Go.Proofs.YtfgnlgkpgihbmaaGreatDoor.Z
open Go.RowKit
open Go.Proofs.YtfgnlgkpgihbmaaGreatDoor.L (T5 V VsAt t5Cells vCells cell_of_heap hid_mk)
set_option maxRecDepth 100000

set_option maxHeartbeats 2000000 in
theorem dig_pos (N : Nat) (h1 : (N : Int) ≤ 1000000) (w : World) : Calls Tryz.prog 21 #[.int .i64 (N : Int)] w fun e w' => e = .returned (.string (strOfNums (W.decU N))) ∧ w = w' := by
  have hn0 : ¬ (N : Int) < 0 := by omega
  have hd0 : decide ((N : Int) < 0) = false := decide_eq_false hn0
  go_enter Tryz.func21, Tryz.ntmps21
  go_wp2
  go_loop [0, 4] (fun a3 a5 => ∃ (f u : Nat) (acc : List Int), a3 = .int .i64 (u : Int) ∧ a5 = .string (strOfNums acc) ∧ W.decF f u acc = W.decU N ∧ u < W.p10 f ∧ (u : Int) ≤ 1000000 ∧ acc.length + f = 20 ∧ 0 < f) (fun a3 _ => (intOf a3).toNat)
  case atStart => exact ⟨20, N, [], by first | rfl | (congr 1; omega), rfl, rfl, W.p10_20 N (by omega), by omega, rfl, by omega⟩
  case round =>
    obtain ⟨f, u, acc, rfl, rfl, hdec, hu, hub, hlen, hf0⟩ := hrel
    have HD := hid_mk hdec
    have HU := hid_mk hu
    clear hdec hu
    have hm0 : 0 ≤ (u : Int) % 10 := by omega
    have hm1 : (u : Int) % 10 < 10 := by omega
    have hsa : (strOfNums acc).size ≤ 20 := by rw [W.strOf_size]; omega
    have hse : ((⟨#[48, 49, 50, 51, 52, 53, 54, 55, 56, 57]⟩ : ByteArray).extract (u % 10) (u % 10 + 1)).size ≤ 1 := by simp; omega
    have HX : Hid ((⟨#[48, 49, 50, 51, 52, 53, 54, 55, 56, 57]⟩ : ByteArray).extract (u % 10) (u % 10 + 1) ++ strOfNums acc = strOfNums (((48 + u % 10 : Nat) : Int) :: acc)) := by
      show (⟨#[48, 49, 50, 51, 52, 53, 54, 55, 56, 57]⟩ : ByteArray).extract (u % 10) (u % 10 + 1) ++ strOfNums acc = _
      have := W.digT_at ⟨u % 10, by omega⟩
      show W.digT.extract (u % 10) (u % 10 + 1) ++ strOfNums acc = _
      rw [this, W.nums_cons]
    by_cases hq : u / 10 = 0
    · have hz : ((u : Int) / 10 == 0) = true := by
        have : (u : Int) / 10 = 0 := by omega
        rw [this]; rfl
      have hz1 : (u : Int) / 10 = 0 := by omega
      have HE : Hid (((48 + u % 10 : Nat) : Int) :: acc = W.decU N) := by
        show ((48 + u % 10 : Nat) : Int) :: acc = W.decU N
        have h := HD.out
        obtain ⟨f', rfl⟩ : ∃ f', f = f' + 1 := ⟨f - 1, by omega⟩
        rw [W.decF, if_pos hq] at h
        exact h
      go_wp2
      go_ret
      exact ⟨congrArg (fun x => Ending.returned (Value.string x)) (by show (⟨#[]⟩ ++ (_ ++ strOfNums acc) : ByteArray) = _; rw [HX.out, HE.out]; exact W.empty_str _), rfl⟩
    · have hz : ((u : Int) / 10 == 0) = false := by
        have : (u : Int) / 10 ≠ 0 := by omega
        simpa using this
      have hz1 : ¬ (u : Int) / 10 = 0 := by omega
      go_wp2
      go_round
      case rel =>
        have h := HD.out
        have h2 := HU.out
        obtain ⟨f', rfl⟩ : ∃ f', f = f' + 1 := ⟨f - 1, by omega⟩
        rw [W.decF, if_neg hq] at h
        have h3 : u / 10 < W.p10 f' := by
          unfold W.p10 at h2 ⊢
          rw [Nat.pow_succ] at h2
          omega
        have h4 : 0 < f' := by
          cases f' with
          | zero => unfold W.p10 at h3; simp at h3; omega
          | succ k => omega
        exact ⟨f', u / 10, _, by go_num, congrArg Value.string HX.out, h, h3, by omega, by simp; omega, h4⟩
      case measure => simp [intOf]; omega
set_option maxHeartbeats 2000000 in
theorem dig_neg (N : Nat) (n : Int) (hn : n = -(N : Int)) (h0 : n < 0) (h1 : (N : Int) ≤ 1000000) (w : World) : Calls Tryz.prog 21 #[.int .i64 n] w fun e w' => e = .returned (.string (strOfNums (45 :: W.decU N))) ∧ w = w' := by
  have hd0 : decide (n < 0) = true := decide_eq_true h0
  have hnn : -n = (N : Int) := by omega
  go_enter Tryz.func21, Tryz.ntmps21
  go_wp2
  go_loop [0, 4] (fun a3 a5 => ∃ (f u : Nat) (acc : List Int), a3 = .int .i64 (u : Int) ∧ a5 = .string (strOfNums acc) ∧ W.decF f u acc = W.decU N ∧ u < W.p10 f ∧ (u : Int) ≤ 1000000 ∧ acc.length + f = 20 ∧ 0 < f) (fun a3 _ => (intOf a3).toNat)
  case atStart => exact ⟨20, N, [], by first | rfl | (congr 1; omega), rfl, rfl, W.p10_20 N (by omega), by omega, rfl, by omega⟩
  case round =>
    obtain ⟨f, u, acc, rfl, rfl, hdec, hu, hub, hlen, hf0⟩ := hrel
    have HD := hid_mk hdec
    have HU := hid_mk hu
    clear hdec hu
    have hm0 : 0 ≤ (u : Int) % 10 := by omega
    have hm1 : (u : Int) % 10 < 10 := by omega
    have hsa : (strOfNums acc).size ≤ 20 := by rw [W.strOf_size]; omega
    have hse : ((⟨#[48, 49, 50, 51, 52, 53, 54, 55, 56, 57]⟩ : ByteArray).extract (u % 10) (u % 10 + 1)).size ≤ 1 := by simp; omega
    have HX : Hid ((⟨#[48, 49, 50, 51, 52, 53, 54, 55, 56, 57]⟩ : ByteArray).extract (u % 10) (u % 10 + 1) ++ strOfNums acc = strOfNums (((48 + u % 10 : Nat) : Int) :: acc)) := by
      show (⟨#[48, 49, 50, 51, 52, 53, 54, 55, 56, 57]⟩ : ByteArray).extract (u % 10) (u % 10 + 1) ++ strOfNums acc = _
      have := W.digT_at ⟨u % 10, by omega⟩
      show W.digT.extract (u % 10) (u % 10 + 1) ++ strOfNums acc = _
      rw [this, W.nums_cons]
    by_cases hq : u / 10 = 0
    · have hz : ((u : Int) / 10 == 0) = true := by
        have : (u : Int) / 10 = 0 := by omega
        rw [this]; rfl
      have hz1 : (u : Int) / 10 = 0 := by omega
      have HE : Hid (((48 + u % 10 : Nat) : Int) :: acc = W.decU N) := by
        show ((48 + u % 10 : Nat) : Int) :: acc = W.decU N
        have h := HD.out
        obtain ⟨f', rfl⟩ : ∃ f', f = f' + 1 := ⟨f - 1, by omega⟩
        rw [W.decF, if_pos hq] at h
        exact h
      go_wp2
      go_ret
      exact ⟨congrArg (fun x => Ending.returned (Value.string x)) (by show (⟨#[45]⟩ ++ (_ ++ strOfNums acc) : ByteArray) = _; rw [HX.out, HE.out, show (⟨#[45]⟩ : ByteArray) = strOfNums [45] from rfl, W.nums_cons]), rfl⟩
    · have hz : ((u : Int) / 10 == 0) = false := by
        have : (u : Int) / 10 ≠ 0 := by omega
        simpa using this
      have hz1 : ¬ (u : Int) / 10 = 0 := by omega
      go_wp2
      go_round
      case rel =>
        have h := HD.out
        have h2 := HU.out
        obtain ⟨f', rfl⟩ : ∃ f', f = f' + 1 := ⟨f - 1, by omega⟩
        rw [W.decF, if_neg hq] at h
        have h3 : u / 10 < W.p10 f' := by
          unfold W.p10 at h2 ⊢
          rw [Nat.pow_succ] at h2
          omega
        have h4 : 0 < f' := by
          cases f' with
          | zero => unfold W.p10 at h3; simp at h3; omega
          | succ k => omega
        exact ⟨f', u / 10, _, by go_num, congrArg Value.string HX.out, h, h3, by omega, by simp; omega, h4⟩
      case measure => simp [intOf]; omega
theorem digits_any (n : Int) (h0 : -1000000 ≤ n) (h1 : n ≤ 1000000) (w : World) : Calls Tryz.prog 21 #[.int .i64 n] w fun e w' => e = .returned (.string (W.itS n)) ∧ w = w' := by
  unfold W.itS W.signD
  by_cases hn : n < 0
  · rw [if_pos hn]
    exact dig_neg (-n).toNat n (by omega) hn (by omega) w
  · rw [if_neg hn]
    have := dig_pos n.toNat (by omega) w
    rwa [show ((n.toNat : Nat) : Int) = n by omega] at this
shelf_lay Lays.n104 Nm 104 at Tryz as laysCs
theorem cut_px (a : ByteArray) (h : a.size ≤ 1000) (w : World) : Calls Tryz.prog 41 #[.string (a ++ pxS), .string ⟨#[112, 120]⟩] w fun e w' => e = .returned (.tuple #[.string a, .bool true]) ∧ w' = w := by
  have hsz : (a ++ pxS).size = a.size + 2 := by rw [ByteArray.size_append]; rfl
  have h1 := Any.strings_CutSuffix laysCs (a ++ pxS) ⟨#[112, 120]⟩ w (by omega)
  have e1 : Lib.hasSuffix (a ++ pxS).data.toList (⟨#[112, 120]⟩ : ByteArray).data.toList = true := by
    unfold Lib.hasSuffix
    simp [pxS, ByteArray.data_append]
  have e2 : Lib.trimSuffix (a ++ pxS).data.toList (⟨#[112, 120]⟩ : ByteArray).data.toList = a.data.toList := by
    unfold Lib.trimSuffix
    rw [if_pos e1]
    simp [pxS, ByteArray.data_append]
  rw [e1, e2] at h1
  exact h1
theorem it_head (n : Int) : ∃ h : 0 < (W.itS n).size, ((W.itS n)[0]'h).toNat ≠ 43 := by
  obtain ⟨ds, hd, hne, h⟩ := sign_numb n
  have key : ∀ l : List Int, l ≠ [] → (∀ c ∈ l.head?, c ≠ 43 ∧ 0 ≤ c ∧ c < 256) → ∃ h : 0 < (strOfNums l).size, ((strOfNums l)[0]'h).toNat ≠ 43 := by
    intro l hl hc
    cases l with
    | nil => exact absurd rfl hl
    | cons c r =>
      obtain ⟨h1, h2, h3⟩ := hc c rfl
      refine ⟨by rw [W.strOf_size]; simp, ?_⟩
      show (UInt8.ofNat c.toNat).toNat ≠ 43
      rw [UInt8.toNat_ofNat']
      omega
  unfold W.itS
  rcases h with h | h
  · rw [h]
    refine key ds hne fun c hc => ?_
    have := hd c (List.mem_of_mem_head? hc)
    omega
  · rw [h]
    exact key _ (by simp) fun c hc => by cases hc; decide
set_option maxHeartbeats 2000000 in
theorem number_px (n : Int) (h0 : -1000000 ≤ n) (h1 : n ≤ 1000000) (w : World) : Calls Tryz.prog 18 #[.string (W.itS n ++ pxS)] w fun e w' => e = .returned (.tuple #[.int .i64 n, .string ⟨#[112, 120]⟩, .bool true]) ∧ Below w.heap.size w w' := by
  have hit := W.it_size n
  have hcut := cut_px (W.itS n) (by omega) w
  have hint := int_any (numT 10 n noS) (by show (W.itS n).size ≤ 100000; omega) w
  rw [intP_num 10 n noS (.inl rfl) h0 h1] at hint
  have hint : Calls Tryz.prog 42 #[.agg #[.int .i64 10, .string (W.itS n), .string ⟨#[]⟩, .bool true, .bool false]] w fun e w' => e = .returned (.tuple #[.int .i64 n, .bool true]) ∧ Below w.heap.size w w' := hint
  obtain ⟨hz, hb⟩ := it_head n
  have hx : ∀ w, (Instr.index 70 (.agg #[.string ⟨#[112, 120]⟩, .string ⟨#[37]⟩, .string ⟨#[]⟩]) (.int .i64 0)).run Tryz.prog w = .ok (.string ⟨#[112, 120]⟩) w := fun w => by kernel_rfl
  generalize W.itS n ++ pxS = s at *
  generalize W.itS n = d at *
  have hb2 : (((d[0]'hz).toNat : Int) != 43) = true := by simpa using (by omega : ((d[0]'hz).toNat : Int) ≠ 43)
  go_enter Tryz.func18, Tryz.ntmps18
  go_wp2
  go_loopw [12] (fun a12 wr => a12 = .int .i64 0 ∧ wr = w) (fun _ _ => 0)
  case atStart => exact ⟨rfl, rfl⟩
  case round =>
    obtain ⟨rfl, rfl⟩ := hrel
    go_wp2_with (go_at_call 41; fail)
    refine hcut.mono ?_
    rintro e w' ⟨rfl, rfl⟩
    go_wp2_with (go_at_call 42; fail)
    refine hint.mono ?_
    rintro e w2 ⟨rfl, hb3⟩
    clear hcut hint
    go_wp2
    exact bodyPost_ret (by simp [results, Tryz.f18, go_sem]) rfl ⟨rfl, hb3⟩
end Go.Proofs.YtfgnlgkpgihbmaaGreatDoor.Z
