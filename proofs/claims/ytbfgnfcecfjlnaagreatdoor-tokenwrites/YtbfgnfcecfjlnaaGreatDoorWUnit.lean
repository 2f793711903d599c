/- The document's writing of a unit. -/
import Derived.Test.YtbfgnfcecfjlnaaGreatDoorWEscape
namespace Go.Proofs.YtbfgnfcecfjlnaaGreatDoor
open Go.RowKit

set_option maxHeartbeats 1000000 in
set_option maxRecDepth 100000 in
theorem runit_e (s : ByteArray) (hs : s.size ≤ 5000) (h0 : 0 < s.size) (he : ((s[0]'h0).toNat : Int) = 101 ∨ ((s[0]'h0).toNat : Int) = 69) (w : World) :
    Calls Tryz.prog 52 #[.string s] w fun e w' => e = .returned (.string (strOfNums (numL ((s[0]'h0).toNat : Int) ++ partsL (s.extract 1 s.size)))) ∧ Below w.heap.size w w' := by
  have hn1 : (s.extract 1 s.size).size = s.size - 1 := by simp
  obtain ⟨g, cap, W, hcv, hcap, hg, hcell, _, hB⟩ := bytesOf (s.extract 1 s.size) w
  have hba : BytesAt W (.slice (some ⟨g, 0, none⟩) (s.extract 1 s.size).size cap) (s.extract 1 s.size) := ⟨_, _, rfl, hcap, fun _ => ⟨g, 0, rfl, fun j hj => by simpa using hcell j hj⟩⟩
  have hru := R2.chars_any _ (s.extract 1 s.size) W (by omega) hba
  have hch : ∀ c ∈ chars (s.extract 1 s.size), IsChar c := chars_char _ _ 0
  have hcn : (chars (s.extract 1 s.size)).length ≤ (s.extract 1 s.size).size := charsFrom_len _ _ 0
  have hnm : ∀ w, Calls Tryz.prog 44 #[.int .i32 ((s[0]'h0).toNat : Int)] w fun e w' => e = .returned (.string (strOfNums (numL ((s[0]'h0).toNat : Int)))) ∧ w = w' := fun w => rnumbered_any (s[0]'h0).toNat (by omega) w
  have hnsz : (strOfNums (numL ((s[0]'h0).toNat : Int))).size ≤ 5 := by
    rw [strOf_size]
    have := numL_len ((s[0]'h0).toNat : Int)
    omega
  rw [hn1] at hcv hru hcap hcn
  clear hcell hba hn1
  unfold partsL
  generalize chars (s.extract 1 s.size) = xs at *
  rcases he with e1 | e1
  · have z1 : (((s[0]'h0).toNat : Int) == 101) = true := by rw [e1]; rfl
    rw [e1] at hnm hnsz ⊢
    go_enter Tryz.func52, Tryz.ntmps52
    go_wp2_with (go_at_call 35; fail)
    refine (hru).mono ?_
    rintro e w2 ⟨u, rfl, hown, hb2⟩
    have hrow := RowAt.own hown
    have B2 : Below w.heap.size w w2 := hB.trans (hb2.mono hB.size)
    obtain ⟨a, c2, rfl, hc2, hcs⟩ := hrow
    clear hown hru
    go_wp2
    go_loopw [3, 25] (fun o i wr => ∃ k : Nat, i = .int .i64 k ∧ o = .string (strOfNums ((xs.take k).flatMap partL)) ∧ k ≤ xs.length ∧ Below w2.heap.size w2 wr) (fun _ i _ => xs.length + 1 - (intOf i).toNat)
    case atStart => exact ⟨0, rfl, rfl, Nat.zero_le _, Below.refl _ w2⟩
    case round =>
      obtain ⟨k, rfl, rfl, hk, hbr⟩ := hrel
      by_cases hlt : k < xs.length
      · obtain ⟨gb, off, rfl, hcell⟩ := hcs (by omega)
        have hc0 := (hbr.cell (World.block_lt_of_cell? w2 _ (hcell k hlt))).trans (hcell k hlt)
        have hic : IsChar (xs.getD k 0) := hch _ (by simp [List.getD, hlt])
        have HT : Hid (strOfNums ((xs.take (k + 1)).flatMap partL) = strOfNums ((xs.take k).flatMap partL) ++ strOfNums (partL (xs.getD k 0))) := by
          show _ = _
          rw [flat_take partL hlt, nums_two]
        have hlen : (strOfNums ((xs.take k).flatMap partL)).size ≤ 30000 := by
          rw [strOf_size]
          have := part_flat_len xs k
          omega
        have hpl := plain_any (xs.getD k 0) hic wr
        generalize xs.getD k 0 = c at *
        generalize strOfNums ((xs.take k).flatMap partL) = O at *
        have hps : (strOfNums (partL c)).size ≤ 5 := by rw [strOf_size]; exact partL_len c
        by_cases hp : plainL c = []
        · obtain ⟨y1, y2⟩ := (str_nil (l := plainL c)).1 hp
          obtain ⟨_, _, e3⟩ := plain_none hp
          have HP : Hid (strOfNums (partL c) = ⟨#[92]⟩ ++ strOfNums (Lib.encodeRuneZ c)) := by
            show _ = _
            rw [e3]
            unfold slashL
            rw [nums_two]
            rfl
          have hes : (strOfNums (Lib.encodeRuneZ c)).size ≤ 4 := by
            rw [strOf_size]
            have := Lib.encodeRuneZ_length c
            omega
          have hcv1 := fun w' => conv_one w' c hic
          generalize strOfNums (Lib.encodeRuneZ c) = E at *
          generalize strOfNums (partL c) = PP at *
          generalize strOfNums (plainL c) = PL at *
          clear hp e3 hcell hcs hch hic
          go_wp2_with (go_at_call 42; fail)
          refine (hpl).mono ?_
          rintro e w3 ⟨rfl, b3⟩
          have hcv2 := hcv1 w3
          have B3 := hbr.trans (b3.mono hbr.size)
          have hal := B3.alloc B3.size (.cells #[.int .i32 c] 21)
          clear hcv1
          go_wp2
          go_roundw
          case rel => exact ⟨k + 1, by go_num, by rw [HT.out, HP.out], by omega, hal⟩
          case measure => simp [intOf]; omega
        · obtain ⟨y1, y2⟩ := (str_nil (l := plainL c)).2 hp
          have e3 := plain_some hic.1 hp
          rw [e3] at HT hps
          generalize strOfNums (plainL c) = PL at *
          clear hp e3 hcell hcs hch hic
          go_wp2_with (go_at_call 42; fail)
          refine (hpl).mono ?_
          rintro e w3 ⟨rfl, b3⟩
          have B3 := hbr.trans (b3.mono hbr.size)
          go_wp2
          go_roundw
          case rel => exact ⟨k + 1, by go_num, by rw [HT.out], by omega, B3⟩
          case measure => simp [intOf]; omega
      · have hkx : k = xs.length := by omega
        have hlen : (strOfNums ((xs.take k).flatMap partL)).size ≤ 30000 := by
          rw [strOf_size]
          have := part_flat_len xs k
          omega
        have HT : Hid (strOfNums (numL 101) ++ strOfNums ((xs.take k).flatMap partL) = strOfNums (numL 101 ++ xs.flatMap partL)) := by
          show _ = _
          rw [hkx, List.take_length, nums_two]
        clear hkx
        generalize strOfNums ((xs.take k).flatMap partL) = O at *
        generalize strOfNums (numL 101) = NS at *
        go_wp2_with (go_at_call 44; fail)
        refine (hnm _).mono ?_
        rintro e w' ⟨rfl, rfl⟩
        go_wp2
        go_ret
        exact ⟨congrArg (fun l => Ending.returned (.string l)) HT.out, B2.trans (hbr.mono B2.size)⟩
  · have z1 : (((s[0]'h0).toNat : Int) == 101) = false := by rw [e1]; rfl
    have z2 : (((s[0]'h0).toNat : Int) == 69) = true := by rw [e1]; rfl
    rw [e1] at hnm hnsz ⊢
    go_enter Tryz.func52, Tryz.ntmps52
    go_wp2_with (go_at_call 35; fail)
    refine (hru).mono ?_
    rintro e w2 ⟨u, rfl, hown, hb2⟩
    have hrow := RowAt.own hown
    have B2 : Below w.heap.size w w2 := hB.trans (hb2.mono hB.size)
    obtain ⟨a, c2, rfl, hc2, hcs⟩ := hrow
    clear hown hru
    go_wp2
    go_loopw [3, 25] (fun o i wr => ∃ k : Nat, i = .int .i64 k ∧ o = .string (strOfNums ((xs.take k).flatMap partL)) ∧ k ≤ xs.length ∧ Below w2.heap.size w2 wr) (fun _ i _ => xs.length + 1 - (intOf i).toNat)
    case atStart => exact ⟨0, rfl, rfl, Nat.zero_le _, Below.refl _ w2⟩
    case round =>
      obtain ⟨k, rfl, rfl, hk, hbr⟩ := hrel
      by_cases hlt : k < xs.length
      · obtain ⟨gb, off, rfl, hcell⟩ := hcs (by omega)
        have hc0 := (hbr.cell (World.block_lt_of_cell? w2 _ (hcell k hlt))).trans (hcell k hlt)
        have hic : IsChar (xs.getD k 0) := hch _ (by simp [List.getD, hlt])
        have HT : Hid (strOfNums ((xs.take (k + 1)).flatMap partL) = strOfNums ((xs.take k).flatMap partL) ++ strOfNums (partL (xs.getD k 0))) := by
          show _ = _
          rw [flat_take partL hlt, nums_two]
        have hlen : (strOfNums ((xs.take k).flatMap partL)).size ≤ 30000 := by
          rw [strOf_size]
          have := part_flat_len xs k
          omega
        have hpl := plain_any (xs.getD k 0) hic wr
        generalize xs.getD k 0 = c at *
        generalize strOfNums ((xs.take k).flatMap partL) = O at *
        have hps : (strOfNums (partL c)).size ≤ 5 := by rw [strOf_size]; exact partL_len c
        by_cases hp : plainL c = []
        · obtain ⟨y1, y2⟩ := (str_nil (l := plainL c)).1 hp
          obtain ⟨_, _, e3⟩ := plain_none hp
          have HP : Hid (strOfNums (partL c) = ⟨#[92]⟩ ++ strOfNums (Lib.encodeRuneZ c)) := by
            show _ = _
            rw [e3]
            unfold slashL
            rw [nums_two]
            rfl
          have hes : (strOfNums (Lib.encodeRuneZ c)).size ≤ 4 := by
            rw [strOf_size]
            have := Lib.encodeRuneZ_length c
            omega
          have hcv1 := fun w' => conv_one w' c hic
          generalize strOfNums (Lib.encodeRuneZ c) = E at *
          generalize strOfNums (partL c) = PP at *
          generalize strOfNums (plainL c) = PL at *
          clear hp e3 hcell hcs hch hic
          go_wp2_with (go_at_call 42; fail)
          refine (hpl).mono ?_
          rintro e w3 ⟨rfl, b3⟩
          have hcv2 := hcv1 w3
          have B3 := hbr.trans (b3.mono hbr.size)
          have hal := B3.alloc B3.size (.cells #[.int .i32 c] 21)
          clear hcv1
          go_wp2
          go_roundw
          case rel => exact ⟨k + 1, by go_num, by rw [HT.out, HP.out], by omega, hal⟩
          case measure => simp [intOf]; omega
        · obtain ⟨y1, y2⟩ := (str_nil (l := plainL c)).2 hp
          have e3 := plain_some hic.1 hp
          rw [e3] at HT hps
          generalize strOfNums (plainL c) = PL at *
          clear hp e3 hcell hcs hch hic
          go_wp2_with (go_at_call 42; fail)
          refine (hpl).mono ?_
          rintro e w3 ⟨rfl, b3⟩
          have B3 := hbr.trans (b3.mono hbr.size)
          go_wp2
          go_roundw
          case rel => exact ⟨k + 1, by go_num, by rw [HT.out], by omega, B3⟩
          case measure => simp [intOf]; omega
      · have hkx : k = xs.length := by omega
        have hlen : (strOfNums ((xs.take k).flatMap partL)).size ≤ 30000 := by
          rw [strOf_size]
          have := part_flat_len xs k
          omega
        have HT : Hid (strOfNums (numL 69) ++ strOfNums ((xs.take k).flatMap partL) = strOfNums (numL 69 ++ xs.flatMap partL)) := by
          show _ = _
          rw [hkx, List.take_length, nums_two]
        clear hkx
        generalize strOfNums ((xs.take k).flatMap partL) = O at *
        generalize strOfNums (numL 69) = NS at *
        go_wp2_with (go_at_call 44; fail)
        refine (hnm _).mono ?_
        rintro e w' ⟨rfl, rfl⟩
        go_wp2
        go_ret
        exact ⟨congrArg (fun l => Ending.returned (.string l)) HT.out, B2.trans (hbr.mono B2.size)⟩

theorem eB_at (s : ByteArray) (h0 : 0 < s.size) : eB s = ((s[0]'h0).toNat == 101 || (s[0]'h0).toNat == 69) := by
  have hget : s.get! 0 = s[0]'h0 := by
    show s.data[0]! = s.data[0]
    rw [getElem!_pos s.data 0 h0]
  unfold eB
  rw [hget]
  simp [h0]
set_option maxHeartbeats 1000000 in
set_option maxRecDepth 100000 in
theorem runit_any (s : ByteArray) (hs : s.size ≤ 5000) (w : World) :
    Calls Tryz.prog 52 #[.string s] w fun e w' => e = .returned (.string (strOfNums (unitL s))) ∧ Below w.heap.size w w' := by
  have hes := rescape_any s hs w
  by_cases h0 : 0 < s.size
  · have heb := eB_at s h0
    by_cases he : (s[0]'h0).toNat = 101 ∨ (s[0]'h0).toNat = 69
    · have hget : s.get! 0 = s[0]'h0 := by
        show s.data[0]! = s.data[0]
        rw [getElem!_pos s.data 0 h0]
      have e2 : unitL s = numL ((s[0]'h0).toNat : Int) ++ partsL (s.extract 1 s.size) := by
        unfold unitL
        rw [heb, if_pos (by simpa using he), hget]
      rw [e2]
      exact runit_e s hs h0 (by omega) w
    · have e2 : unitL s = escL s := by
        unfold unitL
        rw [heb, if_neg (by simpa using he)]
      rw [e2]
      have z1 : (((s[0]'h0).toNat : Int) == 101) = false := by simp; omega
      have z2 : (((s[0]'h0).toNat : Int) == 69) = false := by simp; omega
      generalize strOfNums (escL s) = E at *
      clear e2 he heb
      go_enter Tryz.func52, Tryz.ntmps52
      go_wp2_with (go_at_call 14; fail)
      refine (hes).mono ?_
      rintro e w' ⟨rfl, hb⟩
      go_wp2
      go_ret
      exact ⟨rfl, hb⟩
  · have hz : s.size = 0 := by omega
    have e2 : unitL s = escL s := by
      unfold unitL eB
      simp [h0]
    rw [e2]
    generalize strOfNums (escL s) = E at *
    clear e2
    go_enter Tryz.func52, Tryz.ntmps52
    go_wp2_with (go_at_call 14; fail)
    refine (hes).mono ?_
    rintro e w' ⟨rfl, hb⟩
    go_wp2
    go_ret
    exact ⟨rfl, hb⟩

end Go.Proofs.YtbfgnfcecfjlnaaGreatDoor
