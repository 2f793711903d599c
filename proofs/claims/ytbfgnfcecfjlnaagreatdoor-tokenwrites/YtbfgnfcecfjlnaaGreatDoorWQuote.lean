/- The document's Quote. -/
import Derived.Test.YtbfgnfcecfjlnaaGreatDoorWHash
namespace Go.Proofs.YtbfgnfcecfjlnaaGreatDoor
open Go.RowKit

theorem quo_flat_len (xs : List Int) (k : Nat) : ((xs.take k).flatMap quoPartL).length ≤ 5 * xs.length := by
  have h1 := flat_len quoPartL 5 quoPartL_len (xs.take k)
  have h2 : (xs.take k).length ≤ xs.length := by rw [List.length_take]; omega
  omega
theorem quo_unseen {c : Int} (hc : 0 ≤ c) (h : c = 0 ∨ c < 32 ∨ c = 127) : quoPartL c = plainL c := by
  have hu : unseenB c = true := by
    unfold unseenB
    simp
    omega
  unfold quoPartL plainL unseenL
  rw [hu]
  by_cases h0 : c = 0
  · simp [h0]
  · have h1 : c < 32 ∨ c = 127 := by omega
    simp [h0, h1]
theorem quo_slashed {c : Int} (h : c = 34 ∨ c = 92) : quoPartL c = slashL c := by
  have hu : unseenB c = false := by
    unfold unseenB
    simp
    omega
  unfold quoPartL
  rw [hu, if_pos h]
  rfl
theorem quo_plain {c : Int} (h : ¬ (c = 0 ∨ c < 32 ∨ c = 127)) (h2 : ¬ (c = 34 ∨ c = 92)) : quoPartL c = Lib.encodeRuneZ c := by
  have hu : unseenB c = false := by
    unfold unseenB
    simp
    omega
  unfold quoPartL
  rw [hu, if_neg h2]
  rfl

set_option maxHeartbeats 1000000 in
set_option maxRecDepth 100000 in
theorem rquote_any (s : ByteArray) (hs : s.size ≤ 5000) (w : World) : Calls Tryz.prog 16 #[.string s] w fun e w' => e = .returned (.string (strOfNums (quoL s))) ∧ Below w.heap.size w w' := by
  obtain ⟨g, cap, W, hcv, hcap, hg, hcell, _, hB⟩ := bytesOf s w
  have hba : BytesAt W (.slice (some ⟨g, 0, none⟩) s.size cap) s := ⟨_, _, rfl, hcap, fun _ => ⟨g, 0, rfl, fun j hj => by simpa using hcell j hj⟩⟩
  have hru := R2.chars_any _ s W (by omega) hba
  have hch : ∀ c ∈ chars s, IsChar c := chars_char s s.size 0
  have hcn : (chars s).length ≤ s.size := charsFrom_len s s.size 0
  clear hcell hba
  unfold quoL
  generalize chars s = xs at *
  go_enter Tryz.func16, Tryz.ntmps16
  go_wp2_with (go_at_call 35; fail)
  refine (hru).mono ?_
  rintro e w2 ⟨u, rfl, hown, hb2⟩
  have hrow := RowAt.own hown
  have B2 : Below w.heap.size w w2 := hB.trans (hb2.mono hB.size)
  obtain ⟨a, c2, rfl, hc2, hcs⟩ := hrow
  clear hown hru
  go_wp2
  go_loopw [3, 10] (fun o i wr => ∃ k : Nat, i = .int .i64 k ∧ o = .string (strOfNums ([34] ++ (xs.take k).flatMap quoPartL)) ∧ k ≤ xs.length ∧ Below w2.heap.size w2 wr) (fun _ i _ => xs.length + 1 - (intOf i).toNat)
  case atStart => exact ⟨0, rfl, rfl, Nat.zero_le _, Below.refl _ w2⟩
  case round =>
    obtain ⟨k, rfl, rfl, hk, hbr⟩ := hrel
    have hlen : (strOfNums ([34] ++ (xs.take k).flatMap quoPartL)).size ≤ 30000 := by
      rw [strOf_size, List.length_append]
      have := quo_flat_len xs k
      simp only [List.length_cons, List.length_nil]
      omega
    by_cases hlt : k < xs.length
    · obtain ⟨gb, off, rfl, hcell⟩ := hcs (by omega)
      have hc0 := (hbr.cell (World.block_lt_of_cell? w2 _ (hcell k hlt))).trans (hcell k hlt)
      have hic : IsChar (xs.getD k 0) := hch _ (by simp [List.getD, hlt])
      have HT : Hid (strOfNums ([34] ++ (xs.take (k + 1)).flatMap quoPartL) = strOfNums ([34] ++ (xs.take k).flatMap quoPartL) ++ strOfNums (quoPartL (xs.getD k 0))) := by
        show _ = _
        rw [flat_take quoPartL hlt, ← List.append_assoc, nums_two]
      have hpl := plain_any (xs.getD k 0) hic wr
      generalize xs.getD k 0 = c at *
      generalize strOfNums ([34] ++ (xs.take k).flatMap quoPartL) = O at *
      have hps : (strOfNums (quoPartL c)).size ≤ 5 := by rw [strOf_size]; exact quoPartL_len c
      have hes : (strOfNums (Lib.encodeRuneZ c)).size ≤ 4 := by
        rw [strOf_size]
        have := Lib.encodeRuneZ_length c
        omega
      have hcv1 := conv_one wr c hic
      have hal := hbr.alloc hbr.size (.cells #[.int .i32 c] 21)
      by_cases hp : c = 0 ∨ c < 32 ∨ c = 127
      · have e3 := quo_unseen hic.1 hp
        rw [e3] at HT hps
        generalize strOfNums (plainL c) = PL at *
        generalize strOfNums (Lib.encodeRuneZ c) = E at *
        have hn0 := hic.1
        clear e3 hcell hcs hch hic hcv1 hal hes
        have key : ∀ w3, Below wr.heap.size wr w3 → Below w2.heap.size w2 w3 := fun w3 b3 => hbr.trans (b3.mono hbr.size)
        by_cases p0 : c = 0
        · subst p0
          go_wp2_with (go_at_call 42; fail)
          refine (hpl).mono ?_
          rintro e w3 ⟨rfl, b3⟩
          have B3 := key w3 b3
          go_wp2
          go_roundw
          case rel => exact ⟨k + 1, by go_num, by rw [HT.out], by omega, B3⟩
          case measure => simp [intOf]; omega
        · have z0 : (c == 0) = false := by simpa using p0
          by_cases p1 : c < 32
          · clear p0 hp
            go_wp2_with (go_at_call 42; fail)
            refine (hpl).mono ?_
            rintro e w3 ⟨rfl, b3⟩
            have B3 := key w3 b3
            go_wp2
            go_roundw
            case rel => exact ⟨k + 1, by go_num, by rw [HT.out], by omega, B3⟩
            case measure => simp [intOf]; omega
          · have p2 : c = 127 := by omega
            subst p2
            clear p0 p1 hp z0 hn0
            go_wp2_with (go_at_call 42; fail)
            refine (hpl).mono ?_
            rintro e w3 ⟨rfl, b3⟩
            have B3 := key w3 b3
            go_wp2
            go_roundw
            case rel => exact ⟨k + 1, by go_num, by rw [HT.out], by omega, B3⟩
            case measure => simp [intOf]; omega
      · have z0 : (c == 0) = false := by simp; omega
        have z1 : ¬ (c < 32) := by omega
        have z2 : (c == 127) = false := by simp; omega
        by_cases h2 : c = 34 ∨ c = 92
        · have e3 := quo_slashed h2
          have HP : Hid (strOfNums (quoPartL c) = ⟨#[92]⟩ ++ strOfNums (Lib.encodeRuneZ c)) := by
            show _ = _
            rw [e3]
            unfold slashL
            rw [nums_two]
            rfl
          generalize strOfNums (Lib.encodeRuneZ c) = E at *
          generalize strOfNums (quoPartL c) = PP at *
          clear e3 hcell hcs hch hic hpl hp
          rcases h2 with rfl | rfl
          all_goals
            clear z0 z1 z2
            go_wp2
            go_roundw
            case rel => exact ⟨k + 1, by go_num, by rw [HT.out, HP.out], by omega, hal⟩
            case measure => simp [intOf]; omega
        · have e3 := quo_plain hp h2
          rw [e3] at HT hps
          have z3 : (c == 34) = false := by simp; omega
          have z4 : (c == 92) = false := by simp; omega
          generalize strOfNums (Lib.encodeRuneZ c) = E at *
          clear e3 hcell hcs hch hic hpl hp h2
          go_wp2
          go_roundw
          case rel => exact ⟨k + 1, by go_num, by rw [HT.out], by omega, hal⟩
          case measure => simp [intOf]; omega
    · have hkx : k = xs.length := by omega
      have HT : Hid (strOfNums ([34] ++ (xs.take k).flatMap quoPartL) ++ ⟨#[34]⟩ = strOfNums ([34] ++ (xs.flatMap quoPartL ++ [34]))) := by
        show _ = _
        rw [hkx, List.take_length, ← List.append_assoc, nums_two ([34] ++ xs.flatMap quoPartL) [34]]
        rfl
      clear hkx
      generalize strOfNums ([34] ++ (xs.take k).flatMap quoPartL) = O at *
      go_wp2
      go_ret
      exact ⟨congrArg (fun l => Ending.returned (.string l)) HT.out, B2.trans (hbr.mono B2.size)⟩

end Go.Proofs.YtbfgnfcecfjlnaaGreatDoor
