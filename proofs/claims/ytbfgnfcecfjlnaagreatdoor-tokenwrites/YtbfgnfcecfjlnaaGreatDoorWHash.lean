/- The document's writing of a Hash that is no name. -/
import Derived.Test.YtbfgnfcecfjlnaaGreatDoorWPlain
import Derived.Test.YtbfgnfcecfjlnaaGreatDoorWSources
namespace Go.Proofs.YtbfgnfcecfjlnaaGreatDoor
open Go.RowKit

theorem plain_none {c : Int} (h : plainL c = []) : unseenB c = false ∧ partZ c = false ∧ partL c = slashL c := by
  unfold plainL at h
  have hl := Lib.encodeRuneZ_length c
  by_cases h0 : c = 0
  · rw [if_pos h0] at h
    exact absurd h (by decide +kernel)
  · rw [if_neg h0] at h
    by_cases h1 : c < 32 ∨ c = 127
    · rw [if_pos h1] at h
      unfold numL at h
      simp at h
    · rw [if_neg h1] at h
      have hu : unseenB c = false := by
        unfold unseenB
        simp
        omega
      cases hp : partZ c
      · exact ⟨hu, rfl, by unfold partL; rw [hu, hp]; rfl⟩
      · rw [hp] at h
        simp only [if_true] at h
        rw [h] at hl
        simp at hl
theorem plain_some {c : Int} (hc : 0 ≤ c) (h : plainL c ≠ []) : partL c = plainL c := by
  unfold plainL at h ⊢
  by_cases h0 : c = 0
  · subst h0
    decide +kernel
  · rw [if_neg h0] at h ⊢
    by_cases h1 : c < 32 ∨ c = 127
    · rw [if_pos h1]
      have hu : unseenB c = true := by
        unfold unseenB
        simp
        omega
      unfold partL unseenL
      rw [hu, if_neg h0]
      rfl
    · rw [if_neg h1] at h ⊢
      have hu : unseenB c = false := by
        unfold unseenB
        simp
        omega
      unfold partL
      rw [hu]
      cases hp : partZ c
      · rw [hp] at h
        exact absurd rfl h
      · rfl
theorem str_nil {l : List Int} : (l = [] → (strOfNums l == ⟨#[]⟩) = true ∧ ((strOfNums l).toList == []) = true) ∧ (l ≠ [] → (strOfNums l == ⟨#[]⟩) = false ∧ ((strOfNums l).toList == []) = false) := by
  refine ⟨fun e => ?_, fun e => ?_⟩
  · subst e
    have h : ((strOfNums []).toList == []) = true := by rw [beq_iff_eq, ByteArray.toList_eq]; rfl
    exact ⟨by rw [beq_toListBytes, ByteArray.toList_eq ⟨#[]⟩]; exact h, h⟩
  · have h : ((strOfNums l).toList == []) = false := by
      rw [Bool.eq_false_iff]
      intro h
      rw [beq_iff_eq, ByteArray.toList_eq] at h
      have h2 := congrArg List.length h
      have h3 : (strOfNums l).size = 0 := by simpa using h2
      rw [strOf_size] at h3
      exact e (List.length_eq_zero_iff.1 h3)
    exact ⟨by rw [beq_toListBytes, ByteArray.toList_eq ⟨#[]⟩]; exact h, h⟩
theorem flat_take {xs : List Int} {k : Nat} (f : Int → List Int) (h : k < xs.length) : (xs.take (k + 1)).flatMap f = (xs.take k).flatMap f ++ f (xs.getD k 0) := by
  rw [List.take_add_one, List.flatMap_append]
  congr 1
  simp [List.getElem?_eq_getElem h, List.getD]
theorem flat_len (f : Int → List Int) (n : Nat) (hf : ∀ c, (f c).length ≤ n) : ∀ xs : List Int, (xs.flatMap f).length ≤ n * xs.length
  | [] => by simp
  | c :: r => by
    have := flat_len f n hf r
    have := hf c
    rw [List.flatMap_cons, List.length_append, List.length_cons, Nat.mul_add]
    omega
theorem part_flat_len (xs : List Int) (k : Nat) : ((xs.take k).flatMap partL).length ≤ 5 * xs.length := by
  have h1 := flat_len partL 5 partL_len (xs.take k)
  have h2 : (xs.take k).length ≤ xs.length := by rw [List.length_take]; omega
  omega

set_option maxHeartbeats 1000000 in
set_option maxRecDepth 100000 in
theorem rhash_any (s : ByteArray) (hs : s.size ≤ 5000) (w : World) : Calls Tryz.prog 51 #[.string s] w fun e w' => e = .returned (.string (strOfNums ([35] ++ partsL s))) ∧ Below w.heap.size w w' := by
  obtain ⟨g, cap, W, hcv, hcap, hg, hcell, _, hB⟩ := bytesOf s w
  have hba : BytesAt W (.slice (some ⟨g, 0, none⟩) s.size cap) s := ⟨_, _, rfl, hcap, fun _ => ⟨g, 0, rfl, fun j hj => by simpa using hcell j hj⟩⟩
  have hru := R2.chars_any _ s W (by omega) hba
  have hch : ∀ c ∈ chars s, IsChar c := chars_char s s.size 0
  have hcn : (chars s).length ≤ s.size := charsFrom_len s s.size 0
  clear hcell hba
  unfold partsL
  generalize chars s = xs at *
  go_enter Tryz.func51, Tryz.ntmps51
  go_wp2_with (go_at_call 35; fail)
  refine (hru).mono ?_
  rintro e w2 ⟨u, rfl, hown, hb2⟩
  have hrow := RowAt.own hown
  have B2 : Below w.heap.size w w2 := hB.trans (hb2.mono hB.size)
  obtain ⟨a, c2, rfl, hc2, hcs⟩ := hrow
  clear hown hru
  go_wp2
  go_loopw [3, 11] (fun o i wr => ∃ k : Nat, i = .int .i64 k ∧ o = .string (strOfNums ([35] ++ (xs.take k).flatMap partL)) ∧ k ≤ xs.length ∧ Below w2.heap.size w2 wr) (fun _ i _ => xs.length + 1 - (intOf i).toNat)
  case atStart => exact ⟨0, rfl, rfl, Nat.zero_le _, Below.refl _ w2⟩
  case round =>
    obtain ⟨k, rfl, rfl, hk, hbr⟩ := hrel
    by_cases hlt : k < xs.length
    · obtain ⟨gb, off, rfl, hcell⟩ := hcs (by omega)
      have hc0 := (hbr.cell (World.block_lt_of_cell? w2 _ (hcell k hlt))).trans (hcell k hlt)
      have hic : IsChar (xs.getD k 0) := hch _ (by simp [List.getD, hlt])
      have HT : Hid (strOfNums ([35] ++ (xs.take (k + 1)).flatMap partL) = strOfNums ([35] ++ (xs.take k).flatMap partL) ++ strOfNums (partL (xs.getD k 0))) := by
        show _ = _
        rw [flat_take partL hlt, ← List.append_assoc, nums_two]
      have hlen : (strOfNums ([35] ++ (xs.take k).flatMap partL)).size ≤ 30000 := by
        rw [strOf_size, List.length_append]
        have := part_flat_len xs k
        simp only [List.length_cons, List.length_nil]
        omega
      have hpl := plain_any (xs.getD k 0) hic wr
      generalize xs.getD k 0 = c at *
      generalize strOfNums ([35] ++ (xs.take k).flatMap partL) = O at *
      have hps : (strOfNums (partL c)).size ≤ 5 := by rw [strOf_size]; exact partL_len c
      by_cases hp : plainL c = []
      · obtain ⟨y1, y2⟩ := (str_nil (l := plainL c)).1 hp
        obtain ⟨_, _, e3⟩ := plain_none hp
        have HP : Hid (strOfNums (partL c) = ⟨#[92]⟩ ++ strOfNums (Lib.encodeRuneZ c)) := by
          show _ = _
          rw [e3]
          unfold slashL
          rw [nums_two]
          rfl
        have hes : (strOfNums (Lib.encodeRuneZ c)).size ≤ 4 := by
          rw [strOf_size]
          have := Lib.encodeRuneZ_length c
          omega
        have hcv1 := fun w' => conv_one w' c hic
        generalize strOfNums (Lib.encodeRuneZ c) = E at *
        generalize strOfNums (partL c) = PP at *
        generalize strOfNums (plainL c) = PL at *
        clear hp e3 hcell hcs hch hic
        go_wp2_with (go_at_call 42; fail)
        refine (hpl).mono ?_
        rintro e w3 ⟨rfl, b3⟩
        have hcv2 := hcv1 w3
        have B3 := hbr.trans (b3.mono hbr.size)
        have hal := B3.alloc B3.size (.cells #[.int .i32 c] 21)
        clear hcv1
        go_wp2
        go_roundw
        case rel => exact ⟨k + 1, by go_num, by rw [HT.out, HP.out], by omega, hal⟩
        case measure => simp [intOf]; omega
      · obtain ⟨y1, y2⟩ := (str_nil (l := plainL c)).2 hp
        have e3 := plain_some hic.1 hp
        rw [e3] at HT hps
        generalize strOfNums (plainL c) = PL at *
        clear hp e3 hcell hcs hch hic
        go_wp2_with (go_at_call 42; fail)
        refine (hpl).mono ?_
        rintro e w3 ⟨rfl, b3⟩
        have B3 := hbr.trans (b3.mono hbr.size)
        go_wp2
        go_roundw
        case rel => exact ⟨k + 1, by go_num, by rw [HT.out], by omega, B3⟩
        case measure => simp [intOf]; omega
    · have hkx : k = xs.length := by omega
      have HT : Hid (([35] ++ (xs.take k).flatMap partL) = [35] ++ xs.flatMap partL) := by
        show _ = _
        rw [hkx, List.take_length]
      clear hkx
      go_wp2
      go_ret
      exact ⟨congrArg (fun l => Ending.returned (.string (strOfNums l))) HT.out, B2.trans (hbr.mono B2.size)⟩

end Go.Proofs.YtbfgnfcecfjlnaaGreatDoor
