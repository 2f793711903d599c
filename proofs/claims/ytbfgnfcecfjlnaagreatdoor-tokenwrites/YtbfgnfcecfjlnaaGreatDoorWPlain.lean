/- The document's writing of one character: numbered, plain. -/
import Derived.Test.YtbfgnfcecfjlnaaGreatDoorAlike
import Derived.Test.YtbfgnfcecfjlnaaGreatDoorRRunes
import Derived.Test.YtbfgnfcecfjlnaaGreatDoorRKindsFold
import Derived.Test.YtbfgnfcecfjlnaaGreatDoorRRefPlain
import Derived.Laws.Cover4
namespace Go.Proofs.YtbfgnfcecfjlnaaGreatDoor
open Go.RowKit

def hexT : ByteArray := ⟨#[48, 49, 50, 51, 52, 53, 54, 55, 56, 57, 97, 98, 99, 100, 101, 102]⟩
theorem hexT_at : ∀ m : Fin 16, hexT.extract m.val (m.val + 1) = strOfNums [digZ m.val] := by decide +kernel
theorem nums_cons (c : Int) (l : List Int) : strOfNums [c] ++ strOfNums l = strOfNums (c :: l) := by rw [← nums_two]; rfl
def NumGo (n : Nat) (a b : Value) : Prop := (a = .int .i32 n ∧ b = .string (strOfNums [])) ∨ (16 ≤ n ∧ a = .int .i32 ((n / 16 : Nat) : Int) ∧ b = .string (strOfNums [digZ (n % 16)]))

set_option maxHeartbeats 1000000 in
set_option maxRecDepth 100000 in
theorem rnumbered_any (n : Nat) (hn : n < 128) (w : World) : Calls Tryz.prog 44 #[.int .i32 n] w fun e w' => e = .returned (.string (strOfNums (numL n))) ∧ w = w' := by
  have HL : Hid (strOfNums (numL n) = ⟨#[92]⟩ ++ strOfNums (hexL n) ++ ⟨#[32]⟩) := by
    show _ = _
    unfold numL
    rw [nums_two, nums_two, Int.toNat_natCast]
    rfl
  go_enter Tryz.func44, Tryz.ntmps44
  go_wp2
  go_loop [0, 3] (fun a b => NumGo n a b) (fun a _ => (intOf a).toNat)
  case atStart => exact .inl ⟨rfl, rfl⟩
  case round =>
    rcases hrel with ⟨rfl, rfl⟩ | ⟨h16, rfl, rfl⟩
    · have HX : Hid (hexT.extract (n % 16) (n % 16 + 1) ++ strOfNums [] = strOfNums [digZ (n % 16)]) := by
        show _ = _
        have := hexT_at ⟨n % 16, by omega⟩
        rw [this]
        exact (nums_two [digZ (n % 16)] []).symm
      have hse : (hexT.extract (n % 16) (n % 16 + 1)).size ≤ 1 := by simp; omega
      have hs0 : (strOfNums []).size = 0 := rfl
      generalize strOfNums [] = S0 at *
      unfold hexT at HX hse
      by_cases hz : n / 16 = 0
      · have z1 : ((n : Int) / 16 == 0) = true := by
          have : (n : Int) / 16 = 0 := by omega
          rw [this]; rfl
        have HE : Hid (hexL n = [digZ (n % 16)]) := by
          show _ = _
          unfold hexL
          rw [if_pos (by omega), Nat.mod_eq_of_lt (by omega)]
        go_wp2
        go_ret
        exact ⟨by rw [HL.out, HE.out, ← HX.out]; rfl, rfl⟩
      · have z1 : ((n : Int) / 16 == 0) = false := by
          have : (n : Int) / 16 ≠ 0 := by omega
          simpa using this
        go_wp2
        go_round
        case rel => exact .inr ⟨by omega, by go_num, congrArg Value.string HX.out⟩
        case measure => simp [intOf]; omega
    · have HX : Hid (hexT.extract (n / 16 % 16) (n / 16 % 16 + 1) ++ strOfNums [digZ (n % 16)] = strOfNums (hexL n)) := by
        show _ = _
        have := hexT_at ⟨n / 16 % 16, by omega⟩
        rw [this, nums_cons]
        unfold hexL
        rw [if_neg (by omega)]
        show strOfNums [digZ (n / 16 % 16), digZ (n % 16)] = _
        rw [Nat.mod_eq_of_lt (show n / 16 < 16 by omega)]
      have hse : (hexT.extract (n / 16 % 16) (n / 16 % 16 + 1)).size ≤ 1 := by simp; omega
      have hs1 : (strOfNums [digZ (n % 16)]).size = 1 := strOf_size _
      unfold hexT at HX hse
      have z1 : (((n / 16 : Nat) : Int) / 16 == 0) = true := by
        have : ((n / 16 : Nat) : Int) / 16 = 0 := by omega
        rw [this]; rfl
      generalize strOfNums [digZ (n % 16)] = S1 at *
      generalize hm : n / 16 = m at *
      go_wp2
      go_ret
      exact ⟨by rw [HL.out, ← HX.out]; rfl, rfl⟩

theorem strT_one (c : Int) : strT [c] = strOfNums (Lib.encodeRuneZ c) := by
  unfold strT bytesZ
  simp
theorem conv_one (w : World) (c : Int) (hc : IsChar c) : (convert 27 9 (.slice (some ⟨w.heap.size, 0, none⟩) 1 1)).run Tryz.prog (w.alloc (.cells #[.int .i32 c] 21)) = .ok (.string (strOfNums (Lib.encodeRuneZ c))) (w.alloc (.cells #[.int .i32 c] 21)) := by
  rw [← strT_one]
  refine R2.conv_runes (xs := [c]) ⟨some ⟨w.heap.size, 0, none⟩, 1, rfl, Nat.le_refl _, fun _ => ⟨w.heap.size, 0, rfl, ?_⟩⟩ ?_
  · intro j hj
    have h0 : j = 0 := by simp at hj; omega
    subst h0
    simp only [World.cell?, heap_alloc_new]
    rfl
  · intro x hx
    simp at hx
    rw [hx]
    exact hc
def plainL (c : Int) : List Int := if c = 0 then Lib.encodeRuneZ 65533 else if c < 32 ∨ c = 127 then numL c else if partZ c then Lib.encodeRuneZ c else []

set_option maxHeartbeats 1000000 in
set_option maxRecDepth 100000 in
theorem plain_any (c : Int) (hc : IsChar c) (w : World) : Calls Tryz.prog 42 #[.int .i32 c] w fun e w' => e = .returned (.string (strOfNums (plainL c))) ∧ Below w.heap.size w w' := by
  have hB : Below w.heap.size w w := Below.refl _ w
  have hal : ∀ o, Below w.heap.size w (w.alloc o) := fun o => hB.alloc (Nat.le_refl _) o
  obtain ⟨c0, c1, c2⟩ := hc
  by_cases h0 : c = 0
  · subst h0
    have hv := conv_one w 65533 ⟨by omega, by omega, by omega⟩
    have e1 : plainL 0 = Lib.encodeRuneZ 65533 := rfl
    rw [e1]
    generalize strOfNums (Lib.encodeRuneZ 65533) = S at *
    go_enter Tryz.func42, Tryz.ntmps42
    go_wp2
    go_ret
    exact ⟨rfl, hal _⟩
  · have z0 : (c == 0) = false := by simpa using h0
    by_cases h1 : c < 32 ∨ c = 127
    · have e1 : plainL c = numL c := by unfold plainL; rw [if_neg h0, if_pos h1]
      rw [e1]
      obtain ⟨n, rfl⟩ : ∃ n : Nat, c = (n : Int) := ⟨c.toNat, by omega⟩
      have hn := fun w => rnumbered_any n (by omega) w
      generalize strOfNums (numL (n : Int)) = S at *
      clear h0 e1
      rcases h1 with h1 | h1
      · go_enter Tryz.func42, Tryz.ntmps42
        go_wp2_with (go_at_call 44; fail)
        refine (hn _).mono ?_
        rintro e w' ⟨rfl, rfl⟩
        go_wp2
        go_ret
        exact ⟨rfl, hB⟩
      · have e127 : n = 127 := by omega
        subst e127
        have hn7 : ∀ w, Calls Tryz.prog 44 #[.int .i32 127] w fun e w' => e = .returned (.string S) ∧ w = w' := hn
        have z7 : (((127 : Nat) : Int)) = 127 := rfl
        rw [z7] at z0 ⊢
        clear hn z0 c0 c1 c2 h1 z7
        go_enter Tryz.func42, Tryz.ntmps42
        go_wp2_with (go_at_call 44; fail)
        refine (hn7 _).mono ?_
        rintro e w' ⟨rfl, rfl⟩
        go_wp2
        go_ret
        exact ⟨rfl, hB⟩
    · have z2 : ¬ (c < 32) := by omega
      have z1 : (c == 127) = false := by simp; omega
      have hp := fun w => R2.refPart_any c w
      have hv := conv_one w c ⟨c0, c1, c2⟩
      cases hpz : partZ c
      · have e1 : plainL c = [] := by unfold plainL; rw [if_neg h0, if_neg h1, hpz]; rfl
        rw [e1]
        rw [hpz] at hp
        clear h0 h1 e1 hpz hv
        go_enter Tryz.func42, Tryz.ntmps42
        go_wp2_with (go_at_call 88; fail)
        refine (hp _).mono ?_
        rintro e w' ⟨rfl, rfl⟩
        go_wp2
        go_ret
        exact ⟨rfl, hB⟩
      · have e1 : plainL c = Lib.encodeRuneZ c := by unfold plainL; rw [if_neg h0, if_neg h1, hpz]; rfl
        rw [e1]
        rw [hpz] at hp
        generalize strOfNums (Lib.encodeRuneZ c) = S at *
        clear h0 h1 e1 hpz
        go_enter Tryz.func42, Tryz.ntmps42
        go_wp2_with (go_at_call 88; fail)
        refine (hp _).mono ?_
        rintro e w' ⟨rfl, rfl⟩
        go_wp2
        go_ret
        exact ⟨rfl, hal _⟩

end Go.Proofs.YtbfgnfcecfjlnaaGreatDoor
