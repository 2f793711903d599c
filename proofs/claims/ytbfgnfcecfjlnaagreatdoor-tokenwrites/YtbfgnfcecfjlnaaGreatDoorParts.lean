/- What the writer writes of one character: with a backslash, unseen, as within a name. -/
import Derived.Test.YtbfgnfcecfjlnaaGreatDoorWrAll
namespace Go.Proofs.YtbfgnfcecfjlnaaGreatDoor
open Go.RowKit
set_option maxRecDepth 100000

def slashL (c : Int) : List Int := [92] ++ Lib.encodeRuneZ c
def unseenB (c : Int) : Bool := c == 0 || (decide (1 ≤ c) && decide (c ≤ 31)) || c == 127
def unseenL (c : Int) : List Int := if c = 0 then Lib.encodeRuneZ 65533 else if unseenB c then numL c else []
def partL (c : Int) : List Int := if unseenB c then unseenL c else if partZ c then Lib.encodeRuneZ c else slashL c
theorem Calls.empty_app (ns : List Int) : ns ++ [] = ns := by simp

theorem slashed_k (b : Nat) (ns : List Int) (c : Int) (hc : IsChar c) (w : World) (h : Wr b ns w) (hlen : ns.length ≤ 100000000000) :
    Calls Tryz.prog 85 #[.pointer (some ⟨b, 0, none⟩), .int .i32 c] w fun e w' => e = .returned (.tuple #[]) ∧ Wr b (ns ++ slashL c) w' ∧ Below b w w' ∧ Lib.OthersKept 5 (some b) w w' := by
  have hc32 := char_32 hc
  have HL : Hid (ns ++ slashL c = ns ++ [92] ++ Lib.encodeRuneZ c) := by show _ = _; unfold slashL; simp
  go_enter Tryz.func85, Tryz.ntmps85
  go_wp2_with (go_at_call 46; fail)
  refine (wr_byte_k b ns 92 (by omega) w h (by omega)).mono ?_
  rintro e w1 ⟨rfl, h1, b1, k1⟩
  have hr := wr_rune_k b (ns ++ [92]) c hc32.1 hc32.2 w1 h1 (by simp; omega)
  go_wp2_with (go_at_call 61; fail)
  refine (hr).mono ?_
  rintro e w2 ⟨⟨rn, rfl⟩, h2, b2, k2⟩
  go_wp2
  go_end0
  exact ⟨rfl, by rw [HL.out]; exact h2, b1.trans b2, k1.trans k2⟩

set_option maxHeartbeats 1000000 in
theorem unseen_k (b : Nat) (ns : List Int) (c : Int) (hc : IsChar c) (w : World) (h : Wr b ns w) (ht : Tab w) (h3 : 3 < b) (hlen : ns.length ≤ 100000000000) :
    Calls Tryz.prog 89 #[.pointer (some ⟨b, 0, none⟩), .int .i32 c] w fun e w' => e = .returned (.bool (unseenB c)) ∧ Wr b (ns ++ unseenL c) w' ∧ Below b w w' ∧ Lib.OthersKept 5 (some b) w w' := by
  by_cases h0 : c = 0
  · subst h0
    have HL : Hid (unseenL 0 = Lib.encodeRuneZ 65533) := rfl
    have hr := wr_rune_k b ns 65533 (by omega) (by omega) w h (by omega)
    go_enter Tryz.func89, Tryz.ntmps89
    go_wp2_with (go_at_call 61; fail)
    refine (hr).mono ?_
    rintro e w2 ⟨⟨rn, rfl⟩, h2, b2, k2⟩
    go_wp2
    go_ret
    exact ⟨rfl, by rw [HL.out]; exact h2, b2, k2⟩
  · have e0 : (c == 0) = false := by simpa using h0
    have hcp : 0 ≤ c := hc.1
    by_cases h31 : c ≤ 31
    · have HU : Hid (unseenB c = true) := by show unseenB c = true; unfold unseenB; simp; omega
      have HL : Hid (unseenL c = numL c) := by show unseenL c = _; unfold unseenL; rw [if_neg h0, if_pos HU.out]
      have hr := number_k b ns c hcp (by omega) w h ht h3 hlen
      have h1 : 1 ≤ c := by omega
      go_enter Tryz.func89, Tryz.ntmps89
      go_wp2_with (go_at_call 86; fail)
      refine (hr).mono ?_
      rintro e w2 ⟨rfl, h2, b2, k2⟩
      go_wp2
      go_ret
      exact ⟨by rw [HU.out]; rfl, by rw [HL.out]; exact h2, b2, k2⟩
    · by_cases h127 : c = 127
      · subst h127
        have HU : Hid (unseenB 127 = true) := by show unseenB 127 = true; decide
        have HL : Hid (unseenL 127 = numL 127) := by show unseenL 127 = _; unfold unseenL; rw [if_neg (by decide), if_pos HU.out]
        have hr := number_k b ns 127 (by omega) (by omega) w h ht h3 hlen
        go_enter Tryz.func89, Tryz.ntmps89
        go_wp2_with (go_at_call 86; fail)
        refine (hr).mono ?_
        rintro e w2 ⟨rfl, h2, b2, k2⟩
        go_wp2
        go_ret
        exact ⟨by rw [HU.out]; rfl, by rw [HL.out]; exact h2, b2, k2⟩
      · have e127 : (c == 127) = false := by simpa using h127
        have e31 : decide (c ≤ 31) = false := by simpa using h31
        have HU : Hid (unseenB c = false) := by show unseenB c = false; unfold unseenB; rw [e0, e31, e127]; simp
        have HL : Hid (ns ++ unseenL c = ns) := by show _ = _; unfold unseenL; rw [if_neg h0, if_neg (by rw [HU.out]; simp)]; simp
        have h1 : 1 ≤ c := by omega
        go_enter Tryz.func89, Tryz.ntmps89
        go_wp2
        go_ret
        exact ⟨ret_bool (by rw [HU.out]), by rw [HL.out]; exact h, Below.refl b w, Lib.OthersKept.refl _ _ w⟩

theorem enc_of_part (c : Int) (ns : List Int) (hu : unseenB c = false) : ns ++ unseenL c = ns := by
  unfold unseenL
  have h0 : c ≠ 0 := by intro e; rw [e] at hu; exact absurd hu (by decide)
  rw [if_neg h0, if_neg (by simp [hu])]
  simp

set_option maxHeartbeats 1000000 in
theorem part_k (b : Nat) (ns : List Int) (c : Int) (hc : IsChar c) (w : World) (h : Wr b ns w) (ht : Tab w) (h3 : 3 < b) (hlen : ns.length ≤ 100000000000) :
    Calls Tryz.prog 87 #[.pointer (some ⟨b, 0, none⟩), .int .i32 c] w fun e w' => e = .returned (.tuple #[]) ∧ Wr b (ns ++ partL c) w' ∧ Below b w w' ∧ Lib.OthersKept 5 (some b) w w' := by
  have hc32 := char_32 hc
  have hun := unseen_k b ns c hc w h ht h3 hlen
  cases hu : unseenB c
  · rw [hu, enc_of_part c ns hu] at hun
    cases hp : partZ c
    · have HL : Hid (partL c = slashL c) := by show partL c = _; unfold partL; rw [hu, hp]; rfl
      go_enter Tryz.func87, Tryz.ntmps87
      go_wp2_with (go_at_call 89; fail)
      refine (hun).mono ?_
      rintro e w1 ⟨rfl, h1, b1, k1⟩
      go_wp2_with (go_at_call 62; fail)
      refine (part_any _ _).mono ?_
      rintro e w' ⟨rfl, rfl⟩
      go_wp2_with (go_at_call 85; fail)
      refine (slashed_k b ns c hc w1 h1 hlen).mono ?_
      rintro e w2 ⟨rfl, h2, b2, k2⟩
      go_wp2
      go_end0
      exact ⟨rfl, by rw [HL.out]; exact h2, b1.trans b2, k1.trans k2⟩
    · have HL : Hid (partL c = Lib.encodeRuneZ c) := by show partL c = _; unfold partL; rw [hu, hp]; rfl
      go_enter Tryz.func87, Tryz.ntmps87
      go_wp2_with (go_at_call 89; fail)
      refine (hun).mono ?_
      rintro e w1 ⟨rfl, h1, b1, k1⟩
      go_wp2_with (go_at_call 62; fail)
      refine (part_any _ _).mono ?_
      rintro e w' ⟨rfl, rfl⟩
      have hr := wr_rune_k b ns c hc32.1 hc32.2 w1 h1 (by omega)
      go_wp2_with (go_at_call 61; fail)
      refine (hr).mono ?_
      rintro e w2 ⟨⟨rn, rfl⟩, h2, b2, k2⟩
      go_wp2
      go_end0
      exact ⟨rfl, by rw [HL.out]; exact h2, b1.trans b2, k1.trans k2⟩
  · rw [hu] at hun
    have HL : Hid (partL c = unseenL c) := by show partL c = _; unfold partL; rw [hu]; rfl
    go_enter Tryz.func87, Tryz.ntmps87
    go_wp2_with (go_at_call 89; fail)
    refine (hun).mono ?_
    rintro e w1 ⟨rfl, h1, b1, k1⟩
    go_wp2
    go_end0
    exact ⟨rfl, by rw [HL.out]; exact h1, b1, k1⟩
end Go.Proofs.YtbfgnfcecfjlnaaGreatDoor
