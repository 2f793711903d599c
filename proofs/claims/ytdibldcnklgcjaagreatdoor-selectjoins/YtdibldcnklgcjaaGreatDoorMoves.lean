/- What the cutter's calls that go on leave: blanks and digits are gone by. -/
import Derived.Test.YtdibldcnklgcjaaGreatDoorBegins
namespace Go.Proofs.YtdibldcnklgcjaaGreatDoor
open Go.RowKit
set_option maxRecDepth 100000

def posOf (w : World) (b : Nat) : Nat := match w.cell? ⟨b, 1, none⟩ with
  | some (.int _ n) => n.toNat
  | _ => 0

section
variable {w : World} {b : Nat} {v out : Value} {xs l : List Int}

theorem at_pos (h : At w b v out xs l) : xs.length - posOf w b = l.length := by
  obtain ⟨p, hb, _, _, hp, rfl⟩ := h
  have : posOf w b = p := by
    unfold posOf
    rw [(cells3 hb).2.1]
    simp
  rw [this]
  simp
theorem ahead_w (h : At w b v out xs l) (fx : Fine xs) (i : Nat) (j : Int) (hj : j = i) (hi : i ≤ 1000000000) :
    Calls Tryz.prog 46 #[.pointer (some ⟨b, 0, none⟩), .int .i64 j] w fun e w' => e = .returned (.int .i32 (hd l i)) ∧ ∃ m, w' = w.drewN m := ahead_r h fx i j hj hi 0
theorem next_r (h : At w b v out xs l) (fx : Fine xs) (c : Int) (t : List Int) (hl : l = c :: t) (n : Nat) :
    Calls Tryz.prog 49 #[.pointer (some ⟨b, 0, none⟩)] (w.drewN n) fun e w' => e = .returned (.int .i32 c) ∧ At w' b v out xs t ∧ Kept b w w' := by
  subst hl
  refine (next_any b v out xs c t _ fx (at_drew h n)).mono ?_
  rintro e w' ⟨rfl, h1, h2⟩
  exact ⟨rfl, h1, (Kept.drewN b w n).trans h2⟩

set_option maxHeartbeats 400000 in
theorem blanks_any (h : At w b v out xs l) (fx : Fine xs) :
    Calls Tryz.prog 47 #[.pointer (some ⟨b, 0, none⟩)] w fun e w' => e = .returned (.tuple #[]) ∧ At w' b v out xs (blanksR l) ∧ Kept b w w' := by
  go_enter Tryz.func47, Tryz.ntmps47
  go_wp2
  go_loopw [] (fun wr => ∃ l', At wr b v out xs l' ∧ blanksR l' = blanksR l ∧ Kept b w wr) (fun wr => xs.length - posOf wr b)
  case atStart => exact ⟨l, h, rfl, Kept.refl b w⟩
  case round =>
    obtain ⟨l', hat, heq, hk⟩ := hrel
    have HP : Hid (xs.length - posOf wr b = l'.length) := at_pos hat
    have ha := ahead_w hat fx 0 0 rfl (by omega)
    have HQ : Hid (blanksR l' = blanksR l) := heq
    clear heq h
    cases l' with
    | nil =>
      have h0 : blankZ (hd [] 0) = false := by decide
      generalize hd [] 0 = c0 at ha h0
      go_wp2_with (go_at_call 46; fail)
      refine (ha).mono ?_
      rintro e w' ⟨rfl, m, rfl⟩
      go_wp2_with (go_at_call 45; fail)
      refine (blank_any _ _).mono ?_
      rintro e w' ⟨rfl, rfl⟩
      go_wp2
      have HA := at_drew hat m
      have e0 : blanksR [] = [] := rfl
      have HQ' := HQ.out
      rw [e0] at HQ'
      rw [HQ'] at HA
      go_end0
      exact ⟨rfl, HA, hk.trans (Kept.drewN b wr m)⟩
    | cons c t =>
      have e0 : hd (c :: t) 0 = c := rfl
      rw [e0] at ha
      cases h0 : blankZ c
      · go_wp2_with (go_at_call 46; fail)
        refine (ha).mono ?_
        rintro e w' ⟨rfl, m, rfl⟩
        go_wp2_with (go_at_call 45; fail)
        refine (blank_any _ _).mono ?_
        rintro e w' ⟨rfl, rfl⟩
        go_wp2
        have HA := at_drew hat m
        have HQ' := HQ.out
        rw [blanksR, if_neg (by simp [h0])] at HQ'
        rw [HQ'] at HA
        go_end0
        exact ⟨rfl, HA, hk.trans (Kept.drewN b wr m)⟩
      · have hn := fun m => next_r hat fx c t rfl m
        go_wp2_with (go_at_call 46; fail)
        refine (ha).mono ?_
        rintro e w' ⟨rfl, m, rfl⟩
        go_wp2_with (go_at_call 45; fail)
        refine (blank_any _ _).mono ?_
        rintro e w' ⟨rfl, rfl⟩
        go_wp2_with (go_at_call 49; fail)
        refine (hn _).mono ?_
        rintro e w2 ⟨rfl, h2, k2⟩
        go_wp2
        go_roundw
        case rel =>
          have HQ' := HQ.out
          rw [blanksR, if_pos h0] at HQ'
          exact ⟨t, h2, HQ', hk.trans k2⟩
        case measure =>
          rw [HP.out, at_pos h2]
          simp

set_option maxHeartbeats 400000 in
theorem digits_any (h : At w b v out xs l) (fx : Fine xs) :
    Calls Tryz.prog 81 #[.pointer (some ⟨b, 0, none⟩)] w fun e w' => e = .returned (.tuple #[]) ∧ At w' b v out xs (digitsR l) ∧ Kept b w w' := by
  go_enter Tryz.func81, Tryz.ntmps81
  go_wp2
  go_loopw [] (fun wr => ∃ l', At wr b v out xs l' ∧ digitsR l' = digitsR l ∧ Kept b w wr) (fun wr => xs.length - posOf wr b)
  case atStart => exact ⟨l, h, rfl, Kept.refl b w⟩
  case round =>
    obtain ⟨l', hat, heq, hk⟩ := hrel
    have HP : Hid (xs.length - posOf wr b = l'.length) := at_pos hat
    have ha := ahead_w hat fx 0 0 rfl (by omega)
    have HQ : Hid (digitsR l' = digitsR l) := heq
    clear heq h
    cases l' with
    | nil =>
      have h0 : digitZ (hd [] 0) = false := by decide
      generalize hd [] 0 = c0 at ha h0
      go_wp2_with (go_at_call 46; fail)
      refine (ha).mono ?_
      rintro e w' ⟨rfl, m, rfl⟩
      go_wp2_with (go_at_call 77; fail)
      refine (digit_any _ _).mono ?_
      rintro e w' ⟨rfl, rfl⟩
      go_wp2
      have HA := at_drew hat m
      have e0 : digitsR [] = [] := rfl
      have HQ' := HQ.out
      rw [e0] at HQ'
      rw [HQ'] at HA
      go_end0
      exact ⟨rfl, HA, hk.trans (Kept.drewN b wr m)⟩
    | cons c t =>
      have e0 : hd (c :: t) 0 = c := rfl
      rw [e0] at ha
      cases h0 : digitZ c
      · go_wp2_with (go_at_call 46; fail)
        refine (ha).mono ?_
        rintro e w' ⟨rfl, m, rfl⟩
        go_wp2_with (go_at_call 77; fail)
        refine (digit_any _ _).mono ?_
        rintro e w' ⟨rfl, rfl⟩
        go_wp2
        have HA := at_drew hat m
        have HQ' := HQ.out
        rw [digitsR, if_neg (by simp [h0])] at HQ'
        rw [HQ'] at HA
        go_end0
        exact ⟨rfl, HA, hk.trans (Kept.drewN b wr m)⟩
      · have hn := fun m => next_r hat fx c t rfl m
        go_wp2_with (go_at_call 46; fail)
        refine (ha).mono ?_
        rintro e w' ⟨rfl, m, rfl⟩
        go_wp2_with (go_at_call 77; fail)
        refine (digit_any _ _).mono ?_
        rintro e w' ⟨rfl, rfl⟩
        go_wp2_with (go_at_call 49; fail)
        refine (hn _).mono ?_
        rintro e w2 ⟨rfl, h2, k2⟩
        go_wp2
        go_roundw
        case rel =>
          have HQ' := HQ.out
          rw [digitsR, if_pos h0] at HQ'
          exact ⟨t, h2, HQ', hk.trans k2⟩
        case measure =>
          rw [HP.out, at_pos h2]
          simp
end
end Go.Proofs.YtdibldcnklgcjaaGreatDoor
