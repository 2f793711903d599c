/- made, has, Now, Pinned, least, New. -/
import Derived.Test.YtlnpiadjnjdfiaaEPu
namespace Go.Proofs.Ytlnpiadjnjdfiaa.E
open Go.RowKit
set_option maxRecDepth 100000

theorem made_nil (w : World) : Calls Try.prog 29 #[.pointer none] w fun e w' => e = .returned (.bool false) ∧ w' = w := by
  go_enter Try.func29, Try.ntmps29
  go_wp2
  go_ret
  exact ⟨rfl, rfl⟩
theorem made_zero {w : World} {b : Nat} (h : w.cell? ⟨b, 0, none⟩ = some (.int .i64 0)) : Calls Try.prog 29 #[.pointer (some ⟨b, 0, none⟩)] w fun e w' => e = .returned (.bool false) ∧ w' = w := by
  go_enter Try.func29, Try.ntmps29
  go_wp2
  go_ret
  exact ⟨rfl, rfl⟩
theorem made_any {w : World} {b n : Nat} (h : w.cell? ⟨b, 0, none⟩ = some (.int .i64 (n : Int))) (hn : 1 ≤ n) : Calls Try.prog 29 #[.pointer (some ⟨b, 0, none⟩)] w fun e w' => e = .returned (.bool true) ∧ w' = w := by
  have hd : decide ((n : Int) > 0) = true := decide_eq_true (by omega)
  go_enter Try.func29, Try.ntmps29
  go_wp2
  go_ret
  exact ⟨by simp [Array.getD]; omega, rfl⟩
/-- Is there such a slot? -/
def inP (n : Nat) (i : Int) : Bool := decide (0 ≤ i ∧ i < (n : Int))
theorem has_any {w : World} {b n : Nat} (h : w.cell? ⟨b, 0, none⟩ = some (.int .i64 (n : Int))) (hn : 1 ≤ n) (i : Int) : Calls Try.prog 36 #[.pointer (some ⟨b, 0, none⟩), .int .i64 i] w fun e w' => e = .returned (.bool (inP n i)) ∧ w' = w := by
  have hm := hid_mk (made_any h hn)
  by_cases h0 : 0 ≤ i
  · by_cases h1 : i < (n : Int)
    · have HR : Hid (inP n i = true) := decide_eq_true ⟨h0, h1⟩
      generalize inP n i = r at *
      go_enter Try.func36, Try.ntmps36
      go_wp2_with (go_at_call 29; refine hm.out.mono ?_; rintro e w' ⟨rfl, rfl⟩)
      go_ret
      exact ⟨by rw [HR.out]; rfl, rfl⟩
    · have HR : Hid (inP n i = false) := decide_eq_false (fun hh => h1 hh.2)
      generalize inP n i = r at *
      have hd : decide (i < (n : Int)) = false := decide_eq_false h1
      go_enter Try.func36, Try.ntmps36
      go_wp2_with (go_at_call 29; refine hm.out.mono ?_; rintro e w' ⟨rfl, rfl⟩)
      go_ret
      exact ⟨by rw [HR.out]; simp [Array.getD], rfl⟩
  · have HR : Hid (inP n i = false) := decide_eq_false (fun hh => h0 hh.1)
    generalize inP n i = r at *
    go_enter Try.func36, Try.ntmps36
    go_wp2_with (go_at_call 29; refine hm.out.mono ?_; rintro e w' ⟨rfl, rfl⟩)
    go_ret
    exact ⟨by rw [HR.out]; rfl, rfl⟩
theorem now_any {w : World} {b n : Nat} {now : Int} {S : List Int} {m : Int} {v : Value} (h : Bx w b n now S m v) (hn : 1 ≤ n) : Calls Try.prog 23 #[.pointer (some ⟨b, 0, none⟩)] w fun e w' => e = .returned (.int .i64 now) ∧ w' = w := by
  have hm := hid_mk (made_any h.pins hn)
  have hl := hid_mk (load_any h.now)
  clear h
  go_enter Try.func23, Try.ntmps23
  go_wp2_with (first
    | (go_at_call 29; refine hm.out.mono ?_; rintro e w' ⟨rfl, rfl⟩)
    | (go_at_call 34; refine hl.out.mono ?_; rintro e w' ⟨rfl, rfl⟩))
  go_ret
  exact ⟨rfl, rfl⟩
/-- What a slot holds. -/
def pinZ (n : Nat) (S : List Int) (i : Int) : Int := if inP n i = true then S.getD i.toNat 0 else 0
theorem pinned_any {w : World} {b n : Nat} {now : Int} {S : List Int} {m : Int} {v : Value} (h : Bx w b n now S m v) (hn : 1 ≤ n) (hn8 : n ≤ 8) (i : Int) : Calls Try.prog 26 #[.pointer (some ⟨b, 0, none⟩), .int .i64 i] w fun e w' => e = .returned (.int .i64 (pinZ n S i)) ∧ w' = w := by
  have hm := hid_mk (has_any h.pins hn i)
  by_cases hi : inP n i = true
  · have h2 : 0 ≤ i ∧ i < (n : Int) := of_decide_eq_true hi
    obtain ⟨k, rfl⟩ : ∃ k : Nat, i = (k : Int) := ⟨i.toNat, by omega⟩
    have hk : k < S.length := by rw [h.len]; omega
    have hk8 : k < 8 := by omega
    have HR : Hid (pinZ n S k = S[k]) := by
      show _ = _
      unfold pinZ
      rw [if_pos hi, Int.toNat_natCast, List.getD_eq_getElem?_getD, List.getElem?_eq_getElem hk]
      rfl
    have hl := hid_mk (load_any (h.slot (List.getElem?_eq_getElem hk)))
    rw [hi] at hm
    generalize pinZ n S k = r at *
    generalize S[k] = s at *
    clear h hi
    go_enter Try.func26, Try.ntmps26
    go_wp2_with (first
      | (go_at_call 36; refine hm.out.mono ?_; rintro e w' ⟨rfl, rfl⟩)
      | (go_at_call 34; refine hl.out.mono ?_; rintro e w' ⟨rfl, rfl⟩))
    go_ret
    exact ⟨by rw [HR.out]; rfl, rfl⟩
  · have hi : inP n i = false := by simpa using hi
    have HR : Hid (pinZ n S i = 0) := by show _ = _; unfold pinZ; rw [hi]; rfl
    rw [hi] at hm
    generalize pinZ n S i = r at *
    clear h hi
    go_enter Try.func26, Try.ntmps26
    go_wp2_with (go_at_call 36; refine hm.out.mono ?_; rintro e w' ⟨rfl, rfl⟩)
    go_ret
    exact ⟨by rw [HR.out]; rfl, rfl⟩
end Go.Proofs.Ytlnpiadjnjdfiaa.E
