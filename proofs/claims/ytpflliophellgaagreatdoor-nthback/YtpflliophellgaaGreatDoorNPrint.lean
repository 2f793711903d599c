/- nth.Print and the document's, and what NthFits asks. -/
import Derived.Test.YtpflliophellgaaGreatDoorNDigits
import Derived.Test.YtpflliophellgaaGreatDoorNFirst
namespace Go.Proofs.YtpflliophellgaaGreatDoor.N
open Go.RowKit

def nS : ByteArray := ⟨#[110]⟩
def timesS (a : Int) : ByteArray := if a = 1 then ⟨#[]⟩ else if a = -1 then ⟨#[45]⟩ else itS a
def plusS (b : Int) : ByteArray := if b = 0 then ⟨#[]⟩ else if b < 0 then itS b else ⟨#[43]⟩ ++ itS b
def printS (a b : Int) : ByteArray :=
  if a = 2 ∧ b = 0 then ⟨#[101, 118, 101, 110]⟩ else if a = 2 ∧ b = 1 then ⟨#[111, 100, 100]⟩ else if a = 0 then itS b else timesS a ++ nS ++ plusS b

theorem app_empty (s : ByteArray) : s ++ ⟨#[]⟩ = s := by
  apply ByteArray.ext
  rw [ByteArray.data_append]
  simp
theorem app_app (s t u : ByteArray) : s ++ t ++ u = s ++ (t ++ u) := by
  apply ByteArray.ext
  simp only [ByteArray.data_append, Array.append_assoc]
theorem size_two (s t : ByteArray) : (s ++ t).size = s.size + t.size := by simp

set_option maxHeartbeats 400000 in
theorem times_any (a : Int) (a0 : -9223372036854775808 ≤ a) (a1 : a ≤ 9223372036854775807) (w : World) (hp : Pow w) :
    Calls Tryz.prog 31 #[.int .i64 a] w fun e w' => e = .returned (.string (timesS a)) ∧ Below w.heap.size w w' := by
  have hB : Below w.heap.size w w := Below.refl _ w
  unfold timesS
  by_cases h1 : a = 1
  · rw [if_pos h1]
    subst h1
    go_enter Tryz.func31, Tryz.ntmps31
    go_wp2
    go_ret
    exact ⟨rfl, hB⟩
  by_cases h2 : a = -1
  · rw [if_neg h1, if_pos h2]
    subst h2
    go_enter Tryz.func31, Tryz.ntmps31
    go_wp2
    go_ret
    exact ⟨rfl, hB⟩
  rw [if_neg h1, if_neg h2]
  have z1 : (a == 1) = false := by simpa using h1
  have z2 : (a == -1) = false := by simpa using h2
  have hi := itoa_any a a0 a1 w hp
  generalize itS a = s at *
  clear h1 h2
  go_enter Tryz.func31, Tryz.ntmps31
  go_wp2_with (go_at_call 30; fail)
  refine (hi).mono ?_
  rintro e w' ⟨rfl, hb⟩
  go_wp2
  go_ret
  exact ⟨rfl, hb⟩

set_option maxHeartbeats 400000 in
theorem plus_any (b : Int) (b0 : -9223372036854775808 ≤ b) (b1 : b ≤ 9223372036854775807) (w : World) (hp : Pow w) :
    Calls Tryz.prog 32 #[.int .i64 b] w fun e w' => e = .returned (.string (plusS b)) ∧ Below w.heap.size w w' := by
  have hB : Below w.heap.size w w := Below.refl _ w
  unfold plusS
  by_cases h1 : b = 0
  · rw [if_pos h1]
    subst h1
    go_enter Tryz.func32, Tryz.ntmps32
    go_wp2
    go_ret
    exact ⟨rfl, hB⟩
  have z1 : (b == 0) = false := by simpa using h1
  have hi := itoa_any b b0 b1 w hp
  have hs := it_size b
  rw [if_neg h1]
  by_cases h2 : b < 0
  · rw [if_pos h2]
    generalize itS b = s at *
    clear h1
    go_enter Tryz.func32, Tryz.ntmps32
    go_wp2_with (go_at_call 30; fail)
    refine (hi).mono ?_
    rintro e w' ⟨rfl, hb⟩
    go_wp2
    go_ret
    exact ⟨rfl, hb⟩
  · rw [if_neg h2]
    generalize itS b = s at *
    clear h1
    go_enter Tryz.func32, Tryz.ntmps32
    go_wp2_with (go_at_call 30; fail)
    refine (hi).mono ?_
    rintro e w' ⟨rfl, hb⟩
    go_wp2
    go_ret
    exact ⟨rfl, hb⟩

theorem times_size (a : Int) : (timesS a).size ≤ 21 := by
  unfold timesS
  split
  · decide
  · split
    · decide
    · exact it_size a
theorem plus_size (b : Int) : (plusS b).size ≤ 22 := by
  unfold plusS
  split
  · decide
  · split
    · have := it_size b
      omega
    · have := it_size b
      rw [size_two]
      have h : (⟨#[43]⟩ : ByteArray).size = 1 := rfl
      omega

set_option maxHeartbeats 400000 in
theorem print_any (a b : Int) (a0 : -9223372036854775808 ≤ a) (a1 : a ≤ 9223372036854775807) (b0 : -9223372036854775808 ≤ b) (b1 : b ≤ 9223372036854775807) (w : World) (hp : Pow w) :
    Calls Tryz.prog 9 #[.int .i64 a, .int .i64 b] w fun e w' => e = .returned (.string (printS a b)) ∧ Below w.heap.size w w' := by
  have hB : Below w.heap.size w w := Below.refl _ w
  unfold printS
  by_cases h1 : a = 2 ∧ b = 0
  · rw [if_pos h1]
    obtain ⟨rfl, rfl⟩ := h1
    go_enter Tryz.func9, Tryz.ntmps9
    go_wp2
    go_ret
    exact ⟨rfl, hB⟩
  by_cases h2 : a = 2 ∧ b = 1
  · rw [if_neg h1, if_pos h2]
    obtain ⟨rfl, rfl⟩ := h2
    go_enter Tryz.func9, Tryz.ntmps9
    go_wp2
    go_ret
    exact ⟨rfl, hB⟩
  rw [if_neg h1, if_neg h2]
  by_cases h3 : a = 0
  · rw [if_pos h3]
    subst h3
    have hi := itoa_any b b0 b1 w hp
    generalize itS b = s at *
    clear h1 h2
    go_enter Tryz.func9, Tryz.ntmps9
    go_wp2_with (go_at_call 30; fail)
    refine (hi).mono ?_
    rintro e w' ⟨rfl, hb⟩
    go_wp2
    go_ret
    exact ⟨rfl, hb⟩
  · rw [if_neg h3]
    have z3 : (a == 0) = false := by simpa using h3
    have t1 := times_any a a0 a1 w hp
    have t2 := times_size a
    have t4 := plus_size b
    have HP : Hid (∀ w', Below w.heap.size w w' → Calls Tryz.prog 32 #[.int .i64 b] w' fun e w'' => e = .returned (.string (plusS b)) ∧ Below w'.heap.size w' w'') := fun w' hb => plus_any b b0 b1 w' (pow_below hp hb)
    generalize timesS a = T at *
    generalize plusS b = P at *
    by_cases h4 : a = 2
    · subst h4
      have z1 : (b == 0) = false := by simp; omega
      have z2 : (b == 1) = false := by simp; omega
      clear h1 h2 h3
      go_enter Tryz.func9, Tryz.ntmps9
      go_wp2_with (go_at_call 31; fail)
      refine (t1).mono ?_
      rintro e w1 ⟨rfl, hb⟩
      have hp2 := HP.out w1 hb
      go_wp2_with (go_at_call 32; fail)
      refine (hp2).mono ?_
      rintro e w2 ⟨rfl, hb2⟩
      go_wp2
      go_ret
      exact ⟨rfl, hb.trans (hb2.mono hb.size)⟩
    · have z1 : (a == 2) = false := by simpa using h4
      clear h1 h2 h3 h4
      go_enter Tryz.func9, Tryz.ntmps9
      go_wp2_with (go_at_call 31; fail)
      refine (t1).mono ?_
      rintro e w1 ⟨rfl, hb⟩
      have hp2 := HP.out w1 hb
      go_wp2_with (go_at_call 32; fail)
      refine (hp2).mono ?_
      rintro e w2 ⟨rfl, hb2⟩
      go_wp2
      go_ret
      exact ⟨rfl, hb.trans (hb2.mono hb.size)⟩

end Go.Proofs.YtpflliophellgaaGreatDoor.N
