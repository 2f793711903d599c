/- nth.direction, nth.signAhead and nth.numberAhead, whatever the text. -/
import Derived.Test.YtpflliophellgaaGreatDoorNLives
import Derived.Test.YtpflliophellgaaGreatDoorNDigits
import Derived.Lib.DecodeN
import Derived.Lib.OthersKept
import Derived.Laws.Cover4
import Derived.BigQuiet
import Derived.Deep.QuietTactic
namespace Go.Proofs.YtpflliophellgaaGreatDoor.N
open Go.RowKit

def digitZ (c : Int) : Bool := decide (48 ≤ c) && decide (c ≤ 57)
set_option maxHeartbeats 400000 in
theorem digit_any (c : Int) (w : World) : Calls Tryz.prog 80 #[.int .i32 c] w fun e w' => e = .returned (.bool (digitZ c)) ∧ w = w' := by
  unfold digitZ
  by_cases h1 : 48 ≤ c
  · by_cases h2 : c ≤ 57
    · go_enter Tryz.func80, Tryz.ntmps80
      go_wp2
      go_ret
      exact ⟨by simp [h1, h2], rfl⟩
    · go_enter Tryz.func80, Tryz.ntmps80
      go_wp2
      go_ret
      exact ⟨by simp; omega, rfl⟩
  · go_enter Tryz.func80, Tryz.ntmps80
    go_wp2
    go_ret
    exact ⟨by simp; omega, rfl⟩
set_option maxHeartbeats 400000 in
theorem direction_m (w : World) : Calls Tryz.prog 49 #[.string ⟨#[45]⟩] w fun e w' => e = .returned (.int .i64 (-1)) ∧ w = w' := by
  go_enter Tryz.func49, Tryz.ntmps49
  go_wp2
  go_ret
  exact ⟨rfl, rfl⟩
set_option maxHeartbeats 400000 in
theorem direction_p (w : World) : Calls Tryz.prog 49 #[.string ⟨#[43]⟩] w fun e w' => e = .returned (.int .i64 1) ∧ w = w' := by
  go_enter Tryz.func49, Tryz.ntmps49
  go_wp2
  go_ret
  exact ⟨rfl, rfl⟩
set_option maxHeartbeats 400000 in
theorem direction_0 (w : World) : Calls Tryz.prog 49 #[.string ⟨#[]⟩] w fun e w' => e = .returned (.int .i64 1) ∧ w = w' := by
  go_enter Tryz.func49, Tryz.ntmps49
  go_wp2
  go_ret
  exact ⟨rfl, rfl⟩

def bytesL (a : ByteArray) : List Int := a.data.toList.map fun x => (x.toNat : Int)
theorem bytesL_size (a : ByteArray) : (bytesL a).length = a.size := by
  unfold bytesL
  rw [List.length_map]
  rfl
theorem bytesL_byte (a : ByteArray) : ∀ n ∈ bytesL a, 0 ≤ n ∧ n < 256 := by
  intro n hn
  unfold bytesL at hn
  obtain ⟨x, _, rfl⟩ := List.mem_map.1 hn
  have := x.toNat_lt
  omega
theorem empty_of {s : ByteArray} (h : s.size = 0) : s = ⟨#[]⟩ := by
  cases s with
  | mk d =>
    have h1 : d.size = 0 := h
    have h2 : d = #[] := by simpa using h1
    subst h2
    rfl
theorem strOf (s : ByteArray) : strOfNums (s.data.toList.map fun b => (b.toNat : Int)) = s := by
  cases s with
  | mk d =>
    have e : ((fun n : Int => UInt8.ofNat n.toNat) ∘ fun b : UInt8 => (b.toNat : Int)) = id := by
      funext b
      simp
    simp [strOfNums, e]

theorem bytesL_str (a : ByteArray) : strOfNums (bytesL a) = a := strOf a
theorem str_get {l : List Int} (hl : ∀ n ∈ l, 0 ≤ n ∧ n < 256) (j : Nat) : ((strOfNums l).get! j).toNat = (l.getD j 0).toNat := by
  by_cases hj : j < l.length
  · have hm : l.getD j 0 ∈ l := by simp [List.getD, hj]
    have hb := hl _ hm
    have e : (strOfNums l).get! j = UInt8.ofNat (l.getD j 0).toNat := by
      show (l.map fun n => UInt8.ofNat n.toNat).toArray[j]! = _
      rw [getElem!_pos _ j (by simpa using hj)]
      simp [List.getD, hj]
    rw [e]
    simp only [UInt8.toNat_ofNat']
    omega
  · have e : (strOfNums l).get! j = default := by
      show (l.map fun n => UInt8.ofNat n.toNat).toArray[j]! = _
      exact getElem!_neg _ j (by simpa using hj)
    rw [e]
    simp [List.getD, List.getElem?_eq_none (Nat.le_of_not_lt hj)]
    rfl

def Dig (l : List Int) : Prop := ∀ c ∈ l, 48 ≤ c ∧ c ≤ 57
def satZ (n : Int) (c : Int) : Int := if 1000000 < n * 10 + (c - 48) then 1000000 else n * 10 + (c - 48)
def satL (l : List Int) : Int := l.foldl satZ 0
theorem satZ_bd {n c : Int} (h0 : 0 ≤ n) (hc : 48 ≤ c) : 0 ≤ satZ n c ∧ satZ n c ≤ 1000000 := by
  unfold satZ
  split <;> omega
theorem satL_snoc (l : List Int) (c : Int) : satL (l ++ [c]) = satZ (satL l) c := by unfold satL; rw [List.foldl_append]; rfl
theorem satL_bd : ∀ (l : List Int), Dig l → 0 ≤ satL l ∧ satL l ≤ 1000000 := by
  intro l h
  unfold satL
  have : ∀ (l : List Int) (n : Int), 0 ≤ n → n ≤ 1000000 → Dig l → 0 ≤ l.foldl satZ n ∧ l.foldl satZ n ≤ 1000000 := by
    intro l
    induction l with
    | nil => intro n h0 h1 _; exact ⟨h0, h1⟩
    | cons c r ih =>
      intro n h0 _ hd
      have hb := satZ_bd h0 (hd c (by simp)).1
      exact ih _ hb.1 hb.2 (fun x hx => hd x (by simp [hx]))
  exact this l 0 (by omega) (by omega) h
theorem dec_byte (t : ByteArray) (p : Nat) (hp : p < t.size) : (48 ≤ (bytesL t).getD p 0 ∧ (bytesL t).getD p 0 ≤ 57 ∧ (((Utf8.decode t p).1 : Nat) : Int) = (bytesL t).getD p 0 ∧ (Utf8.decode t p).2 = 1) ∨ (¬ (48 ≤ (bytesL t).getD p 0 ∧ (bytesL t).getD p 0 ≤ 57) ∧ digitZ (((Utf8.decode t p).1 : Nat) : Int) = false) := by
  have hg : (bytesL t).getD p 0 = ((t.get! p).toNat : Int) := by
    have hs := str_get (bytesL_byte t) p
    rw [bytesL_str] at hs
    have hb : 0 ≤ (bytesL t).getD p 0 := (bytesL_byte t _ (by
      have : p < (bytesL t).length := by rw [bytesL_size]; exact hp
      simp [List.getD, this])).1
    omega
  rw [hg, Lib.decode_at]
  have hb := (t.get! p).toNat_lt
  generalize (t.get! p).toNat = b0 at *
  generalize (t.get! (p + 1)).toNat = b1
  generalize (t.get! (p + 2)).toNat = b2
  generalize (t.get! (p + 3)).toNat = b3
  by_cases h : 48 ≤ b0 ∧ b0 ≤ 57
  · left
    have e : Lib.decodeN (t.size - p) b0 b1 b2 b3 = (b0, 1) := by
      unfold Lib.decodeN
      rw [if_pos (by omega)]
    rw [e]
    exact ⟨by omega, by omega, rfl, rfl⟩
  · right
    refine ⟨by omega, ?_⟩
    have key : (((Lib.decodeN (t.size - p) b0 b1 b2 b3).1 : Nat) : Int) = b0 ∨ 128 ≤ (((Lib.decodeN (t.size - p) b0 b1 b2 b3).1 : Nat) : Int) := by
      unfold Lib.decodeN
      repeat' split
      all_goals (simp only; first | exact .inl trivial | omega)
    unfold digitZ
    simp
    omega
theorem byte_at (t : ByteArray) (p : Nat) (hp : p < t.size) : (bytesL t).getD p 0 = (((t[p]'hp).toNat : Nat) : Int) := by
  unfold bytesL
  have h1 : t.data[p]? = some (t.data[p]'hp) := Array.getElem?_eq_getElem hp
  simp [List.getD, h1]
  rfl
theorem digit_yes {c : Int} (h : 48 ≤ c ∧ c ≤ 57) : digitZ c = true := by unfold digitZ; simp; omega
/-- How many digits a text opens with. -/
def digN : List Int → Nat
  | [] => 0
  | c :: r => if digitZ c then digN r + 1 else 0
theorem digN_le : ∀ l : List Int, digN l ≤ l.length
  | [] => Nat.le_refl _
  | c :: r => by
    rw [digN]
    have := digN_le r
    split
    · rw [List.length_cons]
      omega
    · omega
/-- Where p digits stand ahead, and then none, they are all. -/
theorem digN_at : ∀ (l : List Int) (p : Nat), Dig (l.take p) → p ≤ l.length → (p = l.length ∨ digitZ (l.getD p 0) = false) → digN l = p
  | [], p, _, h, _ => by simp at h; simp [digN, h]
  | c :: r, 0, _, _, h => by
    rcases h with h | h
    · simp at h
    · rw [digN, if_neg]
      have h' : digitZ c = false := h
      rw [h']
      decide
  | c :: r, p + 1, hd, hl, h => by
    have hc := hd c (by simp)
    rw [digN, if_pos (digit_yes hc)]
    have ih := digN_at r p (fun x hx => hd x (by simp [hx])) (by simpa using hl) (by
      rcases h with h | h
      · left; simpa using h
      · right; exact h)
    rw [ih]

end Go.Proofs.YtpflliophellgaaGreatDoor.N
