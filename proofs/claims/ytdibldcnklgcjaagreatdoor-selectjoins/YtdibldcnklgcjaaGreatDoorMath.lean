/- Characters in bytes are those characters again; ends of lines are made alike once. -/
import Derived.Test.YtdibldcnklgcjaaGreatDoorBytes
import Derived.Lib.DecodeN
import Derived.Test.YtdibldcnklgcjaaGreatDoorArgs
namespace Go.Proofs.YtdibldcnklgcjaaGreatDoor
open Go.RowKit
set_option maxRecDepth 100000

def IsChar (c : Int) : Prop := 0 ≤ c ∧ c ≤ 1114111 ∧ ¬ (55296 ≤ c ∧ c ≤ 57343)

/-- The byte at place j of a list of bytes' numbers. -/
theorem str_get {l : List Int} (hl : ∀ n ∈ l, 0 ≤ n ∧ n < 256) (j : Nat) : ((strOfNums l).get! j).toNat = (l.getD j 0).toNat := by
  by_cases hj : j < l.length
  · have hm : l.getD j 0 ∈ l := by simp [List.getD, hj]
    have hb := hl _ hm
    have e : (strOfNums l).get! j = UInt8.ofNat (l.getD j 0).toNat := by
      show (l.map fun n => UInt8.ofNat n.toNat).toArray[j]! = _
      rw [getElem!_pos _ j (by simpa using hj)]
      simp [List.getD, hj]
    rw [e]
    simp only [UInt8.toNat_ofNat']
    omega
  · have e : (strOfNums l).get! j = default := by
      show (l.map fun n => UInt8.ofNat n.toNat).toArray[j]! = _
      exact getElem!_neg _ j (by simpa using hj)
    rw [e]
    simp [List.getD, List.getElem?_eq_none (Nat.le_of_not_lt hj)]
    rfl

set_option maxRecDepth 100000 in
set_option maxHeartbeats 2000000 in
/-- The model decodes what was encoded, whatever stands ahead of it and behind it. -/
theorem dec_enc (pre rest : List Int) (c : Int) (hc : IsChar c) (hp : ∀ n ∈ pre, 0 ≤ n ∧ n < 256) (hr : ∀ n ∈ rest, 0 ≤ n ∧ n < 256) :
    Utf8.decode (strOfNums (pre ++ (Lib.encodeRuneZ c ++ rest))) pre.length = (c.toNat, (Lib.encodeRuneZ c).length) := by
  have hall : ∀ n ∈ pre ++ (Lib.encodeRuneZ c ++ rest), 0 ≤ n ∧ n < 256 := by
    intro n hn
    simp only [List.mem_append] at hn
    rcases hn with h | h | h
    · exact hp n h
    · exact Lib.encodeRuneZ_byte c n h
    · exact hr n h
  rw [Lib.decode_at]
  have hg : ∀ j, ((strOfNums (pre ++ (Lib.encodeRuneZ c ++ rest))).get! (pre.length + j)).toNat = ((Lib.encodeRuneZ c ++ rest).getD j 0).toNat := by
    intro j
    rw [str_get hall, List.getD_eq_getElem?_getD, List.getElem?_append_right (by omega), List.getD_eq_getElem?_getD]
    congr 3
    omega
  have hg0 := hg 0
  rw [Nat.add_zero] at hg0
  rw [hg0, hg 1, hg 2, hg 3]
  have hsz : (strOfNums (pre ++ (Lib.encodeRuneZ c ++ rest))).size - pre.length = (Lib.encodeRuneZ c).length + rest.length := by
    rw [strOf_size]
    simp only [List.length_append]
    omega
  rw [hsz]
  obtain ⟨h0, h1, h2⟩ := hc
  rcases (show (0 ≤ c ∧ c ≤ 127) ∨ (128 ≤ c ∧ c ≤ 2047) ∨ ((2048 ≤ c ∧ c < 55296) ∨ (57343 < c ∧ c ≤ 65535)) ∨ (65536 ≤ c ∧ c ≤ 1114111) by omega) with ⟨g1, g2⟩ | ⟨g1, g2⟩ | g | ⟨g1, g2⟩
  · rw [Lib.encodeRuneZ_one g1 g2]
    simp only [List.cons_append, List.nil_append, List.getD_cons_zero, List.length_cons, List.length_nil]
    unfold Lib.decodeN
    rw [if_pos (by omega)]
  · rw [Lib.encodeRuneZ_two g1 g2]
    simp only [List.cons_append, List.nil_append, List.getD_cons_zero, List.getD_cons_succ, List.length_cons, List.length_nil]
    unfold Lib.decodeN
    rw [if_neg (by omega), if_pos (by omega), if_pos (by omega)]
    congr 1
    omega
  · rw [Lib.encodeRuneZ_three g]
    simp only [List.cons_append, List.nil_append, List.getD_cons_zero, List.getD_cons_succ, List.length_cons, List.length_nil]
    unfold Lib.decodeN
    rw [if_neg (by omega), if_neg (by omega), if_pos (by omega), if_pos (by omega)]
    congr 1
    omega
  · rw [Lib.encodeRuneZ_four g1 g2]
    simp only [List.cons_append, List.nil_append, List.getD_cons_zero, List.getD_cons_succ, List.length_cons, List.length_nil]
    unfold Lib.decodeN
    rw [if_neg (by omega), if_neg (by omega), if_neg (by omega), if_pos (by omega), if_pos (by omega)]
    congr 1
    omega

theorem bytesZ_byte (xs : List Int) : ∀ n ∈ bytesZ xs, 0 ≤ n ∧ n < 256 := by
  intro n hn
  obtain ⟨x, _, hx⟩ := List.mem_flatMap.1 hn
  exact Lib.encodeRuneZ_byte x n hx

theorem bytesZ_cons (x : Int) (r : List Int) : bytesZ (x :: r) = Lib.encodeRuneZ x ++ bytesZ r := by simp [bytesZ]

theorem bytesZ_ge (xs : List Int) : xs.length ≤ (bytesZ xs).length := by
  induction xs with
  | nil => simp
  | cons x r ih =>
    have := (Lib.encodeRuneZ_length x).1
    rw [bytesZ_cons, List.length_append, List.length_cons]
    omega

/-- The characters of encoded characters, with whatever behind them. -/
theorem chars_enc : ∀ (xs : List Int) (pre rest : List Int) (f : Nat), (∀ c ∈ xs, IsChar c) → (∀ n ∈ pre, 0 ≤ n ∧ n < 256) → (∀ n ∈ rest, 0 ≤ n ∧ n < 256) →
    charsFrom (strOfNums (pre ++ (bytesZ xs ++ rest))) (xs.length + f) pre.length = xs ++ charsFrom (strOfNums (pre ++ (bytesZ xs ++ rest))) f (pre.length + (bytesZ xs).length)
  | [], pre, rest, f, _, _, _ => by simp [bytesZ]
  | x :: r, pre, rest, f, hx, hp, hr => by
    have he := Lib.encodeRuneZ_length x
    have hd := dec_enc pre (bytesZ r ++ rest) x (hx x (by simp)) hp (by
      intro n hn
      rcases List.mem_append.1 hn with h | h
      · exact bytesZ_byte r n h
      · exact hr n h)
    have ih := chars_enc r (pre ++ Lib.encodeRuneZ x) rest f (fun c hc => hx c (by simp [hc])) (by
      intro n hn
      rcases List.mem_append.1 hn with h | h
      · exact hp n h
      · exact Lib.encodeRuneZ_byte x n h) hr
    have e : pre ++ (bytesZ (x :: r) ++ rest) = pre ++ (Lib.encodeRuneZ x ++ (bytesZ r ++ rest)) := by rw [bytesZ_cons, List.append_assoc]
    have e2 : pre ++ Lib.encodeRuneZ x ++ (bytesZ r ++ rest) = pre ++ (Lib.encodeRuneZ x ++ (bytesZ r ++ rest)) := by rw [List.append_assoc]
    rw [e2] at ih
    rw [e, List.length_cons, show r.length + 1 + f = (r.length + f) + 1 by omega]
    have hlt : pre.length < (strOfNums (pre ++ (Lib.encodeRuneZ x ++ (bytesZ r ++ rest)))).size := by
      rw [strOf_size]
      simp only [List.length_append]
      omega
    have hcx := hx x (by simp)
    rw [charsFrom, if_pos hlt, hd]
    simp only
    rw [← List.length_append, ih, List.cons_append]
    have e3 : ((x.toNat : Nat) : Int) = x := Int.toNat_of_nonneg hcx.1
    rw [e3, bytesZ_cons]
    simp only [List.length_append, Nat.add_assoc]

theorem charsFrom_more (s : ByteArray) : ∀ (f g pos : Nat), s.size ≤ pos + f → charsFrom s (f + g) pos = charsFrom s f pos
  | 0, g, pos, h => by rw [charsFrom_end s _ pos (by omega), charsFrom_end s _ pos (by omega)]
  | f + 1, g, pos, h => by
    rw [show f + 1 + g = (f + g) + 1 by omega]
    by_cases hp : pos < s.size
    · have hw := Lib.decode_width_pos s pos hp
      rw [charsFrom, charsFrom, if_pos hp, if_pos hp, charsFrom_more s f g _ (by omega)]
    · rw [charsFrom_end s _ pos hp, charsFrom_end s _ pos hp]

theorem chars_of_bytes (xs : List Int) (hx : ∀ c ∈ xs, IsChar c) : chars (strOfNums (bytesZ xs)) = xs := by
  have h := chars_enc xs [] [] ((bytesZ xs).length - xs.length) hx (by simp) (by simp)
  have hge := bytesZ_ge xs
  simp only [List.nil_append, List.append_nil, List.length_nil, Nat.zero_add] at h
  unfold chars
  rw [strOf_size, show (bytesZ xs).length = xs.length + ((bytesZ xs).length - xs.length) by omega, h, charsFrom_end _ _ _ (by rw [strOf_size]; omega), List.append_nil]

/-! ### what characters come out -/
theorem dec_char (s : ByteArray) (pos : Nat) : IsChar ((Utf8.decode s pos).1 : Int) := by
  have hb : ∀ k, (s.get! (pos + k)).toNat < 256 := fun k => (s.get! (pos + k)).toNat_lt
  have h0 := hb 0; have h1 := hb 1; have h2 := hb 2; have h3 := hb 3
  rw [Lib.decode_at]
  rw [Nat.add_zero] at h0
  generalize (s.get! pos).toNat = b0 at *
  generalize (s.get! (pos + 1)).toNat = b1 at *
  generalize (s.get! (pos + 2)).toNat = b2 at *
  generalize (s.get! (pos + 3)).toNat = b3 at *
  unfold Lib.decodeN IsChar
  repeat' split
  all_goals (simp only; omega)

theorem chars_char (s : ByteArray) : ∀ (f pos : Nat), ∀ c ∈ charsFrom s f pos, IsChar c
  | 0, _ => by simp [charsFrom]
  | f + 1, pos => by
    intro c hc
    unfold charsFrom at hc
    split at hc
    · rcases List.mem_cons.1 hc with rfl | h
      · exact dec_char s pos
      · exact chars_char s f _ c h
    · simp at hc

/-- A character that stands in an answer. -/
def Told (c : Int) : Prop := IsChar c ∧ c ≠ 13 ∧ c ≠ 12 ∧ c ≠ 0

theorem settled_told {c : Int} (h : IsChar c) : Told (settledZ c) := by
  unfold settledZ Told IsChar at *
  split
  · omega
  · split
    · omega
    · omega

theorem norm_told : ∀ (l : List Int) (last : Int), (∀ c ∈ l, IsChar c) → ∀ c ∈ normZ last l, Told c
  | [], _, _ => by simp [normZ]
  | x :: r, last, h => by
    intro c hc
    have ih := norm_told r x (fun c hc => h c (by simp [hc]))
    unfold normZ at hc
    split at hc
    · exact ih c hc
    · rcases List.mem_cons.1 hc with rfl | h'
      · exact settled_told (h x (by simp))
      · exact ih c h'

theorem runes_told (s : ByteArray) : ∀ c ∈ runesZ s, Told c := norm_told _ _ (chars_char s _ _)

theorem settled_same {c : Int} (h : Told c) : settledZ c = c := by
  obtain ⟨_, h1, h2, h3⟩ := h
  simp [settledZ, h1, h2, h3]

theorem norm_same : ∀ (l : List Int) (last : Int), last ≠ 13 → (∀ c ∈ l, Told c) → normZ last l = l
  | [], _, _, _ => rfl
  | x :: r, last, hl, h => by
    have hx := h x (by simp)
    unfold normZ
    rw [if_neg (by intro e; exact hl e.1), settled_same hx, norm_same r x hx.2.1 (fun c hc => h c (by simp [hc]))]

/-- What is told once is told the same again. -/
theorem runes_again {xs : List Int} (h : ∀ c ∈ xs, Told c) : runesZ (strOfNums (bytesZ xs)) = xs := by
  unfold runesZ
  rw [chars_of_bytes xs (fun c hc => (h c hc).1)]
  exact norm_same xs 0 (by omega) h

end Go.Proofs.YtdibldcnklgcjaaGreatDoor
