/- Characters of escapes and names; characters in bytes as the model makes a string of them. -/
import Derived.Test.YtihdiaklhkecmabRefMoves
import Derived.Laws.Cover4
namespace Go.Proofs.Ytihdiaklhkecmab
open Go.RowKit

theorem numbered_char {n : Int} (h0 : 0 ≤ n) : IsChar (numberedZ n) := by
  unfold numberedZ IsChar
  split <;> omega
theorem hexN_pos : ∀ (k : Nat) (l : List Int) (n : Int), 0 ≤ n → 0 ≤ (hexN k l n).1
  | 0, _, _, h => h
  | k + 1, l, n, h => by
    rw [hexN]
    split
    · exact hexN_pos k _ _ (by omega)
    · exact h
theorem escT_char {t : List Int} (ht : ∀ c ∈ t, IsChar c) : IsChar (escT t).1 := by
  unfold escT
  split
  · exact ⟨by decide, by decide, by decide⟩
  · split
    · rename_i h0 _
      obtain ⟨c, r, rfl⟩ := List.exists_cons_of_ne_nil h0
      exact ht c (by simp)
    · exact numbered_char (hexN_pos _ _ _ (by omega))
theorem char_32 {c : Int} (h : IsChar c) : -2147483648 ≤ c ∧ c ≤ 2147483647 := by unfold IsChar at h; omega
theorem nameT_stop {l : List Int} (hp : partZ (hd l 0) = false) (he : escB l = false) : nameT l 0 = [] ∧ nameR l 0 = l := by
  cases l with
  | nil => exact ⟨rfl, rfl⟩
  | cons c t =>
    have hc : partZ c = false := hp
    exact ⟨by rw [nameT, if_neg (by simp [hc]), if_neg (by simp [he])], by rw [nameR, if_neg (by simp [hc]), if_neg (by simp [he])]⟩
theorem nameT_part {c : Int} {t : List Int} (hp : partZ c = true) : nameT (c :: t) 0 = c :: nameT t 0 ∧ nameR (c :: t) 0 = nameR t 0 :=
  ⟨by rw [nameT, if_pos hp], by rw [nameR, if_pos hp]⟩
theorem nameT_esc {c : Int} {t : List Int} (hp : partZ c = false) (he : escB (c :: t) = true) : nameT (c :: t) 0 = (escT t).1 :: nameT (t.drop (escT t).2) 0 ∧ nameR (c :: t) 0 = nameR (t.drop (escT t).2) 0 :=
  ⟨by rw [nameT, if_neg (by simp [hp]), if_pos he, nameT_skip], by rw [nameR, if_neg (by simp [hp]), if_pos he, nameR_skip]⟩
theorem nums_two (a c : List Int) : strOfNums (a ++ c) = strOfNums a ++ strOfNums c := by
  apply ByteArray.ext
  show ((a ++ c).map _).toArray = _
  rw [ByteArray.data_append]
  simp [strOfNums]
theorem enc_eq {c : Int} (h : IsChar c) : Utf8.encode c = strOfNums (Lib.encodeRuneZ c) := by
  obtain ⟨h0, h1, h2⟩ := h
  obtain ⟨n, rfl⟩ : ∃ n : Nat, c = n := ⟨c.toNat, by omega⟩
  have hv : Utf8.valid (n : Int) = true := by
    unfold Utf8.valid
    simp
    omega
  unfold Utf8.encode
  simp only [hv, if_true]
  have e0 : ((n : Int)).toNat = n := by omega
  rw [e0]
  by_cases a1 : n < 128
  · rw [if_pos a1, Lib.encodeRuneZ_one (by omega) (by omega)]
    simp [strOfNums, e0]
  · rw [if_neg a1]
    by_cases a2 : n < 2048
    · rw [if_pos a2, Lib.encodeRuneZ_two (by omega) (by omega)]
      have b1 : ((192 : Int) + n / 64).toNat = 192 + n / 64 := by omega
      have b2 : ((128 : Int) + n % 64).toNat = 128 + n % 64 := by omega
      simp [strOfNums, b1, b2]
    · rw [if_neg a2]
      by_cases a3 : n < 65536
      · rw [if_pos a3, Lib.encodeRuneZ_three (by omega)]
        have b1 : ((224 : Int) + n / 4096).toNat = 224 + n / 4096 := by omega
        have b2 : ((128 : Int) + n / 64 % 64).toNat = 128 + n / 64 % 64 := by omega
        have b3 : ((128 : Int) + n % 64).toNat = 128 + n % 64 := by omega
        simp [strOfNums, b1, b2, b3]
      · rw [if_neg a3, Lib.encodeRuneZ_four (by omega) (by omega)]
        have b0 : ((240 : Int) + n / 262144).toNat = 240 + n / 262144 := by omega
        have b1 : ((128 : Int) + n / 4096 % 64).toNat = 128 + n / 4096 % 64 := by omega
        have b2 : ((128 : Int) + n / 64 % 64).toNat = 128 + n / 64 % 64 := by omega
        have b3 : ((128 : Int) + n % 64).toNat = 128 + n % 64 := by omega
        simp [strOfNums, b0, b1, b2, b3]
theorem runes_bytes : ∀ (l : List Int) (s : List Int), (∀ c ∈ l, IsChar c) → l.foldl (fun r n => r ++ Utf8.encode n) (strOfNums s) = strOfNums (s ++ bytesZ l)
  | [], s, _ => by simp [bytesZ]
  | c :: r, s, h => by
    rw [List.foldl_cons, enc_eq (h c (by simp)), ← nums_two, runes_bytes r _ (fun d hd => h d (by simp [hd])), List.append_assoc, bytesZ_cons]
theorem runesBytes_eq (l : List Int) (h : ∀ c ∈ l, IsChar c) : runesBytes l = strOfNums (bytesZ l) := by
  have := runes_bytes l [] h
  rw [List.nil_append] at this
  exact this

def strT (l : List Int) : ByteArray := strOfNums (bytesZ l)
def tokCells (t : Tok) : List Value := [.int .i64 t.kind, .string (strT t.text), .string (strT t.unit), .bool t.whole, .bool t.flag]
def tokV (t : Tok) : Value := .agg #[.int .i64 t.kind, .string (strT t.text), .string (strT t.unit), .bool t.whole, .bool t.flag]
theorem hexN_len : ∀ (k : Nat) (l : List Int) (n : Int), (hexN k l n).2 ≤ l.length
  | 0, _, _ => Nat.zero_le _
  | k + 1, [], n => by simp [hexN, hd, hexZ]
  | k + 1, c :: t, n => by
    rw [hexN]
    split
    · have := hexN_len k t (n * 16 + hexZ (hd (c :: t) 0))
      simp only [List.length_cons]
      exact Nat.succ_le_succ this
    · exact Nat.zero_le _
theorem escT_len (t : List Int) : (escT t).2 ≤ t.length := by
  unfold escT
  split
  · exact Nat.zero_le _
  · rename_i h0
    split
    · exact List.length_pos_iff.2 h0
    · have h1 := hexN_len 6 t 0
      simp only
      split
      · rename_i hb
        by_cases h2 : (hexN 6 t 0).2 < t.length
        · omega
        · rw [hd_end h2] at hb
          exact absurd hb (by decide)
      · exact h1
theorem conv_runes {w : World} {v : Value} {xs : List Int} (h : RowAt .i32 w v xs) (hc : ∀ c ∈ xs, IsChar c) : (convert 49 9 v).run Try.prog w = .ok (.string (strT xs)) w := by
  obtain ⟨a, cap, rfl, hcap, hcell⟩ := h
  unfold strT
  rw [← runesBytes_eq xs hc]
  cases a with
  | none =>
    have h0 : xs = [] := by
      by_cases h : 0 < xs.length
      · obtain ⟨b, off, e, _⟩ := hcell h
        cases e
      · exact List.length_eq_zero_iff.1 (by omega)
    subst h0
    exact run_convert_runes_nil w 49 9 21 _ _ Try.underlying49 Try.underlying21 Try.underlying9
  | some ad =>
    have := run_convert_runes w 49 9 21 ad xs.length cap xs (Nat.le_refl _) Try.underlying49 Try.underlying21 Try.underlying9 ?_
    · rw [List.take_length] at this
      exact this
    · intro j hj
      obtain ⟨b, off, e, q⟩ := hcell (by omega)
      cases e
      have e : (⟨b, off, none⟩ : Addr).add j = ⟨b, off + j, none⟩ := by unfold Addr.add; split <;> simp_all
      rw [e]
      exact q j hj
end Go.Proofs.Ytihdiaklhkecmab
