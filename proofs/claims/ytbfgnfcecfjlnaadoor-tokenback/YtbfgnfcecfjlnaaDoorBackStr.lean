/- What is written as a string is that string again, over characters; a clean text's bytes are its characters' bytes; what Escape and Quote write, in characters. -/
import Derived.Test.YtbfgnfcecfjlnaaDoorBackName
import Derived.Test.YtbfgnfcecfjlnaaDoorLine
namespace Go.Proofs.YtbfgnfcecfjlnaaDoor
open Go.RowKit

def quoPart (c : Int) : List Int := if unseenB c then numL c else if c = 34 ∨ c = 92 then [92, c] else [c]
theorem quo_num {c : Int} (h1 : 1 ≤ c) (h2 : c < 128) (t : List Int) : quoZ 34 (numL c ++ t) 0 = consO c (quoZ 34 t 0) := by
  obtain ⟨d, r, e, _, h10⟩ := hexL_head c.toNat (by omega)
  have hw := esc_written h1 h2 t
  rw [numL_cons, quoZ, if_neg (by decide), if_neg (by decide), if_pos rfl, if_neg (by rw [e]; exact h10), if_neg (by rw [e]; simp), hw]
  rw [quoZ_skip]
  have hdr : (hexL c.toNat ++ 32 :: t).drop ((hexL c.toNat).length + 1) = t := by
    rw [List.drop_append, List.drop_eq_nil_of_le (by omega)]
    simp
  rw [hdr]
theorem quo_slash {c : Int} (h : c = 34 ∨ c = 92) (t : List Int) : quoZ 34 (92 :: c :: t) 0 = consO c (quoZ 34 t 0) := by
  have hx : escT (c :: t) = (c, 1) := by
    unfold escT
    rw [if_neg (by simp), if_pos (by show hexZ c < 0; rcases h with rfl | rfl <;> decide)]
    rfl
  have h10 : c ≠ 10 := by omega
  rw [quoZ, if_neg (by decide), if_neg (by decide), if_pos rfl, if_neg (by exact h10), if_neg (by simp), hx, quoZ_skip]
  rfl
theorem quo_part {c : Int} (h0 : c ≠ 0) (t : List Int) : quoZ 34 (quoPart c ++ t) 0 = consO c (quoZ 34 t 0) := by
  unfold quoPart
  split
  · rename_i h
    obtain ⟨h1, h2⟩ := unseen_cases h h0
    exact quo_num h1 h2 t
  · rename_i hu
    split
    · rename_i h
      exact quo_slash h t
    · rename_i h
      have h10 : c ≠ 10 := by
        intro e
        subst e
        exact hu (by decide)
      show quoZ 34 (c :: t) 0 = _
      rw [quoZ, if_neg (by omega), if_neg h10, if_neg (by omega)]
theorem quo_parts : ∀ (xs : List Int), (∀ c ∈ xs, c ≠ 0) → quoZ 34 (xs.flatMap quoPart ++ [34]) 0 = (some xs, [])
  | [], _ => by decide
  | c :: r, h => by
    rw [List.flatMap_cons, List.append_assoc, quo_part (h c (by simp)), quo_parts r (fun d hd => h d (by simp [hd]))]
    rfl
def quoC (xs : List Int) : List Int := 34 :: (xs.flatMap quoPart ++ [34])
theorem toks_quoted (xs : List Int) (h : ∀ c ∈ xs, c ≠ 0) : toks (quoC xs) = [plainTok 5 xs] := by
  have hone : oneZ (quoC xs) = (some (plainTok 5 xs), []) := by
    unfold oneZ quoC
    have a1 : standsB [47, 42] (34 :: (xs.flatMap quoPart ++ [34])) = false := by simp [standsB, hd]
    have a2 : blankZ (hd (34 :: (xs.flatMap quoPart ++ [34])) 0) = false := by simp [hd, blankZ]
    have a3 : quoteB (34 :: (xs.flatMap quoPart ++ [34])) = true := rfl
    simp only [a1, a2, a3, Bool.false_eq_true, if_false, if_true]
    have hs : strZ (34 :: (xs.flatMap quoPart ++ [34])) = (plainTok 5 xs, []) := by
      unfold strZ
      show (match quoZ 34 (xs.flatMap quoPart ++ [34]) 0 with | (some t, r) => (plainTok 5 t, r) | (none, r) => (plainTok 6 [], r)) = _
      rw [quo_parts xs h]
    rw [hs]
    rfl
  unfold quoC at hone ⊢
  rw [toks_cons, hone]
  rfl

/-! ### bytes -/

theorem bytesZ_ascii : ∀ (l : List Int), (∀ x ∈ l, 0 ≤ x ∧ x < 128) → bytesZ l = l
  | [], _ => rfl
  | c :: r, h => by
    have hc := h c (by simp)
    rw [bytesZ_cons, Lib.encodeRuneZ_one hc.1 (by omega), bytesZ_ascii r (fun x hx => h x (by simp [hx]))]
    simp
theorem hexL_ascii (n : Nat) (h : n < 128) : ∀ x ∈ hexL n, 48 ≤ x ∧ x < 128 := by
  have hd : ∀ m : Fin 16, 48 ≤ digZ m.val ∧ digZ m.val < 128 := by decide
  intro x hx
  unfold hexL at hx
  split at hx
  · rename_i h1
    simp at hx
    rw [hx]
    exact hd ⟨n, h1⟩
  · simp at hx
    rcases hx with rfl | rfl
    · exact hd ⟨n / 16, by omega⟩
    · exact hd ⟨n % 16, by omega⟩
theorem numL_ascii {c : Int} (h : c.toNat < 128) : ∀ x ∈ numL c, 32 ≤ x ∧ x < 128 := by
  intro x hx
  unfold numL at hx
  simp at hx
  rcases hx with rfl | hx | rfl
  · omega
  · have := hexL_ascii _ h x hx
    omega
  · omega
theorem bytes_num {c : Int} (h : c.toNat < 128) : bytesZ (numL c) = numL c := bytesZ_ascii _ (fun x hx => by have := numL_ascii h x hx; omega)
theorem bytes_part {c : Int} (h0 : c ≠ 0) : bytesZ (partC c) = partL c := by
  unfold partC partL
  split
  · rename_i h
    obtain ⟨h1, h2⟩ := unseen_cases h h0
    unfold unseenL
    rw [if_neg h0, if_pos h, bytes_num (by omega)]
  · split
    · simp [bytesZ]
    · unfold slashL
      rw [bytesZ_cons, Lib.encodeRuneZ_one (by omega) (by omega)]
      simp [bytesZ]
theorem told_num {c : Int} (h : c.toNat < 128) : ∀ x ∈ numL c, Told x := by
  intro x hx
  have := numL_ascii h x hx
  exact ⟨⟨by omega, by omega, by omega⟩, by omega, by omega, by omega⟩
theorem told_seen {c : Int} (hc : IsChar c) (hu : unseenB c = false) : Told c := by
  unfold unseenB at hu
  simp at hu
  exact ⟨hc, by omega, by omega, by omega⟩
theorem told_92 : Told 92 := ⟨⟨by omega, by omega, by omega⟩, by omega, by omega, by omega⟩
theorem told_part {c : Int} (hc : IsChar c) (h0 : c ≠ 0) : ∀ x ∈ partC c, Told x := by
  unfold partC
  split
  · rename_i h
    obtain ⟨h1, h2⟩ := unseen_cases h h0
    exact told_num (by omega)
  · rename_i hu
    have ht := told_seen hc (by simpa using hu)
    split
    · intro x hx; simp at hx; subst hx; exact ht
    · intro x hx
      simp at hx
      rcases hx with rfl | rfl
      · exact told_92
      · exact ht
theorem told_quo {c : Int} (hc : IsChar c) (h0 : c ≠ 0) : ∀ x ∈ quoPart c, Told x := by
  unfold quoPart
  split
  · rename_i h
    obtain ⟨h1, h2⟩ := unseen_cases h h0
    exact told_num (by omega)
  · rename_i hu
    have ht := told_seen hc (by simpa using hu)
    split
    · intro x hx
      simp at hx
      rcases hx with rfl | rfl
      · exact told_92
      · exact ht
    · intro x hx; simp at hx; subst hx; exact ht
theorem told_parts {xs : List Int} (hc : ∀ c ∈ xs, IsChar c) (h0 : ∀ c ∈ xs, c ≠ 0) : ∀ x ∈ xs.flatMap partC, Told x := by
  intro x hx
  obtain ⟨c, h1, h2⟩ := List.mem_flatMap.1 hx
  exact told_part (hc c h1) (h0 c h1) x h2
theorem told_first {c : Int} (hc : IsChar c) (h0 : c ≠ 0) (p : Prop) [Decidable p] (hp : p → digitZ c = true) : ∀ x ∈ (if p then numL c else partC c), Told x := by
  split
  · rename_i h
    obtain ⟨h1, h2⟩ := digit_num (hp h)
    exact told_num (by omega)
  · exact told_part hc h0
theorem told_esc : ∀ (xs : List Int), (∀ c ∈ xs, IsChar c) → (∀ c ∈ xs, c ≠ 0) → ∀ x ∈ escC xs, Told x
  | [], _, _ => by simp [escC]
  | [c], hc, h0 => by
    rw [escC]
    split
    · intro x hx
      simp at hx
      rcases hx with rfl | rfl
      · exact told_92
      · exact ⟨⟨by omega, by omega, by omega⟩, by omega, by omega, by omega⟩
    · exact told_first (hc c (by simp)) (h0 c (by simp)) _ id
  | c :: d :: r, hc, h0 => by
    rw [escC]
    intro x hx
    rcases List.mem_append.1 hx with h | h
    · exact told_first (hc c (by simp)) (h0 c (by simp)) _ id x h
    · rcases List.mem_append.1 h with h | h
      · exact told_first (hc d (by simp)) (h0 d (by simp)) _ (fun y => y.2) x h
      · exact told_parts (fun e he => hc e (by simp [he])) (fun e he => h0 e (by simp [he])) x h
theorem bytes_first {c : Int} (h0 : c ≠ 0) (p : Prop) [Decidable p] (hp : p → digitZ c = true) : bytesZ (if p then numL c else partC c) = if p then numL c else partL c := by
  split
  · rename_i h
    obtain ⟨h1, h2⟩ := digit_num (hp h)
    exact bytes_num (by omega)
  · exact bytes_part h0
theorem bytes_parts : ∀ (xs : List Int), (∀ c ∈ xs, c ≠ 0) → bytesZ (xs.flatMap partC) = xs.flatMap partL
  | [], _ => rfl
  | c :: r, h => by
    rw [List.flatMap_cons, List.flatMap_cons, bytesZ_app, bytes_part (h c (by simp)), bytes_parts r (fun d hd => h d (by simp [hd]))]
theorem escFrom_tail (s : ByteArray) : ∀ (f pos : Nat), 2 ≤ pos → escFrom s f pos = (charsFrom s f pos).flatMap partL
  | 0, _, _ => rfl
  | f + 1, pos, h => by
    rw [escFrom, charsFrom]
    split
    · rw [List.flatMap_cons, escFrom_tail s f _ (by omega)]
      unfold escAt
      have e1 : (pos == 0) = false := by simp; omega
      have e2 : (pos == 1) = false := by simp; omega
      rw [e1, e2]
      simp
    · rfl
theorem dash_first (s : ByteArray) : ((Utf8.decode s 0).1 = 45 ∧ (Utf8.decode s 0).2 = 1 ∧ (s.get! 0).toNat = 45) ∨ ((Utf8.decode s 0).1 ≠ 45 ∧ (s.get! 0).toNat ≠ 45) := by
  rw [Lib.decode_at]
  generalize (s.get! 0).toNat = b0
  generalize (s.get! (0 + 1)).toNat = b1
  generalize (s.get! (0 + 2)).toNat = b2
  generalize (s.get! (0 + 3)).toNat = b3
  by_cases h : b0 = 45
  · left
    subst h
    exact ⟨rfl, rfl, rfl⟩
  · right
    refine ⟨?_, h⟩
    unfold Lib.decodeN
    repeat' split
    all_goals (simp only; omega)
theorem get_eq (s : ByteArray) : (s.get! 0 == 45) = decide ((s.get! 0).toNat = 45) := by
  rw [Bool.eq_iff_iff]
  simp only [beq_iff_eq, decide_eq_true_eq]
  constructor
  · intro h; rw [h]; rfl
  · intro h; exact UInt8.toNat_inj.1 h
theorem one_dash {s : ByteArray} (h1 : s.size = 1) (h2 : (s.get! 0).toNat = 45) : s = ⟨#[45]⟩ := by
  have e := bytesL_str s
  rw [← e]
  have hl : bytesL s = [45] := by
    have hlen := bytesL_size s
    rw [h1] at hlen
    obtain ⟨x, hx⟩ := List.length_eq_one_iff.1 hlen
    have hg : ((strOfNums (bytesL s)).get! 0).toNat = 45 := by rw [e]; exact h2
    rw [str_get (bytesL_byte s), hx] at hg
    have hb := bytesL_byte s x (by rw [hx]; simp)
    simp at hg
    have : x = 45 := by omega
    rw [hx, this]
  rw [hl]
  rfl
theorem esc_chars (s : ByteArray) (h0 : ∀ c ∈ chars s, c ≠ 0) : escL s = bytesZ (escC (chars s)) := by
  unfold escL
  split
  · rename_i h
    subst h
    decide +kernel
  · rename_i hne
    unfold chars at h0 ⊢
    cases hsz : s.size with
    | zero => rfl
    | succ n =>
      rw [hsz] at h0
      have hp : 0 < s.size := by omega
      have hw := Lib.decode_width_pos s 0 hp
      have hdf := dash_first s
      rw [escFrom, charsFrom, if_pos hp, if_pos hp]
      rw [charsFrom, if_pos hp] at h0
      simp only [Nat.zero_add] at h0 ⊢
      have ha : escAt s 0 (Utf8.decode s 0).1 = if digitZ (Utf8.decode s 0).1 then numL (Utf8.decode s 0).1 else partL (Utf8.decode s 0).1 := by
        unfold escAt
        simp
      rw [ha]
      have hc0 := h0 _ (List.mem_cons_self)
      by_cases h1 : (Utf8.decode s 0).2 < s.size
      · obtain ⟨m, rfl⟩ : ∃ m, n = m + 1 := ⟨n - 1, by omega⟩
        rw [charsFrom, if_pos h1] at h0
        rw [escFrom, charsFrom, if_pos h1, if_pos h1]
        have hw1 := Lib.decode_width_pos s _ h1
        have hd0 := h0 _ (List.mem_cons_of_mem _ List.mem_cons_self)
        rw [escFrom_tail s m _ (by omega)]
        have hb : escAt s (Utf8.decode s 0).2 (Utf8.decode s (Utf8.decode s 0).2).1 = if ((Utf8.decode s 0).1 : Int) = 45 ∧ digitZ (Utf8.decode s (Utf8.decode s 0).2).1 = true then numL (Utf8.decode s (Utf8.decode s 0).2).1 else partL (Utf8.decode s (Utf8.decode s 0).2).1 := by
          unfold escAt
          have e1 : ((Utf8.decode s 0).2 == 0) = false := by simp; omega
          rw [e1, get_eq, Bool.false_or]
          rcases hdf with ⟨a1, a2, a3⟩ | ⟨a1, a3⟩
          · rw [a1, a2, a3]
            simp
          · have n1 : ¬ ((Utf8.decode s 0).1 : Int) = 45 := by omega
            simp [a3, n1]
        rw [hb]
        generalize ((Utf8.decode s 0).1 : Int) = c at *
        generalize ((Utf8.decode s (Utf8.decode s 0).2).1 : Int) = d at *
        generalize charsFrom s m _ = r at *
        rw [escC, bytesZ_app, bytesZ_app, bytes_first hc0 _ id, bytes_first hd0 _ (fun y => y.2), bytes_parts r (fun e he => h0 e (by simp [he]))]
      · rw [escFrom_end _ _ _ h1, charsFrom_end _ _ _ h1, List.append_nil]
        have hn45 : ¬ ((Utf8.decode s 0).1 : Int) = 45 := by
          intro e
          rcases hdf with ⟨a1, a2, a3⟩ | ⟨a1, a3⟩
          · exact hne (one_dash (by omega) a3)
          · omega
        generalize ((Utf8.decode s 0).1 : Int) = c at *
        rw [escC, if_neg hn45, bytes_first hc0 _ id]

/-! ### a clean text's bytes -/

theorem enc_dec (s : ByteArray) (pos : Nat) (hc : (Utf8.decode s pos).1 ≠ 65533) (hp : pos < s.size) :
    Lib.encodeRuneZ ((Utf8.decode s pos).1 : Int) = ((bytesL s).drop pos).take (Utf8.decode s pos).2 := by
  have hg : ∀ i, pos + i < s.size → (bytesL s)[pos + i]? = some (((s.get! (pos + i)).toNat : Nat) : Int) := by
    intro i hi
    have h := str_get (bytesL_byte s) (pos + i)
    rw [bytesL_str] at h
    have hlt : pos + i < (bytesL s).length := by rw [bytesL_size]; exact hi
    have hb := bytesL_byte s ((bytesL s)[pos + i]'hlt) (List.getElem_mem hlt)
    rw [List.getElem?_eq_getElem hlt, h]
    simp [List.getD, List.getElem?_eq_getElem hlt]
    omega
  have h0 := hg 0 (by omega)
  have ht : ∀ k l, l.length = k → pos + k ≤ s.size → (∀ i, i < k → (bytesL s)[pos + i]? = l[i]?) → ((bytesL s).drop pos).take k = l := by
    intro k l hl hk hi
    apply List.ext_getElem?
    intro i
    by_cases h : i < k
    · rw [List.getElem?_take, if_pos h, List.getElem?_drop]
      exact hi i h
    · rw [List.getElem?_take, if_neg h, List.getElem?_eq_none (by omega)]
  rw [Lib.decode_at] at hc ⊢
  have hb0 := (s.get! pos).toNat_lt
  have hb1 := (s.get! (pos + 1)).toNat_lt
  have hb2 := (s.get! (pos + 2)).toNat_lt
  have hb3 := (s.get! (pos + 3)).toNat_lt
  have g1 := hg 1
  have g2 := hg 2
  have g3 := hg 3
  rw [Nat.add_zero] at h0
  generalize (s.get! pos).toNat = b0 at *
  generalize (s.get! (pos + 1)).toNat = b1 at *
  generalize (s.get! (pos + 2)).toNat = b2 at *
  generalize (s.get! (pos + 3)).toNat = b3 at *
  unfold Lib.decodeN at hc ⊢
  split
  · rename_i a
    rw [Lib.encodeRuneZ_one (by omega) (by simp only; omega)]
    refine (ht 1 _ rfl (by omega) ?_).symm
    intro i hi
    obtain rfl : i = 0 := by omega
    rw [Nat.add_zero, h0]
    rfl
  · rename_i a
    rw [if_neg a] at hc
    split
    · rename_i b
      rw [if_pos b] at hc
      split
      · rename_i c
        simp only
        rw [Lib.encodeRuneZ_two (by omega) (by omega)]
        refine (ht 2 _ rfl (by omega) ?_).symm
        intro i hi
        rcases (show i = 0 ∨ i = 1 by omega) with rfl | rfl
        · rw [Nat.add_zero, h0]; simp; omega
        · rw [g1 (by omega)]; simp; omega
      · rename_i c
        rw [if_neg c] at hc
        exact absurd rfl hc
    · rename_i b
      rw [if_neg b] at hc
      split
      · rename_i d
        rw [if_pos d] at hc
        split
        · rename_i c
          simp only
          rw [Lib.encodeRuneZ_three (by omega)]
          refine (ht 3 _ rfl (by omega) ?_).symm
          intro i hi
          rcases (show i = 0 ∨ i = 1 ∨ i = 2 by omega) with rfl | rfl | rfl
          · rw [Nat.add_zero, h0]; simp; omega
          · rw [g1 (by omega)]; simp; omega
          · rw [g2 (by omega)]; simp; omega
        · rename_i c
          rw [if_neg c] at hc
          exact absurd rfl hc
      · rename_i d
        rw [if_neg d] at hc
        split
        · rename_i e
          rw [if_pos e] at hc
          split
          · rename_i c
            simp only
            rw [Lib.encodeRuneZ_four (by omega) (by omega)]
            refine (ht 4 _ rfl (by omega) ?_).symm
            intro i hi
            rcases (show i = 0 ∨ i = 1 ∨ i = 2 ∨ i = 3 by omega) with rfl | rfl | rfl | rfl
            · rw [Nat.add_zero, h0]; simp; omega
            · rw [g1 (by omega)]; simp; omega
            · rw [g2 (by omega)]; simp; omega
            · rw [g3 (by omega)]; simp; omega
          · rename_i c
            rw [if_neg c] at hc
            exact absurd rfl hc
        · rename_i e
          rw [if_neg e] at hc
          exact absurd rfl hc
theorem chars_bytes (s : ByteArray) : ∀ (f pos : Nat), s.size ≤ pos + f → pos ≤ s.size → (∀ c ∈ charsFrom s f pos, c ≠ 65533) → bytesZ (charsFrom s f pos) = (bytesL s).drop pos
  | 0, pos, h, _, _ => by
    rw [List.drop_eq_nil_of_le (by rw [bytesL_size]; omega)]
    rfl
  | f + 1, pos, h, hp, hc => by
    rw [charsFrom] at hc ⊢
    split
    · rename_i hlt
      rw [if_pos hlt] at hc
      have hw := Lib.decode_width_pos s pos hlt
      have hw2 : (Utf8.decode s pos).2 ≤ s.size - pos := by
        rw [Lib.decode_at]
        exact decodeN_width _ _ _ _ _ (by omega)
      have hne : (Utf8.decode s pos).1 ≠ 65533 := by
        have := hc _ List.mem_cons_self
        omega
      rw [bytesZ_cons, enc_dec s pos hne hlt, chars_bytes s f _ (by omega) (by omega) (fun c h => hc c (by simp [h])), ← List.drop_drop, List.take_append_drop]
    · rw [List.drop_eq_nil_of_le (by rw [bytesL_size]; omega)]
      rfl
theorem clean_bytes (s : ByteArray) (h : ∀ c ∈ chars s, c ≠ 65533) : strOfNums (bytesZ (chars s)) = s := by
  have := chars_bytes s s.size 0 (by omega) (by omega) h
  unfold chars
  rw [this, List.drop_zero, bytesL_str]
end Go.Proofs.YtbfgnfcecfjlnaaDoor
