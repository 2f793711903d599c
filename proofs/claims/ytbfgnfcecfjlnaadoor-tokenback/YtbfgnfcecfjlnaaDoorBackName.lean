/- What is written as a name is read as that name again; what is written as a string is that string: over characters. -/
import Derived.Test.YtbfgnfcecfjlnaaDoorEscapes
namespace Go.Proofs.YtbfgnfcecfjlnaaDoor
open Go.RowKit

/-- A character within a name, in characters. -/
def partC (c : Int) : List Int := if unseenB c then numL c else if partZ c then [c] else [92, c]
theorem hex_dig : ∀ n : Fin 16, hexZ (digZ n.val) = n.val := by decide
theorem hexZ_dig (n : Nat) (h : n < 16) : hexZ (digZ n) = n := hex_dig ⟨n, h⟩
theorem hexN_hit {k : Nat} {c : Int} {t : List Int} {n : Int} (h : 0 ≤ hexZ c) : hexN (k + 1) (c :: t) n = ((hexN k t (n * 16 + hexZ c)).1, (hexN k t (n * 16 + hexZ c)).2 + 1) := by
  rw [hexN]
  exact if_pos h
theorem hexN_miss {k : Nat} {c : Int} {t : List Int} {n : Int} (h : hexZ c < 0) : hexN (k + 1) (c :: t) n = (n, 0) := by
  rw [hexN]
  exact if_neg (by show ¬ 0 ≤ hexZ c; omega)
theorem hex_written (n : Nat) (h : n < 128) (t : List Int) : hexN 6 (hexL n ++ 32 :: t) 0 = ((n : Int), (hexL n).length) := by
  have h32 : hexZ 32 < 0 := by decide
  unfold hexL
  split
  · rename_i h1
    have e := hexZ_dig n h1
    rw [List.cons_append, hexN_hit (by rw [e]; omega), List.nil_append, hexN_miss h32, e]
    simp
  · rename_i h1
    have e1 := hexZ_dig (n / 16) (by omega)
    have e2 := hexZ_dig (n % 16) (by omega)
    rw [List.cons_append, hexN_hit (by rw [e1]; omega), List.cons_append, hexN_hit (by rw [e2]; omega), List.nil_append, hexN_miss h32, e1, e2]
    simp only [Int.zero_mul, Int.zero_add]
    refine Prod.ext ?_ rfl
    show ((n / 16 : Nat) : Int) * 16 + ((n % 16 : Nat) : Int) = n
    omega
theorem hexL_head (n : Nat) (h : n < 128) : ∃ d r, hexL n = d :: r ∧ 0 ≤ hexZ d ∧ d ≠ 10 := by
  have hd : ∀ m : Fin 16, 0 ≤ hexZ (digZ m.val) ∧ digZ m.val ≠ 10 := by decide
  unfold hexL
  split
  · rename_i h1
    exact ⟨_, _, rfl, (hd ⟨n, h1⟩).1, (hd ⟨n, h1⟩).2⟩
  · exact ⟨_, _, rfl, (hd ⟨n / 16, by omega⟩).1, (hd ⟨n / 16, by omega⟩).2⟩
theorem esc_written {c : Int} (h1 : 1 ≤ c) (h2 : c < 128) (t : List Int) : escT (hexL c.toNat ++ 32 :: t) = (c, (hexL c.toNat).length + 1) := by
  have hw := hex_written c.toNat (by omega) t
  obtain ⟨d, r, e, hx0, _⟩ := hexL_head c.toNat (by omega)
  have hc : ((c.toNat : Nat) : Int) = c := by omega
  rw [hc] at hw
  unfold escT
  rw [if_neg (by rw [e]; simp), if_neg (by rw [e]; show ¬ hexZ d < 0; omega), hw]
  have hb : blankZ (hd (hexL c.toNat ++ 32 :: t) (hexL c.toNat).length) = true := by
    unfold hd
    simp [List.getD]
    decide
  have hn : numberedZ c = c := by
    unfold numberedZ
    rw [if_neg (by omega)]
  simp only [hn]
  rw [if_pos hb]
theorem numL_cons (c : Int) (t : List Int) : numL c ++ t = 92 :: (hexL c.toNat ++ 32 :: t) := by unfold numL; simp
theorem escB_num {c : Int} (h2 : c.toNat < 128) (t : List Int) : escB (numL c ++ t) = true := by
  rw [numL_cons]
  obtain ⟨d, r, e, _, h10⟩ := hexL_head c.toNat h2
  rw [e]
  simp [escB, hd, h10]
theorem back_num {c : Int} (h1 : 1 ≤ c) (h2 : c < 128) (t : List Int) : nameT (numL c ++ t) 0 = c :: nameT t 0 ∧ nameR (numL c ++ t) 0 = nameR t 0 := by
  have he := escB_num (c := c) (by omega) t
  rw [numL_cons] at he ⊢
  have hp : partZ 92 = false := by decide
  have := nameT_esc hp he
  rw [esc_written h1 h2] at this
  have hdr : (hexL c.toNat ++ 32 :: t).drop ((hexL c.toNat).length + 1) = t := by
    rw [List.drop_append, List.drop_eq_nil_of_le (by omega)]
    simp
  simp only [hdr] at this
  exact this
theorem hex_part : ∀ c : Int, partZ c = false → hexZ c < 0 := by
  intro c h
  unfold hexZ
  have hp := h
  unfold partZ startZ digitZ at hp
  simp at hp
  rw [if_neg (by omega), if_neg (by omega), if_neg (by omega)]
  omega
theorem back_slash {c : Int} (hp : partZ c = false) (h10 : c ≠ 10) (t : List Int) : nameT (92 :: c :: t) 0 = c :: nameT t 0 ∧ nameR (92 :: c :: t) 0 = nameR t 0 := by
  have hp92 : partZ 92 = false := by decide
  have he : escB (92 :: c :: t) = true := by simp [escB, hd, h10]
  have hx : escT (c :: t) = (c, 1) := by
    unfold escT
    rw [if_neg (by simp), if_pos (by show hexZ c < 0; exact hex_part c hp)]
    rfl
  have := nameT_esc hp92 he
  rw [hx] at this
  exact this
theorem unseen_cases {c : Int} (h : unseenB c = true) (h0 : c ≠ 0) : 1 ≤ c ∧ c < 128 := by
  unfold unseenB at h
  simp at h
  omega
theorem back_part {c : Int} (h0 : c ≠ 0) (t : List Int) : nameT (partC c ++ t) 0 = c :: nameT t 0 ∧ nameR (partC c ++ t) 0 = nameR t 0 := by
  unfold partC
  split
  · rename_i h
    obtain ⟨h1, h2⟩ := unseen_cases h h0
    exact back_num h1 h2 t
  · rename_i hu
    split
    · rename_i hp
      exact nameT_part hp
    · rename_i hp
      refine back_slash (by simpa using hp) ?_ t
      intro e
      subst e
      exact hu (by decide)
theorem back_parts : ∀ (r : List Int), (∀ c ∈ r, c ≠ 0) → nameT (r.flatMap partC) 0 = r ∧ nameR (r.flatMap partC) 0 = []
  | [], _ => ⟨rfl, rfl⟩
  | c :: r, h => by
    have ih := back_parts r (fun d hd => h d (by simp [hd]))
    have hb := back_part (h c (by simp)) (r.flatMap partC)
    rw [List.flatMap_cons, hb.1, hb.2, ih.1, ih.2]
    exact ⟨rfl, rfl⟩
/-- A text as a name, in characters. -/
def escC : List Int → List Int
  | [] => []
  | [c] => if c = 45 then [92, 45] else if digitZ c then numL c else partC c
  | c :: d :: r => (if digitZ c then numL c else partC c) ++ ((if c = 45 ∧ digitZ d = true then numL d else partC d) ++ r.flatMap partC)
theorem digit_num {c : Int} (h : digitZ c = true) : 1 ≤ c ∧ c < 128 := by
  unfold digitZ at h
  simp at h
  omega
theorem back_first {c : Int} (h0 : c ≠ 0) (p : Prop) [Decidable p] (hp : p → digitZ c = true) (t : List Int) : nameT ((if p then numL c else partC c) ++ t) 0 = c :: nameT t 0 ∧ nameR ((if p then numL c else partC c) ++ t) 0 = nameR t 0 := by
  split
  · rename_i h
    obtain ⟨h1, h2⟩ := digit_num (hp h)
    exact back_num h1 h2 t
  · exact back_part h0 t
theorem back_name (xs : List Int) (h : ∀ c ∈ xs, c ≠ 0) : nameT (escC xs) 0 = xs ∧ nameR (escC xs) 0 = [] := by
  match xs, h with
  | [], _ => exact ⟨rfl, rfl⟩
  | [c], h =>
    rw [escC]
    split
    · rename_i e
      subst e
      exact ⟨by decide, by decide⟩
    · have := back_first (h c (by simp)) (digitZ c = true) id []
      rw [List.append_nil] at this
      exact this
  | c :: d :: r, h =>
    have hr := back_parts r (fun e he => h e (by simp [he]))
    have h1 := back_first (h c (by simp)) (digitZ c = true) id ((if c = 45 ∧ digitZ d = true then numL d else partC d) ++ r.flatMap partC)
    have h2 := back_first (h d (by simp)) (c = 45 ∧ digitZ d = true) (fun x => x.2) (r.flatMap partC)
    rw [escC, h1.1, h1.2, h2.1, h2.2, hr.1, hr.2]
    exact ⟨rfl, rfl⟩
theorem name_of_esc {l : List Int} (h : escB l = true) : nameB l = true := by
  have h92 : hd l 0 = 92 := by
    unfold escB at h
    rw [Bool.and_eq_true] at h
    simpa using h.1
  unfold nameB wordB
  rw [h92, h]
  simp
theorem word_of_esc {l : List Int} (h : escB l = true) : wordB l = true := by unfold wordB; rw [h]; simp
theorem esc_slash (c : Int) (h : c ≠ 10) (t : List Int) : escB (92 :: c :: t) = true := by simp [escB, hd, h]
theorem part_start {c : Int} (hp : partZ c = true) (hd : digitZ c = false) (h45 : c ≠ 45) : startZ c = true := by
  unfold partZ at hp
  rw [hd] at hp
  simpa [h45] using hp
theorem word_part {c : Int} (h0 : c ≠ 0) (hd' : digitZ c = false) (h45 : c ≠ 45) (t : List Int) : wordB (partC c ++ t) = true := by
  unfold partC
  split
  · rename_i h
    obtain ⟨h1, h2⟩ := unseen_cases h h0
    exact word_of_esc (escB_num (by omega) t)
  · rename_i hu
    split
    · rename_i hp
      unfold wordB
      have : startZ (hd ([c] ++ t) 0) = true := part_start hp hd' h45
      rw [this]
      rfl
    · refine word_of_esc (esc_slash c ?_ t)
      intro e
      subst e
      exact hu (by decide)
theorem hd_word {l : List Int} (h : wordB l = true) : hd l 0 ≠ 45 := by
  unfold wordB at h
  rcases Bool.or_eq_true_iff.1 h with h1 | h1
  · intro e
    rw [e] at h1
    exact absurd h1 (by decide)
  · unfold escB at h1
    rw [Bool.and_eq_true] at h1
    have : hd l 0 = 92 := by simpa using h1.1
    omega
theorem name_of_word {l : List Int} (h : wordB l = true) : nameB l = true := by
  unfold nameB
  have := hd_word h
  rw [if_neg (by simpa using this)]
  exact h
theorem partC_dash (t : List Int) : partC 45 ++ t = 45 :: t := by
  have : partC 45 = [45] := by decide
  rw [this]
  rfl
theorem name_written : ∀ (xs : List Int), xs ≠ [] → (∀ c ∈ xs, c ≠ 0) → nameB (escC xs) = true
  | [], h, _ => absurd rfl h
  | [c], _, h => by
    rw [escC]
    split
    · decide
    · rename_i h45
      split
      · rename_i hdg
        obtain ⟨h1, h2⟩ := digit_num hdg
        have := escB_num (c := c) (by omega) []
        rw [List.append_nil] at this
        exact name_of_esc this
      · rename_i hdg
        have := word_part (h c (by simp)) (by simpa using hdg) h45 []
        rw [List.append_nil] at this
        exact name_of_word this
  | c :: d :: r, _, h => by
    rw [escC]
    by_cases h45 : c = 45
    · subst h45
      rw [if_neg (by decide), partC_dash]
      unfold nameB
      rw [if_pos (show (hd (45 :: ((if (45 : Int) = 45 ∧ digitZ d = true then numL d else partC d) ++ List.flatMap partC r)) 0 == 45) = true from rfl)]
      rw [Bool.or_eq_true]
      by_cases hdg : digitZ d = true
      · right
        obtain ⟨h1, h2⟩ := digit_num hdg
        rw [if_pos ⟨rfl, hdg⟩]
        exact word_of_esc (escB_num (by omega) _)
      · rw [if_neg (fun x => hdg x.2)]
        by_cases hd45 : d = 45
        · left
          subst hd45
          rw [partC_dash]
          rfl
        · right
          exact word_part (h d (by simp)) (by simpa using hdg) hd45 _
    · by_cases hdg : digitZ c = true
      · obtain ⟨h1, h2⟩ := digit_num hdg
        rw [if_pos hdg]
        exact name_of_esc (escB_num (by omega) _)
      · rw [if_neg hdg]
        exact name_of_word (word_part (h c (by simp)) (by simpa using hdg) h45 _)
theorem name_head {l : List Int} (h : nameB l = true) : hd l 0 = 45 ∨ hd l 0 = 92 ∨ startZ (hd l 0) = true := by
  unfold nameB at h
  split at h
  · rename_i h1
    left
    simpa using h1
  · unfold wordB at h
    rcases Bool.or_eq_true_iff.1 h with h1 | h1
    · exact .inr (.inr h1)
    · unfold escB at h1
      rw [Bool.and_eq_true] at h1
      exact .inr (.inl (by simpa using h1.1))
theorem name_second {l : List Int} (h : nameB l = true) (h45 : hd l 0 = 45) : hd l 1 = 45 ∨ hd l 1 = 92 ∨ startZ (hd l 1) = true := by
  unfold nameB at h
  rw [h45, if_pos (by decide)] at h
  have e : ∀ i, hd (l.drop 1) i = hd l (1 + i) := fun i => hd_drop l 1 i
  rcases Bool.or_eq_true_iff.1 h with h1 | h1
  · left; simpa using h1
  · unfold wordB at h1
    rw [e] at h1
    rcases Bool.or_eq_true_iff.1 h1 with h2 | h2
    · exact .inr (.inr h2)
    · unfold escB at h2
      rw [Bool.and_eq_true, e] at h2
      exact .inr (.inl (by simpa using h2.1))
theorem not_at {c k : Int} (h : c = 45 ∨ c = 92 ∨ startZ c = true) (h1 : k ≠ 45) (h2 : k ≠ 92) (h3 : startZ k = false) : c ≠ k := by
  intro e
  subst e
  rcases h with h | h | h
  · exact h1 h
  · exact h2 h
  · rw [h] at h3; cases h3
theorem name_no {l : List Int} (h : nameB l = true) : standsB [47, 42] l = false ∧ blankZ (hd l 0) = false ∧ quoteB l = false ∧ hashB l = false ∧ numB l = false ∧ standsB [60, 33, 45, 45] l = false := by
  have hh := name_head h
  have n47 := not_at (k := 47) hh (by decide) (by decide) (by decide)
  have n32 := not_at (k := 32) hh (by decide) (by decide) (by decide)
  have n9 := not_at (k := 9) hh (by decide) (by decide) (by decide)
  have n10 := not_at (k := 10) hh (by decide) (by decide) (by decide)
  have n34 := not_at (k := 34) hh (by decide) (by decide) (by decide)
  have n39 := not_at (k := 39) hh (by decide) (by decide) (by decide)
  have n35 := not_at (k := 35) hh (by decide) (by decide) (by decide)
  have n60 := not_at (k := 60) hh (by decide) (by decide) (by decide)
  refine ⟨?_, ?_, ?_, ?_, ?_, ?_⟩
  · rw [standsB]; simp [n47]
  · simp [blankZ, n32, n9, n10]
  · simp [quoteB, n34, n39]
  · simp [hashB, n35]
  · have n43 := not_at (k := 43) hh (by decide) (by decide) (by decide)
    by_cases h45 : hd l 0 = 45
    · have h2 := name_second h h45
      have m46 := not_at (k := 46) h2 (by decide) (by decide) (by decide)
      have mdg : digitZ (hd l 1) = false := by
        rcases h2 with e | e | e
        · rw [e]; decide
        · rw [e]; decide
        · unfold startZ at e; unfold digitZ; simp at e ⊢; omega
      unfold numB unsignZ signB dotB
      have e1 : (hd l 0 == 43 || hd l 0 == 45) = true := by rw [h45]; rfl
      rw [if_pos e1, hd_drop, hd_drop, mdg]
      simp [m46]
    · have m46 := not_at (k := 46) hh (by decide) (by decide) (by decide)
      have mdg : digitZ (hd l 0) = false := by
        rcases hh with e | e | e
        · exact absurd e h45
        · rw [e]; decide
        · unfold startZ at e; unfold digitZ; simp at e ⊢; omega
      unfold numB unsignZ signB dotB
      have e1 : ¬ (hd l 0 == 43 || hd l 0 == 45) = true := by simp [n43, h45]
      rw [if_neg e1, mdg]
      simp [m46]
  · rw [standsB]; simp [n60]
theorem hd_part (c : Int) (t : List Int) : hd (partC c ++ t) 0 = 92 ∨ (hd (partC c ++ t) 0 = c ∧ partZ c = true) := by
  unfold partC
  split
  · left; rw [numL_cons]; rfl
  · split
    · rename_i hp; right; exact ⟨rfl, hp⟩
    · left; rfl
theorem hd_num (c : Int) (t : List Int) : hd (numL c ++ t) 0 = 92 := by rw [numL_cons]; rfl
theorem no_cdc : ∀ (xs : List Int), standsB [45, 45, 62] (escC xs) = false
  | [] => by decide
  | [c] => by
    rw [escC]
    split
    · decide
    · rename_i h45
      split
      · have := hd_num c []
        rw [List.append_nil] at this
        rw [standsB, this]; rfl
      · have := hd_part c []
        rw [List.append_nil] at this
        rw [standsB]
        rcases this with e | ⟨e, _⟩
        · rw [e]; rfl
        · rw [e]; simp [h45]
  | c :: d :: r => by
    rw [escC]
    by_cases h45 : c = 45
    · subst h45
      rw [if_neg (by decide), partC_dash]
      rw [standsB, standsB]
      show (true && (hd ((if (45 : Int) = 45 ∧ digitZ d = true then numL d else partC d) ++ r.flatMap partC) 0 == 45 && _)) = false
      by_cases hdg : digitZ d = true
      · rw [if_pos ⟨rfl, hdg⟩, hd_num]; rfl
      · rw [if_neg (fun x => hdg x.2)]
        by_cases hd45 : d = 45
        · subst hd45
          rw [partC_dash]
          show (true && (true && standsB [62] (r.flatMap partC))) = false
          rw [standsB]
          have : hd (r.flatMap partC) 0 ≠ 62 := by
            cases r with
            | nil => decide
            | cons e q =>
              rw [List.flatMap_cons]
              rcases hd_part e (q.flatMap partC) with h | ⟨h, hp⟩
              · rw [h]; decide
              · rw [h]; intro e2; subst e2; exact absurd hp (by decide)
          simp [this]
        · rcases hd_part d (r.flatMap partC) with h | ⟨h, hp⟩
          · rw [h]; rfl
          · rw [h]; simp [hd45]
    · by_cases hdg : digitZ c = true
      · rw [if_pos hdg, standsB, hd_num]; rfl
      · rw [if_neg hdg, standsB]
        rcases hd_part c _ with h | ⟨h, hp⟩
        · rw [h]; rfl
        · rw [h]; simp [h45]
theorem toks_name (xs : List Int) (hne : xs ≠ []) (h : ∀ c ∈ xs, c ≠ 0) : toks (escC xs) = [plainTok 1 xs] := by
  have hN := name_written xs hne h
  obtain ⟨e1, e2, e3, e4, e5, e6⟩ := name_no hN
  have e7 := no_cdc xs
  obtain ⟨b1, b2⟩ := back_name xs h
  have hone : oneZ (escC xs) = (some (plainTok 1 xs), []) := by
    unfold oneZ
    rw [e1, e2, e3, e4, e5, e6, e7, hN]
    simp only [Bool.false_eq_true, if_false, if_true]
    unfold wordZ
    rw [b1, b2, if_neg (by decide)]
    rfl
  cases hl : escC xs with
  | nil => rw [hl] at hN; exact absurd hN (by decide)
  | cons c t =>
    rw [toks_cons, ← hl, hone]
    rfl
theorem toks_at (xs : List Int) (hne : xs ≠ []) (h : ∀ c ∈ xs, c ≠ 0) : toks (64 :: escC xs) = [plainTok 3 xs] := by
  have hN := name_written xs hne h
  obtain ⟨b1, b2⟩ := back_name xs h
  have hone : oneZ (64 :: escC xs) = (some (plainTok 3 xs), []) := by
    unfold oneZ
    have a1 : standsB [47, 42] (64 :: escC xs) = false := by simp [standsB, hd]
    have a2 : blankZ (hd (64 :: escC xs) 0) = false := by simp [hd, blankZ]
    have a3 : quoteB (64 :: escC xs) = false := by simp [quoteB, hd]
    have a4 : hashB (64 :: escC xs) = false := by simp [hashB, hd]
    have a5 : numB (64 :: escC xs) = false := by simp [numB, unsignZ, signB, dotB, hd, digitZ]
    have a6 : standsB [45, 45, 62] (64 :: escC xs) = false := by simp [standsB, hd]
    have a7 : standsB [60, 33, 45, 45] (64 :: escC xs) = false := by simp [standsB, hd]
    have a8 : nameB (64 :: escC xs) = false := by simp [nameB, wordB, escB, hd, startZ]
    have a9 : atB (64 :: escC xs) = true := by
      show (true && nameB (escC xs)) = true
      rw [hN]; rfl
    simp only [a1, a2, a3, a4, a5, a6, a7, a8, a9, Bool.false_eq_true, if_false, if_true]
    show (some (plainTok 3 (nameT (escC xs) 0)), nameR (escC xs) 0) = _
    rw [b1, b2]
  rw [toks_cons, hone]
  rfl
theorem toks_hash (xs : List Int) (hne : xs ≠ []) (h : ∀ c ∈ xs, c ≠ 0) : toks (35 :: escC xs) = [mkTok 4 xs [] false true] := by
  have hN := name_written xs hne h
  obtain ⟨b1, b2⟩ := back_name xs h
  have hone : oneZ (35 :: escC xs) = (some (mkTok 4 xs [] false true), []) := by
    unfold oneZ
    have a1 : standsB [47, 42] (35 :: escC xs) = false := by simp [standsB, hd]
    have a2 : blankZ (hd (35 :: escC xs) 0) = false := by simp [hd, blankZ]
    have a3 : quoteB (35 :: escC xs) = false := by simp [quoteB, hd]
    have a4 : hashB (35 :: escC xs) = true := by
      show (true && (partZ (hd (escC xs) 0) || escB (escC xs))) = true
      rw [Bool.true_and]
      unfold nameB at hN
      split at hN
      · rename_i h45
        have : hd (escC xs) 0 = 45 := by simpa using h45
        rw [this]; rfl
      · unfold wordB at hN
        rcases Bool.or_eq_true_iff.1 hN with h1 | h1
        · unfold partZ; rw [h1]; rfl
        · rw [h1]; simp
    simp only [a1, a2, a3, a4, Bool.false_eq_true, if_false, if_true]
    show someT (hashZ (escC xs)) = _
    unfold hashZ
    rw [b1, b2, hN]
    rfl
  rw [toks_cons, hone]
  rfl
end Go.Proofs.YtbfgnfcecfjlnaaDoor
