/- What nth.Print writes, as a list: its tokens, and what nth.Parse reads of them. -/
import Derived.Test.YtpflliophellgaaGreatDoorTokN
namespace Go.Proofs.YtpflliophellgaaGreatDoor
open Go.RowKit
set_option maxRecDepth 100000

def timesL (a : Int) : List Int := if a = 1 then [] else if a = -1 then [45] else N.signD a
def plusL (b : Int) : List Int := if b = 0 then [] else if b < 0 then N.signD b else 43 :: N.signD b
def printL (a b : Int) : List Int := if a = 2 ∧ b = 0 then evenL else if a = 2 ∧ b = 1 then oddL else if a = 0 then N.signD b else timesL a ++ (110 :: plusL b)
theorem times_eq (a : Int) : N.timesS a = strOfNums (timesL a) := by
  unfold N.timesS timesL
  split
  · rfl
  · split
    · rfl
    · rfl
theorem plus_eq (b : Int) : N.plusS b = strOfNums (plusL b) := by
  unfold N.plusS plusL
  split
  · rfl
  · split
    · rfl
    · show (⟨#[43]⟩ : ByteArray) ++ N.itS b = _
      exact N.nums_cons 43 (N.signD b)
theorem print_eq (a b : Int) : N.printS a b = strOfNums (printL a b) := by
  unfold N.printS printL
  split
  · rfl
  · split
    · rfl
    · split
      · rfl
      · rw [times_eq, plus_eq, N.nums_two, ← N.nums_cons 110 (plusL b), N.app_app]
        rfl
theorem signD_len (n : Int) : (N.signD n).length ≤ 21 := by
  have := N.it_size n
  unfold N.itS at this
  rwa [N.strOf_size] at this
/-- The characters of a printed text. -/
def PC (c : Int) : Prop := c = 43 ∨ c = 45 ∨ (48 ≤ c ∧ c ≤ 57) ∨ (97 ≤ c ∧ c ≤ 122)
theorem pc_sign (n : Int) (h0 : -1000000 ≤ n) (h1 : n ≤ 1000000) : ∀ c ∈ N.signD n, PC c := by
  obtain ⟨ds, hd, _, h⟩ := N.signD_cases n h0 h1
  have hp : ∀ c ∈ ds, PC c := fun c hc => .inr (.inr (.inl (hd c hc)))
  rcases h with ⟨_, e, _⟩ | ⟨_, e, _⟩
  · rw [e]
    intro c hc
    rcases List.mem_cons.1 hc with rfl | hc
    · exact .inr (.inl rfl)
    · exact hp c hc
  · rw [e]
    exact hp
theorem pc_print (a b : Int) (a0 : -1000000 ≤ a) (a1 : a ≤ 1000000) (b0 : -1000000 ≤ b) (b1 : b ≤ 1000000) : ∀ c ∈ printL a b, PC c := by
  have pt : ∀ c ∈ timesL a, PC c := by
    unfold timesL
    split
    · intro c hc; cases hc
    · split
      · intro c hc
        rw [List.mem_singleton.1 hc]
        exact .inr (.inl rfl)
      · exact pc_sign a a0 a1
  have pp : ∀ c ∈ plusL b, PC c := by
    unfold plusL
    split
    · intro c hc; cases hc
    · split
      · exact pc_sign b b0 b1
      · intro c hc
        rcases List.mem_cons.1 hc with rfl | hc
        · exact .inl rfl
        · exact pc_sign b b0 b1 c hc
  unfold printL
  split
  · unfold evenL PC; decide
  · split
    · unfold oddL PC; decide
    · split
      · exact pc_sign b b0 b1
      · intro c hc
        rcases List.mem_append.1 hc with hc | hc
        · exact pt c hc
        · rcases List.mem_cons.1 hc with rfl | hc
          · exact .inr (.inr (.inr (by decide)))
          · exact pp c hc
theorem pc_byte {l : List Int} (h : ∀ c ∈ l, PC c) : ∀ n ∈ l, 0 ≤ n ∧ n < 256 := fun n hn => by
  have := h n hn
  unfold PC at this
  omega
theorem pc_asc {l : List Int} (h : ∀ c ∈ l, PC c) : Asc l := fun n hn => by
  have := h n hn
  unfold PC at this
  omega
theorem pc_told {l : List Int} (h : ∀ c ∈ l, PC c) : ∀ c ∈ l, Told c := fun n hn => by
  have := h n hn
  unfold PC at this
  exact ⟨⟨by omega, by omega, by omega⟩, by omega, by omega, by omega⟩
theorem pc_left : ∀ {l : List Int}, (∀ c ∈ l, PC c) → N.leftL l = l
  | [], _ => rfl
  | c :: r, h => by
    have := h c (by simp)
    unfold PC at this
    rw [N.leftL, if_neg (by omega)]
theorem pc_right {l : List Int} (h : ∀ c ∈ l, PC c) : N.rightL l = l := by
  unfold N.rightL
  rw [pc_left (fun c hc => h c (by simpa using hc)), List.reverse_reverse]
theorem pc_fold {l : List Int} (h : ∀ c ∈ l, PC c) : N.foldS (strOfNums l) = strOfNums l := by
  apply ByteArray.ext
  show ((l.map fun n => UInt8.ofNat n.toNat).toArray.map N.foldB) = (l.map fun n => UInt8.ofNat n.toNat).toArray
  rw [List.map_toArray, List.map_map]
  congr 1
  apply List.map_congr_left
  intro x hx
  have hp := h x hx
  unfold PC at hp
  show UInt8.ofNat (N.foldN (UInt8.ofNat x.toNat).toNat) = UInt8.ofNat x.toNat
  have e : (UInt8.ofNat x.toNat).toNat = x.toNat := by
    rw [UInt8.toNat_ofNat']
    omega
  rw [e]
  unfold N.foldN
  rw [if_neg (by omega)]
theorem runes_print {l : List Int} (h : ∀ c ∈ l, PC c) : runesZ (strOfNums l) = l := by
  have := runes_again (pc_told h)
  rwa [asc_bytes (pc_asc h)] at this

/-! ### reading again -/

theorem behind_plus (b : Int) (b0 : -1000000 ≤ b) (b1 : b ≤ 1000000) : N.behindR (plusL b) = (b, true) := by
  unfold plusL
  by_cases h0 : b = 0
  · rw [if_pos h0, h0]
    rfl
  · rw [if_neg h0]
    obtain ⟨ds, hd, hne, h⟩ := N.signD_cases b b0 b1
    rcases h with ⟨hb, e, hs⟩ | ⟨hb, e, hs⟩
    · rw [if_pos hb, e, N.behind_sg (.inr rfl) hd hne, hs]
      have : N.dirL [45] = -1 := rfl
      rw [this]
      exact Prod.ext (by simp only; omega) rfl
    · rw [if_neg (by omega), e, N.behind_sg (.inl rfl) hd hne, hs]
      have : N.dirL [43] = 1 := rfl
      rw [this]
      exact Prod.ext (by simp only; omega) rfl
theorem cut_print (a b : Int) (a0 : -1000000 ≤ a) (a1 : a ≤ 1000000) (b0 : -1000000 ≤ b) (b1 : b ≤ 1000000) (_h0 : a ≠ 0) : N.cutL (timesL a ++ (110 :: plusL b)) = (a, b, true) := by
  have hb := behind_plus b b0 b1
  unfold timesL
  by_cases h1 : a = 1
  · rw [if_pos h1]
    have := N.cut_of (sg := []) (ds := []) (.inl rfl) (fun c hc => by cases hc) b hb
    rw [List.nil_append] at this
    rw [this, h1]
    rfl
  · rw [if_neg h1]
    by_cases h2 : a = -1
    · rw [if_pos h2]
      have := N.cut_of (sg := [45]) (ds := []) (.inr rfl) (fun c hc => by cases hc) b hb
      rw [List.nil_append] at this
      rw [this, h2]
      rfl
    · rw [if_neg h2]
      obtain ⟨ds, hd, hne, h⟩ := N.signD_cases a a0 a1
      rcases h with ⟨ha, e, hs⟩ | ⟨ha, e, hs⟩
      · have := N.cut_of (sg := [45]) (ds := ds) (.inr rfl) hd b hb
        rw [e]
        show N.cutL ([45] ++ (ds ++ (110 :: plusL b))) = _
        rw [this, if_neg hne, hs]
        have : N.dirL [45] = -1 := rfl
        rw [this]
        exact Prod.ext (by simp only; omega) rfl
      · have := N.cut_of (sg := []) (ds := ds) (.inl rfl) hd b hb
        rw [e]
        show N.cutL ([] ++ (ds ++ (110 :: plusL b))) = _
        rw [this, if_neg hne, hs]
        have : N.dirL [] = 1 := rfl
        rw [this]
        exact Prod.ext (by simp only; omega) rfl
theorem cut_zero (b : Int) (b0 : -1000000 ≤ b) (b1 : b ≤ 1000000) : N.cutL (N.signD b) = (0, b, true) := by
  obtain ⟨ds, hd, hne, h⟩ := N.signD_cases b b0 b1
  rcases h with ⟨hb, e, hs⟩ | ⟨hb, e, hs⟩
  · have := N.cut_num (sg := [45]) (.inr rfl) hd hne
    rw [e]
    show N.cutL ([45] ++ ds) = _
    rw [this, hs]
    have : N.dirL [45] = -1 := rfl
    rw [this]
    exact Prod.ext rfl (Prod.ext (by simp only; omega) rfl)
  · have := N.cut_num (sg := []) (.inl rfl) hd hne
    rw [e]
    show N.cutL ([] ++ ds) = _
    rw [this, hs]
    have : N.dirL [] = 1 := rfl
    rw [this]
    exact Prod.ext rfl (Prod.ext (by simp only; omega) rfl)
theorem head_sign (n : Int) (h0 : -1000000 ≤ n) (h1 : n ≤ 1000000) : (N.signD n).headD 0 ≤ 57 ∧ N.signD n ≠ [] := by
  obtain ⟨ds, hd, hne, h⟩ := N.signD_cases n h0 h1
  rcases h with ⟨_, e, _⟩ | ⟨_, e, _⟩
  · rw [e]
    exact ⟨by show (45 : Int) ≤ 57; decide, by simp⟩
  · rw [e]
    cases ds with
    | nil => exact absurd rfl hne
    | cons c r =>
      have := hd c (by simp)
      exact ⟨this.2, hne⟩
theorem head_print (a b : Int) (a0 : -1000000 ≤ a) (a1 : a ≤ 1000000) : (timesL a ++ (110 :: plusL b)).headD 0 ≤ 57 ∨ (timesL a ++ (110 :: plusL b)).headD 0 = 110 := by
  unfold timesL
  split
  · right; rfl
  · split
    · left; show (45 : Int) ≤ 57; decide
    · left
      obtain ⟨h, hne⟩ := head_sign a a0 a1
      cases hx : N.signD a with
      | nil => exact absurd hx hne
      | cons c r =>
        rw [hx] at h
        exact h
theorem read_list {l : List Int} (hp : ∀ c ∈ l, PC c) (h : l.headD 0 ≤ 57 ∨ l.headD 0 = 110) : N.parseT (some l) = N.cutL l := by
  unfold N.parseT
  simp only
  rw [pc_right hp, pc_left hp, pc_fold hp]
  have hb := N.bytesL_nums (pc_byte hp)
  unfold N.readT
  rw [if_neg, if_neg, N.cut_list, hb]
  · intro e
    have : l = [111, 100, 100] := by
      rw [← hb, e]
      rfl
    rw [this] at h
    revert h
    decide
  · intro e
    have : l = [101, 118, 101, 110] := by
      rw [← hb, e]
      rfl
    rw [this] at h
    revert h
    decide
theorem read_print (a b : Int) (a0 : -1000000 ≤ a) (a1 : a ≤ 1000000) (b0 : -1000000 ≤ b) (b1 : b ≤ 1000000) : N.parseT (some (printL a b)) = (a, b, true) := by
  have hp := pc_print a b a0 a1 b0 b1
  unfold printL at hp ⊢
  by_cases h1 : a = 2 ∧ b = 0
  · rw [if_pos h1] at hp ⊢
    obtain ⟨rfl, rfl⟩ := h1
    unfold N.parseT
    simp only
    rw [pc_right hp, pc_left hp, pc_fold hp]
    unfold N.readT
    rw [if_pos (show strOfNums evenL = N.evenS from rfl)]
  · rw [if_neg h1] at hp ⊢
    by_cases h2 : a = 2 ∧ b = 1
    · rw [if_pos h2] at hp ⊢
      obtain ⟨rfl, rfl⟩ := h2
      unfold N.parseT
      simp only
      rw [pc_right hp, pc_left hp, pc_fold hp]
      unfold N.readT
      rw [if_neg (show ¬ strOfNums oddL = N.evenS by decide), if_pos (show strOfNums oddL = N.oddS from rfl)]
    · rw [if_neg h2] at hp ⊢
      by_cases h3 : a = 0
      · rw [if_pos h3] at hp ⊢
        rw [read_list hp (.inl (head_sign b b0 b1).1), cut_zero b b0 b1, h3]
      · rw [if_neg h3] at hp ⊢
        rw [read_list hp (head_print a b a0 a1), cut_print a b a0 a1 b0 b1 h3]

/-! ### tokens -/

theorem numb_sign (n : Int) (h0 : -1000000 ≤ n) (h1 : n ≤ 1000000) : Numb (N.signD n) ∧ Asc (N.signD n) := by
  refine ⟨?_, pc_asc (pc_sign n h0 h1)⟩
  obtain ⟨ds, hd, hne, h⟩ := N.signD_cases n h0 h1
  rcases h with ⟨_, e, _⟩ | ⟨_, e, _⟩
  · exact ⟨ds, hd, hne, .inr (.inl e)⟩
  · exact ⟨ds, hd, hne, .inl e⟩
theorem told_print (a b : Int) (a0 : -1000000 ≤ a) (a1 : a ≤ 1000000) (b0 : -1000000 ≤ b) (b1 : b ≤ 1000000) : Told2 (printL a b) := by
  unfold printL
  split
  · exact told_even
  · split
    · exact told_odd
    · split
      · exact told_numb (numb_sign b b0 b1).1 (numb_sign b b0 b1).2 (by have := signD_len b; omega)
      · have hpre : Pre (timesL a) := by
          unfold timesL
          split
          · exact .inl rfl
          · split
            · exact .inr (.inl rfl)
            · exact .inr (.inr (numb_sign a a0 a1))
        have hpl : (timesL a).length ≤ 50 := by
          unfold timesL
          split
          · decide
          · split
            · decide
            · have := signD_len a; omega
        unfold plusL
        by_cases h0 : b = 0
        · rw [if_pos h0]
          exact told_mid hpre hpl (nm := [110]) (T := []) (by decide) (by unfold Asc; decide) (by decide) ⟨[], rfl⟩ (.inl rfl)
        · rw [if_neg h0]
          have hlen := signD_len b
          obtain ⟨ds, hd, hne, h⟩ := N.signD_cases b b0 b1
          rcases h with ⟨hb, e, _⟩ | ⟨hb, e, _⟩
          · rw [if_pos hb, e]
            rw [e] at hlen
            have := told_mid hpre hpl (nm := 110 :: 45 :: ds) (T := []) (by
              intro c hc
              rcases List.mem_cons.1 hc with rfl | hc
              · decide
              · rcases List.mem_cons.1 hc with rfl | hc
                · decide
                · exact part_dig hd c hc) (asc_cons (by decide) (asc_cons (by decide) (asc_dig hd))) (by simp at hlen ⊢; omega) ⟨_, rfl⟩ (.inl rfl)
            rw [List.append_nil] at this
            exact this
          · rw [if_neg (by omega), e]
            rw [e] at hlen
            exact told_mid hpre hpl (nm := [110]) (T := 43 :: ds) (by decide) (by unfold Asc; decide) (by decide) ⟨[], rfl⟩ (.inr ⟨ds, hd, hne, by omega, rfl⟩)
theorem print_len (a b : Int) : (printL a b).length ≤ 60 := by
  have h1 := signD_len a
  have h2 := signD_len b
  unfold printL timesL plusL
  repeat' split
  all_goals first | (show (4 : Nat) ≤ 60; omega) | (show (3 : Nat) ≤ 60; omega) | omega | (simp; omega) | simp

end Go.Proofs.YtpflliophellgaaGreatDoor
