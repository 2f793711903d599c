/- A text without a certain ASCII byte has no such character; the tokens of a text without a slash have no two Spaces side by side. A text without comments has no two Spaces side by side; one of Blanks alone is one Space; behind a bracket stands what stands there. -/
import Derived.Test.YtbfgnfcecfjlnaaDoorAlike
namespace Go.Proofs.YtbfgnfcecfjlnaaDoor
open Go.RowKit

theorem char_byte (s : ByteArray) (x : Nat) (hx : x < 128) : ∀ (f pos : Nat), (∀ j (h : j < s.size), (s[j]'h).toNat ≠ x) → ∀ c ∈ charsFrom s f pos, c ≠ (x : Int)
  | 0, _, _, c, hc => by simp [charsFrom] at hc
  | f + 1, pos, hs, c, hc => by
    rw [charsFrom] at hc
    split at hc
    · rename_i hp
      rcases List.mem_cons.1 hc with rfl | hc
      · by_cases ha : (s[pos]'hp).toNat < 128
        · rw [decode_ascii s pos hp ha]
          have := hs pos hp
          simp only
          omega
        · have := (decode_high s pos hp (by omega)).1
          omega
      · exact char_byte s x hx f _ hs c hc
    · simp at hc
theorem norm_byte (x : Int) (h1 : x ≠ 10) (h2 : x ≠ 65533) : ∀ (l : List Int) (last : Int), (∀ c ∈ l, c ≠ x) → ∀ c ∈ normZ last l, c ≠ x
  | [], last, _, c, hc => by simp [normZ] at hc
  | d :: r, last, hl, c, hc => by
    have hr := norm_byte x h1 h2 r d (fun e he => hl e (by simp [he]))
    rw [normZ] at hc
    split at hc
    · exact hr c hc
    · rcases List.mem_cons.1 hc with rfl | hc
      · unfold settledZ
        split
        · exact fun e => h1 e.symm
        · split
          · exact fun e => h2 e.symm
          · exact hl d (by simp)
      · exact hr c hc
theorem runes_byte (s : ByteArray) (x : Nat) (hx : x < 128) (h10 : x ≠ 10) (hs : ∀ j (h : j < s.size), (s[j]'h).toNat ≠ x) : ∀ c ∈ runesZ s, c ≠ (x : Int) :=
  norm_byte x (by omega) (by omega) _ 0 (char_byte s x hx _ _ hs)

/-! ### no two Spaces side by side -/

theorem kind_num (l : List Int) : (numZ l).1.kind ≠ 13 := by
  unfold numZ
  split
  · simp [mkTok]
  · split <;> simp [mkTok]
theorem kind_str (l : List Int) : (strZ l).1.kind ≠ 13 := by
  unfold strZ
  split <;> simp [plainTok]
theorem kind_url (l : List Int) : (urlZ l).1.kind ≠ 13 := by
  unfold urlZ urlEnd
  split
  · simp [plainTok]
  · split <;> simp [plainTok]
theorem kind_word (l : List Int) : (wordZ l).1.kind ≠ 13 := by
  unfold wordZ
  split
  · split
    · exact kind_url _
    · simp [plainTok]
  · simp [plainTok]
theorem kind_single (c : Int) : (singleZ c).kind ≠ 13 := by
  unfold singleZ
  split
  · have : signZ c ≠ 13 := by unfold signZ; repeat (first | split | decide)
    simpa [plainTok] using this
  · simp [plainTok]
theorem one_some {l : List Int} (h : standsB [47, 42] l = false) : ∃ t, (oneZ l).1 = some t ∧ (blankZ (hd l 0) = false → t.kind ≠ 13) := by
  unfold oneZ
  rw [if_neg (by simp [h])]
  split
  · rename_i h1
    exact ⟨_, rfl, fun h2 => by rw [h1] at h2; cases h2⟩
  split
  · exact ⟨_, rfl, fun _ => kind_str l⟩
  split
  · exact ⟨_, rfl, fun _ => by simp [hashZ, mkTok]⟩
  split
  · exact ⟨_, rfl, fun _ => kind_num l⟩
  split
  · exact ⟨_, rfl, fun _ => by simp [plainTok]⟩
  split
  · exact ⟨_, rfl, fun _ => by simp [plainTok]⟩
  split
  · exact ⟨_, rfl, fun _ => kind_word l⟩
  split
  · exact ⟨_, rfl, fun _ => by simp [plainTok]⟩
  · exact ⟨_, rfl, fun _ => kind_single _⟩
theorem blanksR_head : ∀ (l : List Int), blankZ (hd (blanksR l) 0) = false
  | [] => by decide
  | c :: t => by
    rw [blanksR]
    split
    · exact blanksR_head t
    · rename_i h; simpa [hd] using h
def apart : List Tok → Bool
  | [] => true
  | [_] => true
  | a :: b :: r => !(a.kind == 13 && b.kind == 13) && apart (b :: r)
theorem no_slash {l : List Int} (h : ∀ c ∈ l, c ≠ 47) : standsB [47, 42] l = false := by
  cases l with
  | nil => rfl
  | cons c t =>
    have : c ≠ 47 := h c (by simp)
    simp [standsB, hd, this]
theorem spaces_apart : ∀ (n : Nat) (l : List Int), l.length ≤ n → (∀ c ∈ l, c ≠ 47) → apart (toks l) = true
  | 0, l, hn, _ => by
    have : l = [] := List.length_eq_zero_iff.1 (by omega)
    subst this; rfl
  | n + 1, [], _, _ => rfl
  | n + 1, c :: t, hn, hs => by
    obtain ⟨x, hx, hk⟩ := one_some (no_slash hs)
    have hl := one_less c t
    have hsub : ∀ d ∈ (oneZ (c :: t)).2, d ≠ 47 := fun d hd => hs d (List.mem_cons_of_mem _ (hl.subset hd))
    have ih := spaces_apart n (oneZ (c :: t)).2 (by have := hl.length_le; simp at hn; omega) hsub
    rw [toks_cons, hx]
    simp only [Option.toList_some, List.singleton_append]
    generalize hm : (oneZ (c :: t)).2 = m at *
    cases m with
    | nil => rfl
    | cons d u =>
      obtain ⟨y, hy, hky⟩ := one_some (no_slash hsub)
      rw [toks_cons, hy] at ih ⊢
      simp only [Option.toList_some, List.singleton_append] at ih ⊢
      rw [apart, ih, Bool.and_true]
      by_cases hb : blankZ (hd (c :: t) 0) = true
      · have hmb : (oneZ (c :: t)).2 = blanksR (c :: t) := by
          unfold oneZ
          rw [if_neg (by simp [no_slash hs]), if_pos hb]
        have h2 : blankZ (hd (d :: u) 0) = false := by rw [← hm, hmb]; exact blanksR_head _
        have := hky h2
        simp [this]
      · have := hk (by simpa using hb)
        simp [this]
theorem in_round (l : List Int) : toks (40 :: l) = plainTok 21 [] :: toks l := by
  rw [toks_cons]
  have h : oneZ (40 :: l) = (some (plainTok 21 []), l) := by
    unfold oneZ
    have a1 : standsB [47, 42] (40 :: l) = false := by simp [standsB, hd]
    have a2 : blankZ (hd (40 :: l) 0) = false := by simp [hd, blankZ]
    have a3 : quoteB (40 :: l) = false := by simp [quoteB, hd]
    have a4 : hashB (40 :: l) = false := by simp [hashB, hd]
    have a5 : numB (40 :: l) = false := by simp [numB, unsignZ, signB, dotB, hd, digitZ]
    have a6 : standsB [45, 45, 62] (40 :: l) = false := by simp [standsB, hd]
    have a7 : standsB [60, 33, 45, 45] (40 :: l) = false := by simp [standsB, hd]
    have a8 : nameB (40 :: l) = false := by simp [nameB, wordB, escB, hd, startZ]
    have a9 : atB (40 :: l) = false := by simp [atB, hd]
    simp only [a1, a2, a3, a4, a5, a6, a7, a8, a9, Bool.false_eq_true, if_false]
    rfl
  rw [h]
  rfl
theorem blanks_alone : toks [32, 9, 10, 32] = [plainTok 13 []] := by kernel_rfl
end Go.Proofs.YtbfgnfcecfjlnaaDoor
namespace Go.Proofs.YtbfgnfcecfjlnaaDoor
open Go.RowKit

theorem TokAt.tail {w : World} {g off cap : Nat} {t : Tok} {ts : List Tok} (hcap : ts.length + 1 ≤ cap) (hc : ∀ (j : Nat) v, ((t :: ts).flatMap tokCells)[j]? = some v → w.cell? ⟨g, off + j, none⟩ = some v) :
    TokAt w (.slice (some ⟨g, off + 5, none⟩) ts.length (cap - 1)) ts := by
  refine ⟨_, _, rfl, by omega, fun _ => ⟨g, off + 5, rfl, fun j v hj => ?_⟩⟩
  have h2 : ((t :: ts).flatMap tokCells)[5 + j]? = some v := by
    rw [List.flatMap_cons, List.getElem?_append_right (by simp [tokCells])]
    have : 5 + j - (tokCells t).length = j := by simp [tokCells]
    rw [this]
    exact hj
  have := hc _ _ h2
  rw [← Nat.add_assoc] at this
  exact this
theorem round_text (s : ByteArray) : cutZ (⟨#[40]⟩ ++ s) = plainTok 21 [] :: cutZ s := by
  have h1 : ∀ c ∈ ([40] : List Int), Told c := by
    intro c hc
    simp at hc
    subst hc
    exact ⟨⟨by omega, by omega, by omega⟩, by omega, by omega, by omega⟩
  have h2 := joins h1 s
  have e : strOfNums (bytesZ [40]) = ⟨#[40]⟩ := by decide +kernel
  rw [e] at h2
  unfold cutZ
  rw [h2]
  exact in_round (runesZ s)
theorem blank_text : cutZ ⟨#[32, 9, 10, 32]⟩ = [plainTok 13 []] := by
  have e : runesZ ⟨#[32, 9, 10, 32]⟩ = [32, 9, 10, 32] := by decide +kernel
  unfold cutZ
  rw [e]
  exact blanks_alone
theorem cut_apart (s : ByteArray) (hs : ∀ j (h : j < s.size), (s[j]'h).toNat ≠ 47) : apart (cutZ s) = true :=
  spaces_apart _ _ (Nat.le_refl _) (runes_byte s 47 (by omega) (by omega) hs)
theorem toks_len : ∀ (n : Nat) (l : List Int), l.length ≤ n → (toks l).length ≤ l.length
  | 0, l, h => by
    have : l = [] := List.length_eq_zero_iff.1 (by omega)
    subst this; simp [toks, toksF]
  | n + 1, [], _ => by simp [toks, toksF]
  | n + 1, c :: t, h => by
    have hl := (one_less c t).length_le
    have ih := toks_len n (oneZ (c :: t)).2 (by simp at h; omega)
    have ho : (oneZ (c :: t)).1.toList.length ≤ 1 := by cases (oneZ (c :: t)).1 <;> simp
    rw [toks_cons, List.length_append]
    simp only [List.length_cons]
    omega
theorem cut_len (s : ByteArray) : (cutZ s).length ≤ s.size := Nat.le_trans (toks_len _ _ (Nat.le_refl _)) (runes_len s)
theorem apart_at : ∀ (ts : List Tok) (k : Nat) (h : k + 1 < ts.length), apart ts = true → ¬ ((ts[k + 1]'h).kind = 13 ∧ (ts[k]'(by omega)).kind = 13)
  | [], k, h, _ => by simp at h
  | [a], k, h, _ => by simp at h
  | a :: b :: r, 0, _, ha => by
    rw [apart, Bool.and_eq_true] at ha
    intro hh
    simp at hh
    simp [hh.1, hh.2] at ha
  | a :: b :: r, k + 1, h, ha => by
    rw [apart, Bool.and_eq_true] at ha
    have := apart_at (b :: r) k (by simpa using h) ha.2
    simpa using this
end Go.Proofs.YtbfgnfcecfjlnaaDoor
