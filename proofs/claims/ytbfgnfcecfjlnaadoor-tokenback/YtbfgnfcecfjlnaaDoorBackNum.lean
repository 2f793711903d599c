/- A number's digits are one Number, with a percent sign a Percent, with a unit behind a Dimension; its value within bounds. -/
import Derived.Test.YtbfgnfcecfjlnaaDoorUnitsInts
namespace Go.Proofs.YtbfgnfcecfjlnaaDoor
open Go.RowKit

theorem decF_dig : ∀ (f u : Nat) (acc : List Int), Dig acc → Dig (decF f u acc)
  | 0, _, _, h => h
  | f + 1, u, acc, h => by
    have hc : Dig (((48 + u % 10 : Nat) : Int) :: acc) := by
      intro c hc
      rcases List.mem_cons.1 hc with rfl | hc
      · omega
      · exact h c hc
    rw [decF]
    split
    · exact hc
    · exact decF_dig f _ _ hc
theorem decF_len : ∀ (f u : Nat) (acc : List Int), (decF f u acc).length ≤ acc.length + f
  | 0, _, acc => Nat.le_refl _
  | f + 1, u, acc => by
    rw [decF]
    split
    · simp only [List.length_cons]; omega
    · have := decF_len f (u / 10) (((48 + u % 10 : Nat) : Int) :: acc)
      simp only [List.length_cons] at this
      omega
theorem decF_ne : ∀ (f u : Nat) (acc : List Int), 0 < f ∨ acc ≠ [] → decF f u acc ≠ []
  | 0, _, acc, h => h.resolve_left (by omega)
  | f + 1, u, acc, _ => by
    rw [decF]
    split
    · simp
    · exact decF_ne f _ _ (.inr (by simp))
theorem decF_sat : ∀ (f u : Nat) (acc : List Int), u < p10 f → 0 < f → (decF f u acc).foldl satZ 0 = acc.foldl satZ (if 1000000 < (u : Int) then 1000000 else (u : Int))
  | 0, _, _, _, h => absurd h (by omega)
  | f + 1, u, acc, hu, _ => by
    rw [decF]
    split
    · rename_i hq
      rw [List.foldl_cons]
      congr 1
      unfold satZ
      rw [if_neg (by omega), if_neg (by omega)]
      omega
    · rename_i hq
      have h3 : u / 10 < p10 f := by
        unfold p10 at hu ⊢
        rw [Nat.pow_succ] at hu
        omega
      have h4 : 0 < f := by
        cases f with
        | zero => unfold p10 at h3; simp at h3; omega
        | succ k => omega
      rw [decF_sat f (u / 10) _ h3 h4, List.foldl_cons]
      congr 1
      unfold satZ
      repeat' split
      all_goals omega
theorem dec_dig' (N : Nat) : Dig (decU N) := decF_dig _ _ _ (fun c hc => by cases hc)
theorem dec_ne (N : Nat) : decU N ≠ [] := decF_ne _ _ _ (.inl (by omega))
theorem dec_len (N : Nat) : (decU N).length ≤ 20 := by have := decF_len 20 N []; unfold decU; simpa using this
theorem dec_sat (N : Nat) (h : N ≤ 9223372036854775808) : satL (decU N) = if 1000000 < (N : Int) then 1000000 else (N : Int) := decF_sat 20 N [] (p10_20 N h) (by omega)

/-! ### reading -/

theorem digitsR_dig : ∀ (ds R : List Int), Dig ds → digitZ (hd R 0) = false → digitsR (ds ++ R) = R
  | [], R, _, h => by
    cases R with
    | nil => rfl
    | cons c t =>
      have : digitZ c = false := h
      show digitsR (c :: t) = c :: t
      rw [digitsR, if_neg (by simp [this])]
  | c :: r, R, hd', h => by
    rw [List.cons_append, digitsR, if_pos (digit_yes (hd' c (by simp)))]
    exact digitsR_dig r R (fun x hx => hd' x (by simp [hx])) h
/-- What may stand behind a number's digits. -/
def Behind (R : List Int) : Prop := digitZ (hd R 0) = false ∧ dotB R = false ∧ expN R = 0
/-- A number as it is written: digits, at times behind a minus. -/
def Numb (d : List Int) : Prop := ∃ ds, Dig ds ∧ ds ≠ [] ∧ (d = ds ∨ d = 45 :: ds)
theorem numb_parts {d R : List Int} (hn : Numb d) (hR : Behind R) : numB (d ++ R) = true ∧ numR (d ++ R) = R ∧ numW (d ++ R) = true ∧ (hd (d ++ R) 0 = 45 ∨ digitZ (hd (d ++ R) 0) = true) := by
  obtain ⟨ds, hd1, hne, hor⟩ := hn
  obtain ⟨c, r, rfl⟩ := List.exists_cons_of_ne_nil hne
  have hc := hd1 c (by simp)
  have hcd := digit_yes hc
  have hus : unsignZ (d ++ R) = (c :: r) ++ R := by
    rcases hor with rfl | rfl
    · unfold unsignZ signB
      have e : (hd ((c :: r) ++ R) 0 == 43 || hd ((c :: r) ++ R) 0 == 45) = false := by
        show (c == 43 || c == 45) = false
        have h1 : c ≠ 43 := by omega
        have h2 : c ≠ 45 := by omega
        simp [h1, h2]
      rw [e]
      rfl
    · rfl
  have hm : mantR (d ++ R) = R := by
    unfold mantR
    rw [hus]
    exact digitsR_dig _ _ hd1 hR.1
  refine ⟨?_, ?_, ?_, ?_⟩
  · unfold numB
    rw [hus]
    show (digitZ c || _) = true
    rw [hcd]
    rfl
  · unfold numR
    rw [hm]
    unfold fracR
    rw [hR.2.1]
    show expR R = R
    unfold expR
    rw [hR.2.2, if_neg (by omega)]
  · unfold numW
    rw [hm]
    unfold fracR
    rw [hR.2.1]
    show (!false && !decide (0 < expN R)) = true
    rw [hR.2.2]
    rfl
  · rcases hor with rfl | rfl
    · right; exact hcd
    · left; rfl
theorem one_numb {d R : List Int} (hn : Numb d) (hR : Behind R) : oneZ (d ++ R) = someT (numZ (d ++ R)) := by
  obtain ⟨h1, _, _, h4⟩ := numb_parts hn hR
  have hno : ∀ k, k ≠ 45 → digitZ k = false → hd (d ++ R) 0 ≠ k := by
    intro k hk1 hk2 e
    rcases h4 with h | h
    · exact hk1 (e.symm.trans h)
    · rw [e, hk2] at h; cases h
  have n47 := hno 47 (by decide) (by decide)
  have n32 := hno 32 (by decide) (by decide)
  have n9 := hno 9 (by decide) (by decide)
  have n10 := hno 10 (by decide) (by decide)
  have n34 := hno 34 (by decide) (by decide)
  have n39 := hno 39 (by decide) (by decide)
  have n35 := hno 35 (by decide) (by decide)
  have a1 : standsB [47, 42] (d ++ R) = false := by rw [standsB]; simp [n47]
  have a2 : blankZ (hd (d ++ R) 0) = false := by simp [blankZ, n32, n9, n10]
  have a3 : quoteB (d ++ R) = false := by simp [quoteB, n34, n39]
  have a4 : hashB (d ++ R) = false := by simp [hashB, n35]
  unfold oneZ
  rw [a1, a2, a3, a4, h1]
  rfl
theorem gone_app (d R : List Int) : gone (d ++ R) R = d := by
  unfold gone
  rw [List.length_append, Nat.add_sub_cancel, List.take_left]
theorem numZ_of {d R : List Int} (hn : Numb d) (hR : Behind R) : numZ (d ++ R) = if nameB R then (mkTok 12 d (nameT R 0) true false, nameR R 0) else if hd R 0 = 37 then (mkTok 11 d [] true false, R.drop 1) else (mkTok 10 d [] true false, R) := by
  obtain ⟨_, h2, h3, _⟩ := numb_parts hn hR
  unfold numZ
  rw [h2, h3, gone_app]
theorem toks_one {l : List Int} {t : Tok} (hne : l ≠ []) (h : oneZ l = (some t, [])) : toks l = [t] := by
  obtain ⟨c, r, rfl⟩ := List.exists_cons_of_ne_nil hne
  rw [toks_cons, h]
  rfl
theorem numb_ne {d : List Int} (hn : Numb d) (R : List Int) : d ++ R ≠ [] := by
  obtain ⟨ds, _, hne, hor⟩ := hn
  obtain ⟨c, r, rfl⟩ := List.exists_cons_of_ne_nil hne
  rcases hor with rfl | rfl <;> simp
theorem behind_nil : Behind [] := ⟨by decide, by decide, by decide⟩
theorem behind_pc : Behind [37] := ⟨by decide, by decide, by decide⟩
theorem toks_num {d : List Int} (hn : Numb d) : toks d = [mkTok 10 d [] true false] := by
  have h1 := one_numb hn behind_nil
  have h2 := numZ_of hn behind_nil
  rw [List.append_nil] at h1 h2
  refine toks_one (by have := numb_ne hn []; rwa [List.append_nil] at this) ?_
  rw [h1, h2]
  rfl
theorem toks_pc {d : List Int} (hn : Numb d) : toks (d ++ [37]) = [mkTok 11 d [] true false] := by
  refine toks_one (numb_ne hn _) ?_
  rw [one_numb hn behind_pc, numZ_of hn behind_pc]
  rfl
theorem toks_dim {d U xs : List Int} (hn : Numb d) (hU : Behind U) (hN : nameB U = true) (hT : nameT U 0 = xs) (hR : nameR U 0 = []) : toks (d ++ U) = [mkTok 12 d xs true false] := by
  refine toks_one (numb_ne hn _) ?_
  rw [one_numb hn hU, numZ_of hn hU, hN, hT, hR]
  rfl

/-! ### units -/

def unitC : List Int → List Int
  | [] => []
  | c :: r => if c = 101 ∨ c = 69 then numL c ++ r.flatMap partC else escC (c :: r)
theorem hd_esc : ∀ (c : Int) (r : List Int), hd (escC (c :: r)) 0 = 92 ∨ hd (escC (c :: r)) 0 = c
  | c, [] => by
    rw [escC]
    split
    · left; rfl
    · split
      · left; have := hd_num c []; rwa [List.append_nil] at this
      · have := hd_part c []
        rw [List.append_nil] at this
        exact this.imp id (fun h => h.1)
  | c, d :: r => by
    rw [escC]
    split
    · left; exact hd_num c _
    · exact (hd_part c _).imp id (fun h => h.1)
theorem behind_name {U : List Int} (hN : nameB U = true) (h1 : hd U 0 ≠ 101) (h2 : hd U 0 ≠ 69) : Behind U := by
  have hh := name_head hN
  have n46 := not_at (k := 46) hh (by decide) (by decide) (by decide)
  refine ⟨?_, ?_, ?_⟩
  · rcases hh with e | e | e
    · rw [e]; decide
    · rw [e]; decide
    · unfold startZ at e; unfold digitZ; simp at e ⊢; omega
  · simp [dotB, n46]
  · unfold expN
    rw [if_neg (by omega)]
theorem unit_facts (xs : List Int) (hne : xs ≠ []) (h0 : ∀ c ∈ xs, c ≠ 0) : Behind (unitC xs) ∧ nameB (unitC xs) = true ∧ nameT (unitC xs) 0 = xs ∧ nameR (unitC xs) 0 = [] := by
  obtain ⟨c, r, rfl⟩ := List.exists_cons_of_ne_nil hne
  rw [unitC]
  split
  · rename_i he
    have hN : nameB (numL c ++ r.flatMap partC) = true := name_of_esc (escB_num (by omega) _)
    have hb := back_num (c := c) (by omega) (by omega) (r.flatMap partC)
    have hp := back_parts r (fun d hd => h0 d (by simp [hd]))
    have hh := hd_num c (r.flatMap partC)
    refine ⟨behind_name hN (by rw [hh]; decide) (by rw [hh]; decide), hN, ?_, ?_⟩
    · rw [hb.1, hp.1]
    · rw [hb.2, hp.2]
  · rename_i he
    have hN := name_written (c :: r) (by simp) h0
    obtain ⟨b1, b2⟩ := back_name (c :: r) h0
    have hh := hd_esc c r
    refine ⟨behind_name hN ?_ ?_, hN, b1, b2⟩
    · rcases hh with e | e
      · rw [e]; decide
      · rw [e]; omega
    · rcases hh with e | e
      · rw [e]; decide
      · rw [e]; omega
theorem chars_ascii (b : Int) (l : List Int) (hb : 0 ≤ b ∧ b < 128) (hl : ∀ n ∈ l, 0 ≤ n ∧ n < 256) : chars (strOfNums (b :: l)) = b :: chars (strOfNums l) := by
  have hall : ∀ n ∈ b :: l, 0 ≤ n ∧ n < 256 := by
    intro n hn
    rcases List.mem_cons.1 hn with rfl | hn
    · omega
    · exact hl n hn
  have hg : ((strOfNums (b :: l)).get! 0).toNat = b.toNat := by rw [str_get hall]; rfl
  have hd : Utf8.decode (strOfNums (b :: l)) 0 = (b.toNat, 1) := by
    rw [Lib.decode_at, hg]
    unfold Lib.decodeN
    rw [if_pos (by omega)]
  unfold chars
  rw [strOf_size, strOf_size, List.length_cons, charsFrom, if_pos (by rw [strOf_size]; simp), hd]
  have hs := charsFrom_shift [b] l (fun n hn => hall n (by simp at hn; simp [hn])) hl l.length 0
  simp only [List.cons_append, List.nil_append, List.length_cons, List.length_nil, Nat.add_zero, Nat.zero_add] at hs
  simp only [Nat.zero_add]
  rw [hs]
  congr 1
  omega
theorem chars_high (b : Int) (l : List Int) (hb : 128 ≤ b ∧ b < 256) (hl : ∀ n ∈ l, 0 ≤ n ∧ n < 256) : ∃ c r, chars (strOfNums (b :: l)) = c :: r ∧ 128 ≤ c := by
  have hall : ∀ n ∈ b :: l, 0 ≤ n ∧ n < 256 := by
    intro n hn
    rcases List.mem_cons.1 hn with rfl | hn
    · omega
    · exact hl n hn
  have hg : ((strOfNums (b :: l)).get! 0).toNat = b.toNat := by rw [str_get hall]; rfl
  unfold chars
  rw [strOf_size, List.length_cons, charsFrom, if_pos (by rw [strOf_size]; simp)]
  refine ⟨_, _, rfl, ?_⟩
  rw [Lib.decode_at, hg]
  generalize ((strOfNums (b :: l)).get! (0 + 1)).toNat = b1
  generalize ((strOfNums (b :: l)).get! (0 + 2)).toNat = b2
  generalize ((strOfNums (b :: l)).get! (0 + 3)).toNat = b3
  unfold Lib.decodeN
  repeat' split
  all_goals (simp only; omega)
theorem unit_bytes (u : ByteArray) (hu : 0 < u.size) (h0 : ∀ c ∈ chars u, c ≠ 0) : unitL u = bytesZ (unitC (chars u)) := by
  have hus := bytesL_str u
  have hub := bytesL_byte u
  have hlen := bytesL_size u
  obtain ⟨b, l, hbl⟩ : ∃ b l, bytesL u = b :: l := by
    cases h : bytesL u with
    | nil => rw [h] at hlen; simp at hlen; omega
    | cons b l => exact ⟨b, l, rfl⟩
  rw [hbl] at hus hub
  have hb := hub b (by simp)
  have hl : ∀ n ∈ l, 0 ≤ n ∧ n < 256 := fun n hn => hub n (by simp [hn])
  have hg : ((u.get! 0).toNat : Int) = b := by
    rw [← hus, str_get hub]
    show ((b.toNat : Nat) : Int) = b
    omega
  have hex : u.extract 1 u.size = strOfNums l := by rw [← hus]; exact str_tail b l
  by_cases he : b = 101 ∨ b = 69
  · have hc := chars_ascii b l (by omega) hl
    rw [hus] at hc
    have heB : eB u = true := by
      unfold eB
      simp [hu]
      omega
    unfold unitL partsL
    rw [if_pos heB, hg, hex, hc, unitC, if_pos he, bytesZ_app, bytes_num (by omega), bytes_parts]
    intro d hd
    exact h0 d (by rw [hc]; simp [hd])
  · have heB : eB u = false := by
      unfold eB
      simp [hu]
      omega
    have hfin : unitC (chars u) = escC (chars u) := by
      by_cases h128 : b < 128
      · have hc := chars_ascii b l (by omega) hl
        rw [hus] at hc
        rw [hc, unitC, if_neg he]
      · obtain ⟨c, r, hc, hc1⟩ := chars_high b l (by omega) hl
        rw [hus] at hc
        rw [hc, unitC, if_neg (by omega)]
    unfold unitL
    rw [if_neg (by simp [heB]), hfin]
    exact esc_chars u h0
theorem told_unit (xs : List Int) (hc : ∀ c ∈ xs, IsChar c) (h0 : ∀ c ∈ xs, c ≠ 0) : ∀ x ∈ unitC xs, Told x := by
  cases xs with
  | nil => intro x hx; simp [unitC] at hx
  | cons c r =>
    rw [unitC]
    split
    · rename_i he
      intro x hx
      rcases List.mem_append.1 hx with h | h
      · exact told_num (by omega) x h
      · exact told_parts (fun e he => hc e (by simp [he])) (fun e he => h0 e (by simp [he])) x h
    · exact told_esc _ hc h0
theorem numb_told {d : List Int} (hn : Numb d) : (∀ x ∈ d, 0 ≤ x ∧ x < 128) ∧ ∀ x ∈ d, Told x := by
  obtain ⟨ds, hd1, _, hor⟩ := hn
  have h : ∀ x ∈ d, 45 ≤ x ∧ x ≤ 57 := by
    intro x hx
    rcases hor with rfl | rfl
    · have := hd1 x hx; omega
    · rcases List.mem_cons.1 hx with rfl | hx
      · omega
      · have := hd1 x hx; omega
  exact ⟨fun x hx => by have := h x hx; omega, fun x hx => by have := h x hx; exact ⟨⟨by omega, by omega, by omega⟩, by omega, by omega, by omega⟩⟩
theorem cut_num {d : List Int} (hn : Numb d) : cutZ (strOfNums d) = [mkTok 10 d [] true false] ∧ cutZ (strOfNums d ++ ⟨#[37]⟩) = [mkTok 11 d [] true false] ∧ strT d = strOfNums d := by
  obtain ⟨h1, h2⟩ := numb_told hn
  have hb := bytesZ_ascii d h1
  have hr := runes_again h2
  rw [hb] at hr
  have e37 : strOfNums d ++ ⟨#[37]⟩ = strOfNums (bytesZ (d ++ [37])) := by
    rw [bytesZ_app, hb, show bytesZ [37] = [37] from bytesZ_ascii [37] (by simp), nums_two]
    rfl
  have hr2 : runesZ (strOfNums (bytesZ (d ++ [37]))) = d ++ [37] := runes_again (by
    intro x hx
    rcases List.mem_append.1 hx with h | h
    · exact h2 x h
    · simp at h
      subst h
      exact ⟨⟨by omega, by omega, by omega⟩, by omega, by omega, by omega⟩)
  refine ⟨?_, ?_, ?_⟩
  · unfold cutZ
    rw [hr]
    exact toks_num hn
  · unfold cutZ
    rw [e37, hr2]
    exact toks_pc hn
  · unfold strT
    rw [hb]
theorem cut_dim {d : List Int} (hn : Numb d) (u : ByteArray) (hu : 0 < u.size) (hcl : (chars u).all cleanC = true) : cutZ (strOfNums (d ++ unitL u)) = [mkTok 12 d (chars u) true false] := by
  obtain ⟨h1, h2⟩ := numb_told hn
  obtain ⟨h0, _⟩ := clean_parts hcl
  have hc : ∀ c ∈ chars u, IsChar c := chars_char u u.size 0
  have hne : chars u ≠ [] := fun e => by have := (chars_none u).1 e; omega
  obtain ⟨f1, f2, f3, f4⟩ := unit_facts (chars u) hne h0
  have e : d ++ unitL u = bytesZ (d ++ unitC (chars u)) := by rw [bytesZ_app, bytesZ_ascii d h1, unit_bytes u hu h0]
  have hr : runesZ (strOfNums (bytesZ (d ++ unitC (chars u)))) = d ++ unitC (chars u) := runes_again (by
    intro x hx
    rcases List.mem_append.1 hx with h | h
    · exact h2 x h
    · exact told_unit _ hc h0 x h)
  unfold cutZ
  rw [e, hr]
  exact toks_dim hn f1 f2 f3 f4
end Go.Proofs.YtbfgnfcecfjlnaaDoor
