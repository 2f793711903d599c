/- Numbers and hashes, cut into tokens. -/
import Derived.Test.YtlhdapckenjigaaGreatDoorWWh
import Derived.Test.YtlhdapckenjigaaGreatDoorWDi
import Derived.Test.YtlhdapckenjigaaGreatDoorToks
namespace Go.Proofs.YtlhdapckenjigaaGreatDoor.W
open Go.RowKit
set_option maxRecDepth 100000

theorem decF_dig : ∀ (f u : Nat) (acc : List Int), Dig acc → Dig (decF f u acc)
  | 0, _, _, h => h
  | f + 1, u, acc, h => by
    have hc : Dig (((48 + u % 10 : Nat) : Int) :: acc) := by
      intro c hc
      rcases List.mem_cons.1 hc with rfl | hc
      · omega
      · exact h c hc
    rw [decF]
    split
    · exact hc
    · exact decF_dig f _ _ hc
theorem decF_ne : ∀ (f u : Nat) (acc : List Int), 0 < f ∨ acc ≠ [] → decF f u acc ≠ []
  | 0, _, acc, h => h.resolve_left (by omega)
  | f + 1, u, acc, _ => by
    rw [decF]
    split
    · simp
    · exact decF_ne f _ _ (.inr (by simp))
theorem decF_sat : ∀ (f u : Nat) (acc : List Int), u < p10 f → 0 < f → (decF f u acc).foldl satZ 0 = acc.foldl satZ (if 1000000 < (u : Int) then 1000000 else (u : Int))
  | 0, _, _, _, h => absurd h (by omega)
  | f + 1, u, acc, hu, _ => by
    rw [decF]
    split
    · rename_i hq
      rw [List.foldl_cons]
      congr 1
      unfold satZ
      rw [if_neg (by omega), if_neg (by omega)]
      omega
    · rename_i hq
      have h3 : u / 10 < p10 f := by
        unfold p10 at hu ⊢
        rw [Nat.pow_succ] at hu
        omega
      have h4 : 0 < f := by
        cases f with
        | zero => unfold p10 at h3; simp at h3; omega
        | succ k => omega
      rw [decF_sat f (u / 10) _ h3 h4, List.foldl_cons]
      congr 1
      unfold satZ
      repeat' split
      all_goals omega
theorem dec_dig' (N : Nat) : Dig (decU N) := decF_dig _ _ _ (fun c hc => by cases hc)
theorem dec_ne (N : Nat) : decU N ≠ [] := decF_ne _ _ _ (.inl (by omega))
theorem dec_len (N : Nat) : (decU N).length ≤ 20 := by have := decF_len 20 N []; unfold decU; simpa using this
theorem dec_sat (N : Nat) (h : N ≤ 9223372036854775808) : satL (decU N) = if 1000000 < (N : Int) then 1000000 else (N : Int) := decF_sat 20 N [] (p10_20 N h) (by omega)

/-! ### reading -/

theorem digitsR_dig : ∀ (ds R : List Int), Dig ds → digitZ (hd R 0) = false → digitsR (ds ++ R) = R
  | [], R, _, h => by
    cases R with
    | nil => rfl
    | cons c t =>
      have : digitZ c = false := h
      show digitsR (c :: t) = c :: t
      rw [digitsR, if_neg (by simp [this])]
  | c :: r, R, hd', h => by
    rw [List.cons_append, digitsR, if_pos (digit_yes (hd' c (by simp)))]
    exact digitsR_dig r R (fun x hx => hd' x (by simp [hx])) h
/-- What may stand behind a number's digits. -/
def Behind (R : List Int) : Prop := digitZ (hd R 0) = false ∧ dotB R = false ∧ expN R = 0
/-- A number as it is written: digits, at times behind a minus. -/
def Numb (d : List Int) : Prop := ∃ ds, Dig ds ∧ ds ≠ [] ∧ (d = ds ∨ d = 45 :: ds)
theorem numb_parts {d R : List Int} (hn : Numb d) (hR : Behind R) : numB (d ++ R) = true ∧ numR (d ++ R) = R ∧ numW (d ++ R) = true ∧ (hd (d ++ R) 0 = 45 ∨ digitZ (hd (d ++ R) 0) = true) := by
  obtain ⟨ds, hd1, hne, hor⟩ := hn
  obtain ⟨c, r, rfl⟩ := List.exists_cons_of_ne_nil hne
  have hc := hd1 c (by simp)
  have hcd := digit_yes hc
  have hus : unsignZ (d ++ R) = (c :: r) ++ R := by
    rcases hor with rfl | rfl
    · unfold unsignZ signB
      have e : (hd ((c :: r) ++ R) 0 == 43 || hd ((c :: r) ++ R) 0 == 45) = false := by
        show (c == 43 || c == 45) = false
        have h1 : c ≠ 43 := by omega
        have h2 : c ≠ 45 := by omega
        simp [h1, h2]
      rw [e]
      rfl
    · rfl
  have hm : mantR (d ++ R) = R := by
    unfold mantR
    rw [hus]
    exact digitsR_dig _ _ hd1 hR.1
  refine ⟨?_, ?_, ?_, ?_⟩
  · unfold numB
    rw [hus]
    show (digitZ c || _) = true
    rw [hcd]
    rfl
  · unfold numR
    rw [hm]
    unfold fracR
    rw [hR.2.1]
    show expR R = R
    unfold expR
    rw [hR.2.2, if_neg (by omega)]
  · unfold numW
    rw [hm]
    unfold fracR
    rw [hR.2.1]
    show (!false && !decide (0 < expN R)) = true
    rw [hR.2.2]
    rfl
  · rcases hor with rfl | rfl
    · right; exact hcd
    · left; rfl
theorem one_numb {d R : List Int} (hn : Numb d) (hR : Behind R) : oneZ (d ++ R) = someT (numZ (d ++ R)) := by
  obtain ⟨h1, _, _, h4⟩ := numb_parts hn hR
  have hno : ∀ k, k ≠ 45 → digitZ k = false → hd (d ++ R) 0 ≠ k := by
    intro k hk1 hk2 e
    rcases h4 with h | h
    · exact hk1 (e.symm.trans h)
    · rw [e, hk2] at h; cases h
  have n47 := hno 47 (by decide) (by decide)
  have n32 := hno 32 (by decide) (by decide)
  have n9 := hno 9 (by decide) (by decide)
  have n10 := hno 10 (by decide) (by decide)
  have n34 := hno 34 (by decide) (by decide)
  have n39 := hno 39 (by decide) (by decide)
  have n35 := hno 35 (by decide) (by decide)
  have a1 : standsB [47, 42] (d ++ R) = false := by rw [standsB]; simp [n47]
  have a2 : blankZ (hd (d ++ R) 0) = false := by simp [blankZ, n32, n9, n10]
  have a3 : quoteB (d ++ R) = false := by simp [quoteB, n34, n39]
  have a4 : hashB (d ++ R) = false := by simp [hashB, n35]
  unfold oneZ
  rw [a1, a2, a3, a4, h1]
  rfl
theorem gone_app (d R : List Int) : gone (d ++ R) R = d := by
  unfold gone
  rw [List.length_append, Nat.add_sub_cancel, List.take_left]
theorem numZ_of {d R : List Int} (hn : Numb d) (hR : Behind R) : numZ (d ++ R) = if nameB R then (mkTok 12 d (nameT R 0) true false, nameR R 0) else if hd R 0 = 37 then (mkTok 11 d [] true false, R.drop 1) else (mkTok 10 d [] true false, R) := by
  obtain ⟨_, h2, h3, _⟩ := numb_parts hn hR
  unfold numZ
  rw [h2, h3, gone_app]
theorem toks_one {l : List Int} {t : Tok} (hne : l ≠ []) (h : oneZ l = (some t, [])) : toks l = [t] := by
  obtain ⟨c, r, rfl⟩ := List.exists_cons_of_ne_nil hne
  rw [toks_cons, h]
  rfl
theorem numb_ne {d : List Int} (hn : Numb d) (R : List Int) : d ++ R ≠ [] := by
  obtain ⟨ds, _, hne, hor⟩ := hn
  obtain ⟨c, r, rfl⟩ := List.exists_cons_of_ne_nil hne
  rcases hor with rfl | rfl <;> simp
theorem behind_nil : Behind [] := ⟨by decide, by decide, by decide⟩
theorem behind_pc : Behind [37] := ⟨by decide, by decide, by decide⟩
theorem toks_num {d : List Int} (hn : Numb d) : toks d = [mkTok 10 d [] true false] := by
  have h1 := one_numb hn behind_nil
  have h2 := numZ_of hn behind_nil
  rw [List.append_nil] at h1 h2
  refine toks_one (by have := numb_ne hn []; rwa [List.append_nil] at this) ?_
  rw [h1, h2]
  rfl
theorem toks_pc {d : List Int} (hn : Numb d) : toks (d ++ [37]) = [mkTok 11 d [] true false] := by
  refine toks_one (numb_ne hn _) ?_
  rw [one_numb hn behind_pc, numZ_of hn behind_pc]
  rfl
theorem toks_dim {d U xs : List Int} (hn : Numb d) (hU : Behind U) (hN : nameB U = true) (hT : nameT U 0 = xs) (hR : nameR U 0 = []) : toks (d ++ U) = [mkTok 12 d xs true false] := by
  refine toks_one (numb_ne hn _) ?_
  rw [one_numb hn hU, numZ_of hn hU, hN, hT, hR]
  rfl

/-! ### units -/

theorem numb_told {d : List Int} (hn : Numb d) : (∀ x ∈ d, 0 ≤ x ∧ x < 128) ∧ ∀ x ∈ d, Told x := by
  obtain ⟨ds, hd1, _, hor⟩ := hn
  have h : ∀ x ∈ d, 45 ≤ x ∧ x ≤ 57 := by
    intro x hx
    rcases hor with rfl | rfl
    · have := hd1 x hx; omega
    · rcases List.mem_cons.1 hx with rfl | hx
      · omega
      · have := hd1 x hx; omega
  exact ⟨fun x hx => by have := h x hx; omega, fun x hx => by have := h x hx; exact ⟨⟨by omega, by omega, by omega⟩, by omega, by omega, by omega⟩⟩
end Go.Proofs.YtlhdapckenjigaaGreatDoor.W
