/- Each token of a text is made at some place of it; a number's text, whatever stands behind it that is no part of a number, is that number again; a name ahead of a bracket, and a Hash that is no name, are read again. A name ahead of a bracket is a Function again; a Hash that is no name is one again; each kind of number too. -/
import Derived.Test.YtbfgnfcecfjlnaaDoorBackNum
import Derived.Test.YtbfgnfcecfjlnaaDoorApart
namespace Go.Proofs.YtbfgnfcecfjlnaaDoor
open Go.RowKit

theorem toks_from : ∀ (n : Nat) (xs : List Int), xs.length ≤ n → ∀ t ∈ toks xs, ∃ l, l ≠ [] ∧ l <:+ xs ∧ (oneZ l).1 = some t
  | 0, xs, h, t, ht => by
    have : xs = [] := List.length_eq_zero_iff.1 (by omega)
    subst this
    simp [toks, toksF] at ht
  | n + 1, [], _, t, ht => by simp [toks, toksF] at ht
  | n + 1, c :: r, h, t, ht => by
    rw [toks_cons, List.mem_append] at ht
    rcases ht with ht | ht
    · refine ⟨c :: r, by simp, List.suffix_refl _, ?_⟩
      cases ho : (oneZ (c :: r)).1 with
      | none => rw [ho] at ht; simp at ht
      | some u => rw [ho] at ht; simp at ht; rw [ht]
    · have hl := one_less c r
      obtain ⟨l, h1, h2, h3⟩ := toks_from n (oneZ (c :: r)).2 (by have := hl.length_le; simp at h; omega) t ht
      exact ⟨l, h1, h2.trans (suf_cons hl), h3⟩

/-! ### numbers -/

theorem digitsR_split : ∀ (l : List Int), ∃ ds, Dig ds ∧ l = ds ++ digitsR l ∧ digitZ (hd (digitsR l) 0) = false
  | [] => ⟨[], (fun c hc => by cases hc), rfl, by decide⟩
  | c :: t => by
    obtain ⟨ds, h1, h2, h3⟩ := digitsR_split t
    by_cases hc : digitZ c = true
    · rw [digitsR, if_pos hc]
      refine ⟨c :: ds, ?_, ?_, h3⟩
      · intro x hx
        rcases List.mem_cons.1 hx with rfl | hx
        · unfold digitZ at hc
          simp at hc
          exact hc
        · exact h1 x hx
      · rw [List.cons_append, ← h2]
    · rw [digitsR, if_neg hc]
      exact ⟨[], (fun c hc => by cases hc), rfl, by simpa [hd] using hc⟩

theorem digit_at {c : Int} (h : 48 ≤ c ∧ c ≤ 57) : digitZ c = true := by unfold digitZ; simp; exact h
theorem dig_head {ds : List Int} (h : Dig ds) (hne : ds ≠ []) (R : List Int) : digitZ (hd (ds ++ R) 0) = true := by
  obtain ⟨c, r, rfl⟩ := List.exists_cons_of_ne_nil hne
  exact digit_at (h c (by simp))
theorem dig_not {c k : Int} (h : digitZ c = true) (hk : digitZ k = false) : c ≠ k := by
  intro e
  rw [e, hk] at h
  cases h

/-- What a number's text is made of. -/
def Parts (sg A F X : List Int) : Prop :=
  (sg = [] ∨ sg = [43] ∨ sg = [45]) ∧ Dig A ∧ (F = [] ∨ ∃ f, Dig f ∧ f ≠ [] ∧ F = 46 :: f) ∧ (X = [] ∨ ∃ e g E, (e = 101 ∨ e = 69) ∧ (g = [] ∨ g = [43] ∨ g = [45]) ∧ Dig E ∧ E ≠ [] ∧ X = e :: (g ++ E)) ∧ (A ≠ [] ∨ F ≠ [])

theorem exp_hit {e : Int} (he : e = 101 ∨ e = 69) {g : List Int} (hg : g = [] ∨ g = [43] ∨ g = [45]) {E : List Int} (hE : Dig E) (hn : E ≠ []) (R : List Int) (hR : digitZ (hd R 0) = false) :
    0 < expN (e :: (g ++ E) ++ R) ∧ expR (e :: (g ++ E) ++ R) = R := by
  have hd1 := dig_head hE hn R
  have hds := digitsR_dig E R hE hR
  obtain ⟨c, r, rfl⟩ := List.exists_cons_of_ne_nil hn
  have hc : digitZ c = true := hd1
  have hc43 : (c == 43) = false := by have := dig_not hc (show digitZ 43 = false by decide); simpa using this
  have hc45 : (c == 45) = false := by have := dig_not hc (show digitZ 45 = false by decide); simpa using this
  rcases hg with rfl | rfl | rfl
  · have e1 : expN (e :: ([] ++ c :: r) ++ R) = 1 := by
      unfold expN
      rw [if_pos (by simpa [hd] using he)]
      have : signB (List.drop 1 (e :: ([] ++ c :: r) ++ R)) = false := by simp [signB, hd, hc43, hc45]
      rw [this]
      simp [hd, hc]
    refine ⟨by omega, ?_⟩
    unfold expR
    rw [e1, if_pos (by omega)]
    exact hds
  · have e1 : expN (e :: ([43] ++ c :: r) ++ R) = 2 := by
      unfold expN
      rw [if_pos (by simpa [hd] using he)]
      have : signB (List.drop 1 (e :: ([43] ++ c :: r) ++ R)) = true := by simp [signB, hd]
      rw [this]
      simp [hd, hc]
    refine ⟨by omega, ?_⟩
    unfold expR
    rw [e1, if_pos (by omega)]
    exact hds
  · have e1 : expN (e :: ([45] ++ c :: r) ++ R) = 2 := by
      unfold expN
      rw [if_pos (by simpa [hd] using he)]
      have : signB (List.drop 1 (e :: ([45] ++ c :: r) ++ R)) = true := by simp [signB, hd]
      rw [this]
      simp [hd, hc]
    refine ⟨by omega, ?_⟩
    unfold expR
    rw [e1, if_pos (by omega)]
    exact hds

theorem exp_split (l : List Int) : ∃ X, (X = [] ∨ ∃ e g E, (e = 101 ∨ e = 69) ∧ (g = [] ∨ g = [43] ∨ g = [45]) ∧ Dig E ∧ E ≠ [] ∧ X = e :: (g ++ E)) ∧ l = X ++ expR l ∧ (X = [] ↔ expN l = 0) ∧ (X ≠ [] → digitZ (hd (expR l) 0) = false) := by
  by_cases h0 : expN l = 0
  · refine ⟨[], .inl rfl, ?_, ⟨fun _ => h0, fun _ => rfl⟩, fun h => absurd rfl h⟩
    unfold expR
    rw [h0, if_neg (by omega)]
    rfl
  · have hp : 0 < expN l := by omega
    have he : hd l 0 = 101 ∨ hd l 0 = 69 := by
      by_cases h : hd l 0 = 101 ∨ hd l 0 = 69
      · exact h
      · unfold expN at h0
        rw [if_neg h] at h0
        exact absurd rfl h0
    cases l with
    | nil => simp [hd] at he
    | cons e t =>
      have he' : e = 101 ∨ e = 69 := he
      have hv : expN (e :: t) = if signB t then (if digitZ (hd t 1) then 2 else 0) else (if digitZ (hd t 0) then 1 else 0) := by
        unfold expN
        rw [if_pos he]
        simp [hd]
      by_cases hs : signB t = true
      · rw [hs] at hv
        have hdg : digitZ (hd t 1) = true := by
          by_cases h : digitZ (hd t 1) = true
          · exact h
          · simp [h] at hv; omega
        have h2 : expN (e :: t) = 2 := by simp [hv, hdg]
        cases t with
        | nil => simp [signB, hd] at hs
        | cons g r =>
          have hg : g = 43 ∨ g = 45 := by simpa [signB, hd] using hs
          obtain ⟨E, k1, k2, k3⟩ := digitsR_split r
          have hEx : expR (e :: g :: r) = digitsR r := by
            unfold expR
            rw [h2, if_pos (by omega)]
            rfl
          have hE : E ≠ [] := by
            intro h
            subst h
            have : hd r 0 = hd (digitsR r) 0 := by rw [List.nil_append] at k2; rw [← k2]
            rw [← this] at k3
            have : digitZ (hd r 0) = true := hdg
            rw [this] at k3
            cases k3
          refine ⟨e :: ([g] ++ E), .inr ⟨e, [g], E, he', ?_, k1, hE, rfl⟩, ?_, ⟨fun h => by simp at h, fun h => by omega⟩, fun _ => by rw [hEx]; exact k3⟩
          · rcases hg with rfl | rfl
            · exact .inr (.inl rfl)
            · exact .inr (.inr rfl)
          · rw [hEx]
            simp only [List.cons_append, List.nil_append]
            rw [← k2]
      · have hs' : signB t = false := by simpa using hs
        rw [hs'] at hv
        have hdg : digitZ (hd t 0) = true := by
          by_cases h : digitZ (hd t 0) = true
          · exact h
          · simp [h] at hv; omega
        have h2 : expN (e :: t) = 1 := by simp [hv, hdg]
        obtain ⟨E, k1, k2, k3⟩ := digitsR_split t
        have hEx : expR (e :: t) = digitsR t := by
          unfold expR
          rw [h2, if_pos (by omega)]
          rfl
        have hE : E ≠ [] := by
          intro h
          subst h
          have : hd t 0 = hd (digitsR t) 0 := by rw [List.nil_append] at k2; rw [← k2]
          rw [← this, hdg] at k3
          cases k3
        refine ⟨e :: ([] ++ E), .inr ⟨e, [], E, he', .inl rfl, k1, hE, rfl⟩, ?_, ⟨fun h => by simp at h, fun h => by omega⟩, fun _ => by rw [hEx]; exact k3⟩
        rw [hEx]
        simp only [List.cons_append, List.nil_append]
        rw [← k2]

theorem frac_split (l : List Int) : ∃ F, (F = [] ∨ ∃ f, Dig f ∧ f ≠ [] ∧ F = 46 :: f) ∧ l = F ++ fracR l ∧ (F = [] ↔ dotB l = false) := by
  by_cases h : dotB l = true
  · cases l with
    | nil => simp [dotB, hd] at h
    | cons c t =>
      have hc : c = 46 ∧ digitZ (hd t 0) = true := by
        unfold dotB at h
        simpa [hd] using h
      obtain ⟨rfl, hdg⟩ := hc
      obtain ⟨f, k1, k2, k3⟩ := digitsR_split t
      have hf : f ≠ [] := by
        intro e
        subst e
        have : hd t 0 = hd (digitsR t) 0 := by rw [List.nil_append] at k2; rw [← k2]
        rw [← this, hdg] at k3
        cases k3
      have hfr : fracR (46 :: t) = digitsR t := by
        unfold fracR
        rw [if_pos h]
        rfl
      refine ⟨46 :: f, .inr ⟨f, k1, hf, rfl⟩, ?_, ⟨fun e => by simp at e, fun e => by rw [h] at e; cases e⟩⟩
      rw [hfr, List.cons_append, ← k2]
  · have h' : dotB l = false := by simpa using h
    refine ⟨[], .inl rfl, ?_, ⟨fun _ => h', fun _ => rfl⟩⟩
    unfold fracR
    rw [if_neg h]
    rfl

theorem sign_split (l : List Int) : ∃ sg, (sg = [] ∨ sg = [43] ∨ sg = [45]) ∧ l = sg ++ unsignZ l := by
  unfold unsignZ
  by_cases h : signB l = true
  · rw [if_pos h]
    cases l with
    | nil => simp [signB, hd] at h
    | cons c t =>
      have hc : c = 43 ∨ c = 45 := by simpa [signB, hd] using h
      rcases hc with rfl | rfl
      · exact ⟨[43], .inr (.inl rfl), rfl⟩
      · exact ⟨[45], .inr (.inr rfl), rfl⟩
  · rw [if_neg h]
    exact ⟨[], .inl rfl, rfl⟩

/-- A text that a number opens: its parts, what is left, and whether it is whole. -/
theorem num_split {l : List Int} (h : numB l = true) : ∃ sg A F X, Parts sg A F X ∧ l = (sg ++ A ++ F ++ X) ++ numR l ∧ (numW l = true ↔ F = [] ∧ X = []) := by
  obtain ⟨sg, s1, s2⟩ := sign_split l
  obtain ⟨A, a1, a2, a3⟩ := digitsR_split (unsignZ l)
  obtain ⟨F, f1, f2, f3⟩ := frac_split (mantR l)
  obtain ⟨X, x1, x2, x3, x4⟩ := exp_split (fracR (mantR l))
  refine ⟨sg, A, F, X, ⟨s1, a1, f1, x1, ?_⟩, ?_, ?_⟩
  · by_cases hA : A = []
    · right
      intro hF
      subst hA
      have hm : unsignZ l = mantR l := by
        rw [List.nil_append] at a2
        exact a2
      unfold numB at h
      rw [hm, (f3.1 hF), Bool.or_false] at h
      unfold mantR at h
      rw [a3] at h
      cases h
    · exact .inl hA
  · have e1 : unsignZ l = A ++ mantR l := a2
    have e2 : numR l = expR (fracR (mantR l)) := rfl
    rw [e2, List.append_assoc, ← x2, List.append_assoc, ← f2, List.append_assoc, ← e1, ← s2]
  · unfold numW
    simp only [Bool.and_eq_true, Bool.not_eq_true', decide_eq_false_iff_not]
    rw [f3, x3]
    constructor
    · rintro ⟨p, q⟩
      exact ⟨p, by omega⟩
    · rintro ⟨p, q⟩
      exact ⟨p, by omega⟩

/-- The same parts ahead of something else that is no part of a number. -/
theorem parts_back {sg A F X R : List Int} (hp : Parts sg A F X) (hR : Behind R) :
    numB ((sg ++ A ++ F ++ X) ++ R) = true ∧ numR ((sg ++ A ++ F ++ X) ++ R) = R ∧ (numW ((sg ++ A ++ F ++ X) ++ R) = true ↔ F = [] ∧ X = []) ∧ unsignZ ((sg ++ A ++ F ++ X) ++ R) = A ++ (F ++ (X ++ R)) := by
  obtain ⟨hsg, hA, hF, hX, hne⟩ := hp
  obtain ⟨r1, r2, r3⟩ := hR
  have hX0 : digitZ (hd (X ++ R) 0) = false ∧ dotB (X ++ R) = false := by
    rcases hX with rfl | ⟨e, g, E, he, _, _, _, rfl⟩
    · exact ⟨r1, r2⟩
    · rcases he with rfl | rfl
      · exact ⟨by simp [hd, digitZ], by simp [dotB, hd]⟩
      · exact ⟨by simp [hd, digitZ], by simp [dotB, hd]⟩
  have hF0 : digitZ (hd (F ++ (X ++ R)) 0) = false ∧ (dotB (F ++ (X ++ R)) = false ↔ F = []) ∧ fracR (F ++ (X ++ R)) = X ++ R := by
    rcases hF with rfl | ⟨f, hf, hfn, rfl⟩
    · refine ⟨hX0.1, ⟨fun _ => rfl, fun _ => hX0.2⟩, ?_⟩
      show fracR (X ++ R) = X ++ R
      unfold fracR
      rw [if_neg (by rw [hX0.2]; decide)]
    · have hdot : dotB (46 :: f ++ (X ++ R)) = true := by
        have := dig_head hf hfn (X ++ R)
        unfold dotB
        rw [List.cons_append]
        show (true && digitZ (hd (f ++ (X ++ R)) 0)) = true
        rw [this]
        rfl
      refine ⟨by simp [hd, digitZ], ⟨(fun e => by rw [hdot] at e; cases e), (fun e => by cases e)⟩, ?_⟩
      unfold fracR
      rw [if_pos hdot]
      exact digitsR_dig f (X ++ R) hf hX0.1
  have hE0 : expR (X ++ R) = R ∧ (expN (X ++ R) = 0 ↔ X = []) := by
    rcases hX with rfl | ⟨e, g, E, he, hg, hE, hEn, rfl⟩
    · refine ⟨?_, ⟨fun _ => rfl, fun _ => r3⟩⟩
      show expR R = R
      unfold expR
      rw [r3, if_neg (by omega)]
    · obtain ⟨k1, k2⟩ := exp_hit he hg hE hEn R r1
      exact ⟨k2, ⟨fun h => by omega, fun h => by cases h⟩⟩
  have hM : digitsR (A ++ (F ++ (X ++ R))) = F ++ (X ++ R) := digitsR_dig A _ hA hF0.1
  have hhead : signB (A ++ (F ++ (X ++ R))) = false := by
    by_cases hAe : A = []
    · subst hAe
      rcases hF with rfl | ⟨f, hf, hfn, rfl⟩
      · rcases hne with h | h
        · exact absurd rfl h
        · exact absurd rfl h
      · simp [signB, hd]
    · have hd1 := dig_head hA hAe (F ++ (X ++ R))
      have h43 := dig_not hd1 (show digitZ 43 = false by decide)
      have h45 := dig_not hd1 (show digitZ 45 = false by decide)
      unfold signB
      simp [h43, h45]
  have hassoc : (sg ++ A ++ F ++ X) ++ R = sg ++ (A ++ (F ++ (X ++ R))) := by simp
  have hun : unsignZ ((sg ++ A ++ F ++ X) ++ R) = A ++ (F ++ (X ++ R)) := by
    rw [hassoc]
    unfold unsignZ
    rcases hsg with rfl | rfl | rfl
    · rw [List.nil_append, if_neg (by rw [hhead]; decide)]
    · rfl
    · rfl
  have hmant : mantR ((sg ++ A ++ F ++ X) ++ R) = F ++ (X ++ R) := by
    unfold mantR
    rw [hun, hM]
  refine ⟨?_, ?_, ?_, hun⟩
  · unfold numB
    rw [hun]
    by_cases hAe : A = []
    · subst hAe
      have hFn : F ≠ [] := by
        rcases hne with h | h
        · exact absurd rfl h
        · exact h
      have : dotB (F ++ (X ++ R)) = true := by
        cases hd' : dotB (F ++ (X ++ R))
        · exact absurd (hF0.2.1.1 hd') hFn
        · rfl
      rw [List.nil_append, this]
      simp
    · rw [dig_head hA hAe]
      rfl
  · show expR (fracR (mantR ((sg ++ A ++ F ++ X) ++ R))) = R
    rw [hmant, hF0.2.2, hE0.1]
  · unfold numW
    rw [hmant, hF0.2.2]
    simp only [Bool.and_eq_true, Bool.not_eq_true', decide_eq_false_iff_not]
    rw [hF0.2.1]
    constructor
    · rintro ⟨p, q⟩
      exact ⟨p, hE0.2.1 (by omega)⟩
    · rintro ⟨p, q⟩
      exact ⟨p, by rw [hE0.2.2 q]; omega⟩

end Go.Proofs.YtbfgnfcecfjlnaaDoor
namespace Go.Proofs.YtbfgnfcecfjlnaaDoor
open Go.RowKit

theorem nameT_40 : nameT [40] 0 = [] ∧ nameR [40] 0 = [40] := nameT_stop (by decide) (by decide)
theorem back_parts40 : ∀ (r : List Int), (∀ c ∈ r, c ≠ 0) → nameT (r.flatMap partC ++ [40]) 0 = r ∧ nameR (r.flatMap partC ++ [40]) 0 = [40]
  | [], _ => nameT_40
  | c :: r, h => by
    have ih := back_parts40 r (fun d hd => h d (by simp [hd]))
    have hb := back_part (h c (by simp)) (r.flatMap partC ++ [40])
    rw [List.flatMap_cons, List.append_assoc, hb.1, hb.2, ih.1, ih.2]
    exact ⟨rfl, rfl⟩
theorem back_name40 (xs : List Int) (hne : xs ≠ []) (h : ∀ c ∈ xs, c ≠ 0) : nameT (escC xs ++ [40]) 0 = xs ∧ nameR (escC xs ++ [40]) 0 = [40] := by
  match xs, hne, h with
  | [c], _, h =>
    rw [escC]
    split
    · rename_i e
      subst e
      exact ⟨by decide, by decide⟩
    · have := back_first (h c (by simp)) (digitZ c = true) id [40]
      rw [nameT_40.1, nameT_40.2] at this
      exact this
  | c :: d :: r, _, h =>
    have hr := back_parts40 r (fun e he => h e (by simp [he]))
    have h1 := back_first (h c (by simp)) (digitZ c = true) id ((if c = 45 ∧ digitZ d = true then numL d else partC d) ++ (r.flatMap partC ++ [40]))
    have h2 := back_first (h d (by simp)) (c = 45 ∧ digitZ d = true) (fun x => x.2) (r.flatMap partC ++ [40])
    rw [escC, List.append_assoc, List.append_assoc, h1.1, h1.2, h2.1, h2.2, hr.1, hr.2]
    exact ⟨rfl, rfl⟩
theorem name_written40 : ∀ (xs : List Int), xs ≠ [] → (∀ c ∈ xs, c ≠ 0) → nameB (escC xs ++ [40]) = true
  | [], h, _ => absurd rfl h
  | [c], _, h => by
    rw [escC]
    split
    · decide
    · rename_i h45
      split
      · rename_i hdg
        obtain ⟨h1, h2⟩ := digit_num hdg
        exact name_of_esc (escB_num (c := c) (by omega) [40])
      · rename_i hdg
        exact name_of_word (word_part (h c (by simp)) (by simpa using hdg) h45 [40])
  | c :: d :: r, _, h => by
    rw [escC, List.append_assoc, List.append_assoc]
    by_cases h45 : c = 45
    · subst h45
      rw [if_neg (by decide), partC_dash]
      unfold nameB
      rw [if_pos (show (hd (45 :: ((if (45 : Int) = 45 ∧ digitZ d = true then numL d else partC d) ++ (List.flatMap partC r ++ [40]))) 0 == 45) = true from rfl)]
      rw [Bool.or_eq_true]
      by_cases hdg : digitZ d = true
      · right
        obtain ⟨h1, h2⟩ := digit_num hdg
        rw [if_pos ⟨rfl, hdg⟩]
        exact word_of_esc (escB_num (by omega) _)
      · rw [if_neg (fun x => hdg x.2)]
        by_cases hd45 : d = 45
        · left
          subst hd45
          rw [partC_dash]
          rfl
        · right
          exact word_part (h d (by simp)) (by simpa using hdg) hd45 _
    · by_cases hdg : digitZ c = true
      · obtain ⟨h1, h2⟩ := digit_num hdg
        rw [if_pos hdg]
        exact name_of_esc (escB_num (by omega) _)
      · rw [if_neg hdg]
        exact name_of_word (word_part (h c (by simp)) (by simpa using hdg) h45 _)
theorem no_cdc40 : ∀ (xs : List Int), standsB [45, 45, 62] (escC xs ++ [40]) = false
  | [] => by decide
  | [c] => by
    rw [escC]
    split
    · decide
    · rename_i h45
      split
      · rw [standsB, hd_num c [40]]; rfl
      · rw [standsB]
        rcases hd_part c [40] with e | ⟨e, _⟩
        · rw [e]; rfl
        · rw [e]; simp [h45]
  | c :: d :: r => by
    rw [escC, List.append_assoc, List.append_assoc]
    by_cases h45 : c = 45
    · subst h45
      rw [if_neg (by decide), partC_dash]
      rw [standsB, standsB]
      show (true && (hd ((if (45 : Int) = 45 ∧ digitZ d = true then numL d else partC d) ++ (r.flatMap partC ++ [40])) 0 == 45 && _)) = false
      by_cases hdg : digitZ d = true
      · rw [if_pos ⟨rfl, hdg⟩, hd_num]; rfl
      · rw [if_neg (fun x => hdg x.2)]
        by_cases hd45 : d = 45
        · subst hd45
          rw [partC_dash]
          show (true && (true && standsB [62] (r.flatMap partC ++ [40]))) = false
          rw [standsB]
          have : hd (r.flatMap partC ++ [40]) 0 ≠ 62 := by
            cases r with
            | nil => decide
            | cons e q =>
              rw [List.flatMap_cons, List.append_assoc]
              rcases hd_part e (q.flatMap partC ++ [40]) with h | ⟨h, hp⟩
              · rw [h]; decide
              · rw [h]; intro e2; subst e2; exact absurd hp (by decide)
          simp [this]
        · rcases hd_part d (r.flatMap partC ++ [40]) with h | ⟨h, hp⟩
          · rw [h]; rfl
          · rw [h]; simp [hd45]
    · by_cases hdg : digitZ c = true
      · rw [if_pos hdg, standsB, hd_num]; rfl
      · rw [if_neg hdg, standsB]
        rcases hd_part c _ with h | ⟨h, hp⟩
        · rw [h]; rfl
        · rw [h]; simp [h45]
theorem toks_func (xs : List Int) (hne : xs ≠ []) (h : ∀ c ∈ xs, c ≠ 0) (hu : urlNm xs = false) : toks (escC xs ++ [40]) = [plainTok 2 xs] := by
  have hN := name_written40 xs hne h
  obtain ⟨e1, e2, e3, e4, e5, e6⟩ := name_no hN
  have e7 := no_cdc40 xs
  obtain ⟨b1, b2⟩ := back_name40 xs hne h
  refine toks_one (by simp) ?_
  unfold oneZ
  rw [e1, e2, e3, e4, e5, e6, e7, hN]
  simp only [Bool.false_eq_true, if_false, if_true]
  unfold wordZ
  rw [b1, b2, if_pos (by decide), hu]
  rfl

/-! ### a Hash that is no name -/

theorem partC_dig {c : Int} (h : digitZ c = true) (t : List Int) : partC c ++ t = c :: t := by
  obtain ⟨h1, h2⟩ := digit_num h
  have h48 : 48 ≤ c ∧ c ≤ 57 := by unfold digitZ at h; simp at h; exact h
  have hu : unseenB c = false := by
    unfold unseenB
    simp
    omega
  have hp : partZ c = true := by unfold partZ; rw [h]; simp
  unfold partC
  rw [hu, hp]
  rfl
/-- What stands behind # where it is no name: a digit ahead, or a dash, and behind it a digit or nothing. -/
def Loose (xs : List Int) : Prop := (∃ c r, xs = c :: r ∧ digitZ c = true) ∨ xs = [45] ∨ ∃ c r, xs = 45 :: c :: r ∧ digitZ c = true
theorem loose_of {l : List Int} (hh : (partZ (hd l 0) || escB l) = true) (hN : nameB l = false) : Loose (nameT l 0) := by
  have hne : l ≠ [] := by
    intro e
    subst e
    simp [hd, partZ, startZ, digitZ, escB] at hh
  obtain ⟨c, t, rfl⟩ := List.exists_cons_of_ne_nil hne
  unfold nameB at hN
  by_cases h45 : c = 45
  · subst h45
    rw [if_pos (show (hd (45 :: t) 0 == 45) = true from rfl)] at hN
    have hp := (nameT_part (c := 45) (t := t) (by decide)).1
    rw [hp]
    have h2 : (hd t 0 == 45) = false ∧ wordB t = false := by
      have : (hd t 0 == 45 || wordB t) = false := hN
      simpa using this
    cases t with
    | nil => exact .inr (.inl rfl)
    | cons d r =>
      have hw := h2.2
      unfold wordB at hw
      have hw2 : startZ d = false ∧ escB (d :: r) = false := by simpa [hd] using hw
      have hd45 : d ≠ 45 := by simpa [hd] using h2.1
      by_cases hdg : digitZ d = true
      · right
        right
        rw [(nameT_part (c := d) (t := r) (by unfold partZ; rw [hdg]; simp)).1]
        exact ⟨d, _, rfl, hdg⟩
      · right
        left
        have hpd : partZ d = false := by unfold partZ; simp [hw2.1, hdg, hd45]
        rw [(nameT_stop (l := d :: r) hpd hw2.2).1]
  · rw [if_neg (by simp [hd, h45])] at hN
    unfold wordB at hN
    have hw2 : startZ c = false ∧ escB (c :: t) = false := by simpa [hd] using hN
    have hpc : partZ c = true := by
      have : (partZ c || escB (c :: t)) = true := hh
      rw [hw2.2, Bool.or_false] at this
      exact this
    have hdg : digitZ c = true := by
      unfold partZ at hpc
      simpa [hw2.1, h45] using hpc
    left
    rw [(nameT_part (c := c) (t := t) hpc).1]
    exact ⟨c, _, rfl, hdg⟩
theorem loose_back {xs : List Int} (hl : Loose xs) : nameB (xs.flatMap partC) = false ∧ (partZ (hd (xs.flatMap partC) 0) || escB (xs.flatMap partC)) = true := by
  rcases hl with ⟨c, r, rfl, hc⟩ | rfl | ⟨c, r, rfl, hc⟩
  · rw [List.flatMap_cons, partC_dig hc]
    have h48 : 48 ≤ c ∧ c ≤ 57 := by unfold digitZ at hc; simp at hc; exact hc
    have n45 : c ≠ 45 := by omega
    have n92 : c ≠ 92 := by omega
    have hst : startZ c = false := by unfold startZ; simp; omega
    refine ⟨?_, ?_⟩
    · unfold nameB wordB escB
      simp [hd, n45, n92, hst]
    · have : partZ c = true := by unfold partZ; rw [hc]; simp
      simp [hd, this]
  · exact ⟨by decide, by decide⟩
  · rw [List.flatMap_cons, partC_dash, List.flatMap_cons, partC_dig hc]
    have h48 : 48 ≤ c ∧ c ≤ 57 := by unfold digitZ at hc; simp at hc; exact hc
    have n45 : c ≠ 45 := by omega
    have n92 : c ≠ 92 := by omega
    have hst : startZ c = false := by unfold startZ; simp; omega
    refine ⟨?_, ?_⟩
    · unfold nameB wordB escB
      simp [hd, n45, n92, hst]
    · simp [hd, partZ]
theorem toks_loose (xs : List Int) (hl : Loose xs) (h : ∀ c ∈ xs, c ≠ 0) : toks (35 :: xs.flatMap partC) = [mkTok 4 xs [] false false] := by
  obtain ⟨l1, l2⟩ := loose_back hl
  obtain ⟨b1, b2⟩ := back_parts xs h
  refine toks_one (by simp) ?_
  unfold oneZ
  have a1 : standsB [47, 42] (35 :: xs.flatMap partC) = false := by simp [standsB, hd]
  have a2 : blankZ (hd (35 :: xs.flatMap partC) 0) = false := by simp [hd, blankZ]
  have a3 : quoteB (35 :: xs.flatMap partC) = false := by simp [quoteB, hd]
  have a4 : hashB (35 :: xs.flatMap partC) = true := by
    show (true && (partZ (hd (xs.flatMap partC) 0) || escB (xs.flatMap partC))) = true
    rw [l2]
    rfl
  simp only [a1, a2, a3, a4, Bool.false_eq_true, if_false, if_true]
  show someT (hashZ (xs.flatMap partC)) = _
  unfold hashZ
  rw [b1, b2, l1]
  rfl

/-! ### numbers -/

theorem num_head {l : List Int} (h : numB l = true) : hd l 0 = 43 ∨ hd l 0 = 45 ∨ hd l 0 = 46 ∨ digitZ (hd l 0) = true := by
  unfold numB unsignZ at h
  by_cases hs : signB l = true
  · unfold signB at hs
    simp at hs
    rcases hs with h | h
    · exact .inl h
    · exact .inr (.inl h)
  · rw [if_neg hs] at h
    rcases Bool.or_eq_true_iff.1 h with h | h
    · exact .inr (.inr (.inr h))
    · unfold dotB at h
      simp at h
      exact .inr (.inr (.inl h.1))
theorem one_num {l : List Int} (h : numB l = true) : oneZ l = someT (numZ l) := by
  have h4 := num_head h
  have hno : ∀ k, k ≠ 43 → k ≠ 45 → k ≠ 46 → digitZ k = false → hd l 0 ≠ k := by
    intro k k1 k2 k3 k4 e
    rcases h4 with h | h | h | h
    · exact k1 (e.symm.trans h)
    · exact k2 (e.symm.trans h)
    · exact k3 (e.symm.trans h)
    · rw [e, k4] at h; cases h
  have n47 := hno 47 (by decide) (by decide) (by decide) (by decide)
  have n32 := hno 32 (by decide) (by decide) (by decide) (by decide)
  have n9 := hno 9 (by decide) (by decide) (by decide) (by decide)
  have n10 := hno 10 (by decide) (by decide) (by decide) (by decide)
  have n34 := hno 34 (by decide) (by decide) (by decide) (by decide)
  have n39 := hno 39 (by decide) (by decide) (by decide) (by decide)
  have n35 := hno 35 (by decide) (by decide) (by decide) (by decide)
  have a1 : standsB [47, 42] l = false := by rw [standsB]; simp [n47]
  have a2 : blankZ (hd l 0) = false := by simp [blankZ, n32, n9, n10]
  have a3 : quoteB l = false := by simp [quoteB, n34, n39]
  have a4 : hashB l = false := by simp [hashB, n35]
  unfold oneZ
  rw [a1, a2, a3, a4, h]
  rfl
/-- A number's text that some text has: with anything behind it that is no part of a number it is read again. -/
def NumTx (d : List Int) (wh : Bool) : Prop := d ≠ [] ∧ (∀ x ∈ d, 43 ≤ x ∧ x ≤ 101) ∧ ∀ R, Behind R → numB (d ++ R) = true ∧ numR (d ++ R) = R ∧ numW (d ++ R) = wh
theorem num_tx {l : List Int} (h : numB l = true) : NumTx (gone l (numR l)) (numW l) := by
  obtain ⟨sg, A, F, X, hp, hl, hw⟩ := num_split h
  have hg : gone l (numR l) = sg ++ A ++ F ++ X := by
    have := gone_app (sg ++ A ++ F ++ X) (numR l)
    rw [← hl] at this
    exact this
  rw [hg]
  clear hg
  refine ⟨?_, ?_, ?_⟩
  · intro e
    obtain ⟨_, _, _, _, hne⟩ := hp
    simp at e
    rcases hne with h | h
    · exact h e.2.1
    · exact h e.2.2.1
  · obtain ⟨h1, h2, h3, h4, _⟩ := hp
    intro x hx
    rw [List.mem_append, List.mem_append, List.mem_append] at hx
    rcases hx with ((hx | hx) | hx) | hx
    · rcases h1 with rfl | rfl | rfl <;> simp at hx <;> omega
    · have := h2 x hx; omega
    · rcases h3 with rfl | ⟨f, hf, _, rfl⟩
      · cases hx
      · rcases List.mem_cons.1 hx with rfl | hx
        · omega
        · have := hf x hx; omega
    · rcases h4 with rfl | ⟨e, g, E, he, hg, hE, _, rfl⟩
      · cases hx
      · rcases List.mem_cons.1 hx with rfl | hx
        · omega
        · rcases List.mem_append.1 hx with hx | hx
          · rcases hg with rfl | rfl | rfl <;> simp at hx <;> omega
          · have := hE x hx; omega
  · intro R hR
    obtain ⟨k1, k2, k3, _⟩ := parts_back hp hR
    refine ⟨k1, k2, ?_⟩
    have : (numW ((sg ++ A ++ F ++ X) ++ R) = true) ↔ (numW l = true) := k3.trans hw.symm
    cases h1 : numW ((sg ++ A ++ F ++ X) ++ R) <;> cases h2 : numW l
    · rfl
    · rw [h1, h2] at this; exact absurd (this.2 rfl) (by decide)
    · rw [h1, h2] at this; exact absurd (this.1 rfl) (by decide)
    · rfl
theorem toks_numT {d : List Int} {wh : Bool} (hn : NumTx d wh) : toks d = [mkTok 10 d [] wh false] := by
  obtain ⟨h0, _, h⟩ := hn
  obtain ⟨k1, k2, k3⟩ := h [] behind_nil
  rw [List.append_nil] at k1 k2 k3
  refine toks_one h0 ?_
  have hg : gone d [] = d := by have := gone_app d []; rwa [List.append_nil] at this
  rw [one_num k1]
  unfold numZ
  rw [k2, k3, hg]
  rfl
theorem toks_pcT {d : List Int} {wh : Bool} (hn : NumTx d wh) : toks (d ++ [37]) = [mkTok 11 d [] wh false] := by
  obtain ⟨h0, _, h⟩ := hn
  obtain ⟨k1, k2, k3⟩ := h [37] behind_pc
  refine toks_one (by simp) ?_
  rw [one_num k1]
  unfold numZ
  rw [k2, k3, gone_app]
  rfl
theorem toks_dimT {d U xs : List Int} {wh : Bool} (hn : NumTx d wh) (hU : Behind U) (hN : nameB U = true) (hT : nameT U 0 = xs) (hR : nameR U 0 = []) : toks (d ++ U) = [mkTok 12 d xs wh false] := by
  obtain ⟨h0, _, h⟩ := hn
  obtain ⟨k1, k2, k3⟩ := h U hU
  refine toks_one (by simp [h0]) ?_
  rw [one_num k1]
  unfold numZ
  rw [k2, k3, gone_app, hN, hT, hR]
  rfl
theorem numT_told {d : List Int} {wh : Bool} (hn : NumTx d wh) : (∀ x ∈ d, 0 ≤ x ∧ x < 128) ∧ ∀ x ∈ d, Told x := by
  obtain ⟨_, h, _⟩ := hn
  exact ⟨fun x hx => by have := h x hx; omega, fun x hx => by have := h x hx; exact ⟨⟨by omega, by omega, by omega⟩, by omega, by omega, by omega⟩⟩
theorem cut_numT {d : List Int} {wh : Bool} (hn : NumTx d wh) : cutZ (strOfNums d) = [mkTok 10 d [] wh false] ∧ cutZ (strOfNums (d ++ [37])) = [mkTok 11 d [] wh false] ∧ strT d = strOfNums d := by
  obtain ⟨h1, h2⟩ := numT_told hn
  have hb := bytesZ_ascii d h1
  have hr := runes_again h2
  rw [hb] at hr
  have e37 : d ++ [37] = bytesZ (d ++ [37]) := by
    rw [bytesZ_app, hb, show bytesZ [37] = [37] from bytesZ_ascii [37] (by simp)]
  have hr2 : runesZ (strOfNums (bytesZ (d ++ [37]))) = d ++ [37] := runes_again (by
    intro x hx
    rcases List.mem_append.1 hx with h | h
    · exact h2 x h
    · simp at h
      subst h
      exact ⟨⟨by omega, by omega, by omega⟩, by omega, by omega, by omega⟩)
  rw [← e37] at hr2
  refine ⟨?_, ?_, ?_⟩
  · unfold cutZ
    rw [hr]
    exact toks_numT hn
  · unfold cutZ
    rw [hr2]
    exact toks_pcT hn
  · unfold strT
    rw [hb]
theorem cut_dimT {d : List Int} {wh : Bool} (hn : NumTx d wh) (u : ByteArray) (hu : 0 < u.size) (hcl : (chars u).all cleanC = true) : cutZ (strOfNums (d ++ unitL u)) = [mkTok 12 d (chars u) wh false] := by
  obtain ⟨h1, h2⟩ := numT_told hn
  obtain ⟨h0, _⟩ := clean_parts hcl
  have hc : ∀ c ∈ chars u, IsChar c := chars_char u u.size 0
  have hne : chars u ≠ [] := fun e => by have := (chars_none u).1 e; omega
  obtain ⟨f1, f2, f3, f4⟩ := unit_facts (chars u) hne h0
  have e : d ++ unitL u = bytesZ (d ++ unitC (chars u)) := by rw [bytesZ_app, bytesZ_ascii d h1, unit_bytes u hu h0]
  have hr : runesZ (strOfNums (bytesZ (d ++ unitC (chars u)))) = d ++ unitC (chars u) := runes_again (by
    intro x hx
    rcases List.mem_append.1 hx with h | h
    · exact h2 x h
    · exact told_unit _ hc h0 x h)
  unfold cutZ
  rw [e, hr]
  exact toks_dimT hn f1 f2 f3 f4

end Go.Proofs.YtbfgnfcecfjlnaaDoor
