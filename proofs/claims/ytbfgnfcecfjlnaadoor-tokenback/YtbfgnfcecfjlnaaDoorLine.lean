/- The tokens of two lists of characters with a blank between, the first without quotes, (, slash and backslash: those of the one, a Space, those of the other. The characters of two texts with a line feed between, the first without a carriage return: those of the one, the line feed, those of the other. -/
import Derived.Test.YtbfgnfcecfjlnaaDoorPlain
import Derived.Test.YtbfgnfcecfjlnaaDoorApart
namespace Go.Proofs.YtbfgnfcecfjlnaaDoor

def Bare (l : List Int) : Prop := ∀ c ∈ l, c ≠ 34 ∧ c ≠ 39 ∧ c ≠ 40 ∧ c ≠ 47 ∧ c ≠ 92
theorem Bare.tail {c : Int} {t : List Int} (h : Bare (c :: t)) : Bare t := fun d hd => h d (List.mem_cons_of_mem _ hd)
theorem Bare.suf {l m : List Int} (h : Bare l) (hs : m <:+ l) : Bare m := fun d hd => h d (hs.subset hd)
theorem Bare.drop {l : List Int} (h : Bare l) (k : Nat) : Bare (l.drop k) := h.suf (suf_drop l k)
theorem blank_cases {x : Int} (h : blankZ x = true) : x = 32 ∨ x = 9 ∨ x = 10 := by
  simpa [blankZ, or_assoc] using h
theorem hd_cons (c : Int) (t : List Int) : hd (c :: t) 0 = c := rfl
theorem hd_succ (c : Int) (t : List Int) (i : Nat) : hd (c :: t) (i + 1) = hd t i := rfl
theorem hd_nil (i : Nat) : hd [] i = -1 := by simp [hd]


theorem hd_join {x : Int} (m : List Int) (l : List Int) : hd (l ++ x :: m) 0 = hd l 0 ∨ (hd (l ++ x :: m) 0 = x ∧ hd l 0 = -1) := by
  cases l with
  | nil => right; exact ⟨rfl, rfl⟩
  | cons c t => left; rfl
/-- A test that no blank, and not the end, meets. -/
theorem test_join {x : Int} (hx : blankZ x = true) (m : List Int) (f : Int → Bool) (h32 : f 32 = false) (h9 : f 9 = false) (h10 : f 10 = false) (he : f (-1) = false) (l : List Int) : f (hd (l ++ x :: m) 0) = f (hd l 0) := by
  rcases hd_join m l with e | ⟨e1, e2⟩
  · rw [e]
  · rw [e1, e2, he]
    rcases blank_cases hx with rfl | rfl | rfl
    · exact h32
    · exact h9
    · exact h10
theorem start_join {x : Int} (hx : blankZ x = true) (m : List Int) (l : List Int) : startZ (hd (l ++ x :: m) 0) = startZ (hd l 0) := test_join hx m startZ (by decide) (by decide) (by decide) (by decide) l
theorem part_join {x : Int} (hx : blankZ x = true) (m : List Int) (l : List Int) : partZ (hd (l ++ x :: m) 0) = partZ (hd l 0) := test_join hx m partZ (by decide) (by decide) (by decide) (by decide) l
theorem digit_join {x : Int} (hx : blankZ x = true) (m : List Int) (l : List Int) : digitZ (hd (l ++ x :: m) 0) = digitZ (hd l 0) := test_join hx m digitZ (by decide) (by decide) (by decide) (by decide) l
theorem eq_join {x : Int} (hx : blankZ x = true) (m : List Int) (k : Int) (hk : blankZ k = false) (h1 : k ≠ -1) (l : List Int) : (hd (l ++ x :: m) 0 == k) = (hd l 0 == k) := by
  refine test_join hx m (fun c => c == k) ?_ ?_ ?_ ?_ l
  all_goals simp [blankZ] at hk; simp; omega
theorem drop_join {x : Int} (m : List Int) (c : Int) (t : List Int) : ((c :: t) ++ x :: m).drop 1 = t ++ x :: m := rfl
theorem escB_join {x : Int} (hx : blankZ x = true) (m : List Int) {l : List Int} (hb : Bare l) : escB (l ++ x :: m) = false := by
  cases l with
  | nil =>
    rcases blank_cases hx with rfl | rfl | rfl <;> simp [escB, hd]
  | cons c t =>
    have := (hb c (by simp)).2.2.2.2
    simp [escB, hd, this]
theorem escB_bare {l : List Int} (hb : Bare l) : escB l = false := by
  cases l with
  | nil => rfl
  | cons c t =>
    have := (hb c (by simp)).2.2.2.2
    simp [escB, hd, this]
theorem wordB_join {x : Int} (hx : blankZ x = true) (m : List Int) {l : List Int} (hb : Bare l) : wordB (l ++ x :: m) = wordB l := by
  unfold wordB
  rw [start_join hx, escB_join hx m hb, escB_bare hb]
theorem nameB_join {x : Int} (hx : blankZ x = true) (m : List Int) {l : List Int} (hb : Bare l) : nameB (l ++ x :: m) = nameB l := by
  unfold nameB
  have e := eq_join hx m 45 (by decide) (by decide) l
  rw [e]
  cases l with
  | nil => simp only [hd_nil]; exact wordB_join hx m hb
  | cons c t =>
    have e2 := eq_join hx m 45 (by decide) (by decide) t
    rw [drop_join m, wordB_join hx m hb.tail, wordB_join hx m hb]
    show (if _ then (hd (t ++ x :: m) 0 == 45) || _ else _) = _
    rw [e2]
    rfl
theorem signB_join {x : Int} (hx : blankZ x = true) (m : List Int) (l : List Int) : signB (l ++ x :: m) = signB l := by
  unfold signB
  rw [eq_join hx m 43 (by decide) (by decide) l, eq_join hx m 45 (by decide) (by decide) l]
theorem dotB_join {x : Int} (hx : blankZ x = true) (m : List Int) (l : List Int) : dotB (l ++ x :: m) = dotB l := by
  unfold dotB
  rw [eq_join hx m 46 (by decide) (by decide) l]
  cases l with
  | nil => rfl
  | cons c t =>
    have := digit_join hx m t
    show (_ && digitZ (hd (t ++ x :: m) 0)) = _
    rw [this]
    rfl
theorem unsign_join {x : Int} (hx : blankZ x = true) (m : List Int) (l : List Int) : unsignZ (l ++ x :: m) = unsignZ l ++ x :: m := by
  unfold unsignZ
  rw [signB_join hx]
  cases l with
  | nil => rfl
  | cons c t => split <;> rfl
theorem numB_join {x : Int} (hx : blankZ x = true) (m : List Int) (l : List Int) : numB (l ++ x :: m) = numB l := by
  unfold numB
  rw [unsign_join hx, digit_join hx, dotB_join hx]
theorem digitsR_join {x : Int} (hx : blankZ x = true) (m : List Int) : ∀ (l : List Int), digitsR (l ++ x :: m) = digitsR l ++ x :: m
  | [] => by
    rcases blank_cases hx with rfl | rfl | rfl <;> simp [digitsR, digitZ]
  | c :: t => by
    rw [List.cons_append, digitsR, digitsR, digitsR_join hx m t]
    split <;> rfl
theorem nameT_join {x : Int} (hx : blankZ x = true) (m : List Int) : ∀ (l : List Int), Bare l → nameT (l ++ x :: m) 0 = nameT l 0
  | [], _ => by
    have h1 : partZ x = false := by rcases blank_cases hx with rfl | rfl | rfl <;> decide
    have h2 : escB (x :: m) = false := escB_join hx m (l := []) (fun c hc => by cases hc)
    show nameT (x :: m) 0 = _
    simp [nameT, h1, h2]
  | c :: t, hb => by
    have h2 := escB_join hx m hb
    have h3 := escB_bare hb
    rw [List.cons_append] at h2 ⊢
    rw [nameT, nameT, h2, h3, nameT_join hx m t hb.tail]
    simp
theorem nameR_join {x : Int} (hx : blankZ x = true) (m : List Int) : ∀ (l : List Int), Bare l → nameR (l ++ x :: m) 0 = nameR l 0 ++ x :: m
  | [], _ => by
    have h1 : partZ x = false := by rcases blank_cases hx with rfl | rfl | rfl <;> decide
    have h2 : escB (x :: m) = false := escB_join hx m (l := []) (fun c hc => by cases hc)
    show nameR (x :: m) 0 = _
    simp [nameR, h1, h2]
  | c :: t, hb => by
    have h2 := escB_join hx m hb
    have h3 := escB_bare hb
    rw [List.cons_append] at h2 ⊢
    rw [nameR, nameR, h2, h3, nameR_join hx m t hb.tail]
    split <;> simp
theorem standsB_join {x : Int} (hx : blankZ x = true) (m : List Int) : ∀ (s l : List Int), (∀ c ∈ s, blankZ c = false ∧ c ≠ -1) → standsB s (l ++ x :: m) = standsB s l
  | [], _, _ => rfl
  | c :: r, l, hs => by
    have e := eq_join hx m c (hs c (by simp)).1 (hs c (by simp)).2 l
    rw [standsB, standsB, e]
    cases l with
    | nil =>
      have : (hd [] 0 == c) = false := by
        have := (hs c (by simp)).2
        simp [hd_nil]; omega
      rw [this]; rfl
    | cons d t =>
      rw [drop_join m, standsB_join hx m r t (fun c hc => hs c (List.mem_cons_of_mem _ hc))]
      rfl
theorem expN_join {x : Int} (hx : blankZ x = true) (m : List Int) (l : List Int) : expN (l ++ x :: m) = expN l := by
  unfold expN
  have e1 : (hd (l ++ x :: m) 0 = 101 ∨ hd (l ++ x :: m) 0 = 69) = (hd l 0 = 101 ∨ hd l 0 = 69) := by
    have a := eq_join hx m 101 (by decide) (by decide) l
    have b := eq_join hx m 69 (by decide) (by decide) l
    rw [Bool.eq_iff_iff, beq_iff_eq, beq_iff_eq] at a b
    rw [a, b]
  simp only [e1]
  cases l with
  | nil => simp [hd]
  | cons c t =>
    have a2 : signB (((c :: t) ++ x :: m).drop 1) = signB ((c :: t).drop 1) := signB_join hx m t
    have a3 : digitZ (hd ((c :: t) ++ x :: m) 1) = digitZ (hd (c :: t) 1) := digit_join hx m t
    rw [a2, a3]
    cases t with
    | nil => simp [signB, hd]
    | cons d u =>
      have a4 : digitZ (hd ((c :: d :: u) ++ x :: m) 2) = digitZ (hd (c :: d :: u) 2) := digit_join hx m u
      rw [a4]
theorem mantR_join {x : Int} (hx : blankZ x = true) (m : List Int) (l : List Int) : mantR (l ++ x :: m) = mantR l ++ x :: m := by
  unfold mantR
  rw [unsign_join hx, digitsR_join hx]
theorem fracR_join {x : Int} (hx : blankZ x = true) (m : List Int) (l : List Int) : fracR (l ++ x :: m) = fracR l ++ x :: m := by
  unfold fracR
  rw [dotB_join hx]
  cases l with
  | nil => rfl
  | cons c t =>
    split
    · exact digitsR_join hx m t
    · rfl
theorem expN_le (l : List Int) : expN l ≤ l.length := by
  unfold expN
  cases l with
  | nil => simp [hd]
  | cons c t =>
    cases t with
    | nil => simp [hd, signB, digitZ]
    | cons d u =>
      repeat' split
      all_goals simp
theorem expR_join {x : Int} (hx : blankZ x = true) (m : List Int) (l : List Int) : expR (l ++ x :: m) = expR l ++ x :: m := by
  unfold expR
  rw [expN_join hx]
  split
  · rw [List.drop_append_of_le_length (expN_le l), digitsR_join hx]
  · rfl
theorem numR_join {x : Int} (hx : blankZ x = true) (m : List Int) (l : List Int) : numR (l ++ x :: m) = numR l ++ x :: m := by
  unfold numR
  rw [mantR_join hx, fracR_join hx, expR_join hx]
theorem numW_join {x : Int} (hx : blankZ x = true) (m : List Int) (l : List Int) : numW (l ++ x :: m) = numW l := by
  unfold numW
  rw [mantR_join hx, fracR_join hx, dotB_join hx, expN_join hx]
theorem gone_join {x : Int} (m : List Int) {l r : List Int} (hr : r <:+ l) : gone (l ++ x :: m) (r ++ x :: m) = gone l r := by
  have := hr.length_le
  unfold gone
  rw [List.length_append, List.length_append, show l.length + (x :: m).length - (r.length + (x :: m).length) = l.length - r.length by omega, List.take_append_of_le_length (by omega)]

def withT (X : List Int) (r : Tok × List Int) : Tok × List Int := (r.1, r.2 ++ X)
def withO (X : List Int) (r : Option Tok × List Int) : Option Tok × List Int := (r.1, r.2 ++ X)
theorem some_with (X : List Int) (r : Tok × List Int) : someT (withT X r) = withO X (someT r) := rfl
theorem numZ_join {x : Int} (hx : blankZ x = true) (m : List Int) {l : List Int} (hb : Bare l) : numZ (l ++ x :: m) = withT (x :: m) (numZ l) := by
  have hn : Bare (numR l) := hb.suf (numR_suf l)
  unfold numZ
  rw [numR_join hx, nameB_join hx m hn, gone_join m (numR_suf l), nameT_join hx m _ hn, nameR_join hx m _ hn, numW_join hx]
  have e : (hd (numR l ++ x :: m) 0 = 37) = (hd (numR l) 0 = 37) := by
    have a := eq_join hx m 37 (by decide) (by decide) (numR l)
    rw [Bool.eq_iff_iff, beq_iff_eq, beq_iff_eq] at a
    rw [a]
  simp only [e]
  split
  · rfl
  · split
    · rename_i h
      cases hq : numR l with
      | nil => rw [hq] at h; simp [hd] at h
      | cons c t => rfl
    · rfl
theorem hashZ_join {x : Int} (hx : blankZ x = true) (m : List Int) {l : List Int} (hb : Bare l) : hashZ (l ++ x :: m) = withT (x :: m) (hashZ l) := by
  unfold hashZ
  rw [nameB_join hx m hb, nameT_join hx m _ hb, nameR_join hx m _ hb]
  rfl
theorem wordZ_join {x : Int} (hx : blankZ x = true) (m : List Int) {l : List Int} (hb : Bare l) : wordZ (l ++ x :: m) = withT (x :: m) (wordZ l) := by
  have hr : Bare (nameR l 0) := hb.suf (nameR_suf l 0)
  have e : hd (nameR l 0) 0 ≠ 40 := by
    cases hq : nameR l 0 with
    | nil => simp [hd]
    | cons c t => rw [hq] at hr; exact (hr c (by simp)).2.2.1
  have e2 : hd (nameR l 0 ++ x :: m) 0 ≠ 40 := by
    have a := eq_join hx m 40 (by decide) (by decide) (nameR l 0)
    rw [Bool.eq_iff_iff, beq_iff_eq, beq_iff_eq] at a
    exact fun h => e (a.1 h)
  unfold wordZ
  rw [nameR_join hx m _ hb, nameT_join hx m _ hb, if_neg e, if_neg e2]
  rfl
theorem one_join {x : Int} (hx : blankZ x = true) (m : List Int) {c : Int} {t : List Int} (hb : Bare (c :: t)) (hc : blankZ c = false) : oneZ ((c :: t) ++ x :: m) = withO (x :: m) (oneZ (c :: t)) := by
  have h0 : standsB [47, 42] ((c :: t) ++ x :: m) = standsB [47, 42] (c :: t) := standsB_join hx m _ _ (by decide)
  have h0' : standsB [47, 42] (c :: t) = false := by
    have := (hb c (by simp)).2.2.2.1
    simp [standsB, hd, this]
  have h1 : quoteB (c :: t) = false := by
    have a := (hb c (by simp)).1
    have b := (hb c (by simp)).2.1
    simp [quoteB, hd, a, b]
  have h1' : quoteB ((c :: t) ++ x :: m) = false := h1
  have h2 : hashB ((c :: t) ++ x :: m) = hashB (c :: t) := by
    unfold hashB
    rw [drop_join m, escB_join hx m hb.tail]
    have a : partZ (hd ((c :: t) ++ x :: m) 1) = partZ (hd (c :: t) 1) := part_join hx m t
    have b : escB ((c :: t).drop 1) = false := escB_bare hb.tail
    rw [a, b]
    rfl
  have h3 := numB_join hx m (c :: t)
  have h4 : standsB [45, 45, 62] ((c :: t) ++ x :: m) = standsB [45, 45, 62] (c :: t) := standsB_join hx m _ _ (by decide)
  have h5 : standsB [60, 33, 45, 45] ((c :: t) ++ x :: m) = standsB [60, 33, 45, 45] (c :: t) := standsB_join hx m _ _ (by decide)
  have h6 := nameB_join hx m hb
  have h7 : atB ((c :: t) ++ x :: m) = atB (c :: t) := by
    unfold atB
    rw [drop_join m, nameB_join hx m hb.tail]
    rfl
  have hbl : blankZ (hd ((c :: t) ++ x :: m) 0) = false := hc
  have hbl' : blankZ (hd (c :: t) 0) = false := hc
  have s3 : standsB [45, 45, 62] (c :: t) = true → ((c :: t) ++ x :: m).drop 3 = (c :: t).drop 3 ++ x :: m := by
    intro h
    cases t with
    | nil => simp [standsB, hd] at h
    | cons d u =>
      cases u with
      | nil => simp [standsB, hd] at h
      | cons e v => rfl
  have s4 : standsB [60, 33, 45, 45] (c :: t) = true → ((c :: t) ++ x :: m).drop 4 = (c :: t).drop 4 ++ x :: m := by
    intro h
    cases t with
    | nil => simp [standsB, hd] at h
    | cons d u =>
      cases u with
      | nil => simp [standsB, hd] at h
      | cons e v =>
        cases v with
        | nil => simp [standsB, hd] at h
        | cons f w => rfl
  unfold oneZ
  rw [h0, h0', hbl, hbl', h1, h1', h2, h3, h4, h5, h6, h7]
  simp only [Bool.false_eq_true, if_false]
  split
  · rw [drop_join m, hashZ_join hx m hb.tail]; rfl
  split
  · rw [numZ_join hx m hb]; rfl
  split
  · rename_i h; rw [s3 h]; rfl
  split
  · rename_i h; rw [s4 h]; rfl
  split
  · rw [wordZ_join hx m hb]; rfl
  split
  · rw [drop_join m, nameT_join hx m _ hb.tail, nameR_join hx m _ hb.tail]; rfl
  · rfl
theorem blanksR_join {x : Int} (m : List Int) : ∀ (l : List Int), blanksR l ≠ [] → blanksR (l ++ x :: m) = blanksR l ++ x :: m
  | [], h => absurd rfl h
  | c :: t, h => by
    rw [List.cons_append, blanksR, blanksR]
    split
    · rename_i hc
      rw [blanksR, if_pos hc] at h
      exact blanksR_join m t h
    · rfl

theorem blanksR_nil : ∀ (l : List Int), blanksR l = [] → ∀ c ∈ l, blankZ c = true
  | [], _, c, hc => by cases hc
  | d :: t, h, c, hc => by
    rw [blanksR] at h
    split at h
    · rename_i hd
      rcases List.mem_cons.1 hc with rfl | hc
      · exact hd
      · exact blanksR_nil t h c hc
    · cases h
def Ends (l : List Int) : Prop := ∀ z, l.getLast? = some z → blankZ z = false
theorem Ends.suf {l r : List Int} (h : Ends l) (hs : r <:+ l) : Ends r := by
  obtain ⟨p, rfl⟩ := hs
  intro z hz
  refine h z ?_
  rw [List.getLast?_append, hz]
  rfl
theorem one_blank {c : Int} (t : List Int) (hc : blankZ c = true) : oneZ (c :: t) = (some (plainTok 13 []), blanksR (c :: t)) := by
  have h0 : standsB [47, 42] (c :: t) = false := by
    rcases blank_cases hc with rfl | rfl | rfl <;> simp [standsB, hd]
  have hb : blankZ (hd (c :: t) 0) = true := hc
  unfold oneZ
  rw [h0, hb]
  simp
theorem toks_join {x : Int} (hx : blankZ x = true) (m : List Int) : ∀ (n : Nat) (l : List Int), l.length ≤ n → Bare l → Ends l → toks (l ++ x :: m) = toks l ++ toks (x :: m)
  | _, [], _, _, _ => rfl
  | 0, c :: t, h, _, _ => by simp at h
  | n + 1, c :: t, h, hb, he => by
    have hsuf := one_less c t
    have hsuf2 : (oneZ (c :: t)).2 <:+ c :: t := hsuf.trans (List.suffix_cons c t)
    have ih := toks_join hx m n (oneZ (c :: t)).2 (by have := hsuf.length_le; simp at h; omega) (hb.suf hsuf2) (he.suf hsuf2)
    have e : oneZ ((c :: t) ++ x :: m) = withO (x :: m) (oneZ (c :: t)) := by
      by_cases hc : blankZ c = true
      · have hne : blanksR (c :: t) ≠ [] := by
          intro h0
          have hall := blanksR_nil _ h0
          have hg : (c :: t).getLast? = some ((c :: t).getLast (by simp)) := List.getLast?_eq_some_getLast (by simp)
          have := he _ hg
          rw [hall _ (List.getLast_mem (by simp))] at this
          cases this
        rw [List.cons_append, one_blank _ hc, one_blank _ hc, ← List.cons_append, blanksR_join m _ hne]
        rfl
      · exact one_join hx m hb (by simpa using hc)
    rw [List.cons_append] at e ⊢
    rw [toks_cons, e, toks_cons c t]
    show (oneZ (c :: t)).1.toList ++ toks ((oneZ (c :: t)).2 ++ x :: m) = _
    rw [ih, List.append_assoc]
theorem blanksR_same {m : List Int} (hm : blankZ (hd m 0) = false) : blanksR m = m := by
  cases m with
  | nil => rfl
  | cons c t =>
    have : blankZ c = false := hm
    rw [blanksR, if_neg (by simp [this])]
theorem toks_blank {x : Int} (hx : blankZ x = true) {m : List Int} (hm : blankZ (hd m 0) = false) : toks (x :: m) = plainTok 13 [] :: toks m := by
  rw [toks_cons, one_blank _ hx]
  show [plainTok 13 []] ++ toks (blanksR (x :: m)) = _
  rw [blanksR, if_pos hx, blanksR_same hm]
  rfl
theorem blanksR_all : ∀ (q : List Int), (∀ c ∈ q, blankZ c = true) → blanksR q = []
  | [], _ => rfl
  | c :: t, h => by rw [blanksR, if_pos (h c (by simp)), blanksR_all t (fun d hd => h d (by simp [hd]))]
theorem toks_blanks {x : Int} {q : List Int} (h : ∀ c ∈ x :: q, blankZ c = true) : toks (x :: q) = [plainTok 13 []] := by
  rw [toks_cons, one_blank _ (h x (by simp)), blanksR_all _ h]
  rfl
theorem split_blanks : ∀ (l : List Int), ∃ p q, l = p ++ q ∧ (∀ c ∈ q, blankZ c = true) ∧ Ends p
  | [] => ⟨[], [], rfl, ⟨fun _ hc => absurd hc (by simp), fun _ hz => absurd hz (by simp)⟩⟩
  | c :: t => by
    obtain ⟨p, q, rfl, hq, hp⟩ := split_blanks t
    cases p with
    | nil =>
      by_cases hc : blankZ c = true
      · refine ⟨[], c :: q, rfl, fun d hd => ?_, fun z hz => by simp at hz⟩
        rcases List.mem_cons.1 hd with rfl | hd
        · exact hc
        · exact hq d hd
      · refine ⟨[c], q, rfl, hq, fun z hz => ?_⟩
        simp at hz
        subst hz
        simpa using hc
    | cons d u =>
      refine ⟨c :: d :: u, q, rfl, hq, fun z hz => hp z ?_⟩
      rw [List.getLast?_cons_cons] at hz
      exact hz
/-- A list whose last token is no Space doesn't end with a blank. -/
theorem ends_of {l : List Int} (hb : Bare l) (h : ∀ t, (toks l).getLast? = some t → t.kind ≠ 13) : Ends l := by
  obtain ⟨p, q, rfl, hq, hp⟩ := split_blanks l
  cases q with
  | nil => rw [List.append_nil]; exact hp
  | cons x r =>
    exfalso
    have hbp : Bare p := fun c hc => hb c (by simp [hc])
    have e := toks_join (hq x (by simp)) r p.length p (Nat.le_refl _) hbp hp
    rw [toks_blanks hq] at e
    refine h (plainTok 13 []) ?_ rfl
    rw [e]
    simp
theorem starts_of {m : List Int} (h : ∀ t, (toks m).head? = some t → t.kind ≠ 13) : blankZ (hd m 0) = false := by
  cases m with
  | nil => decide
  | cons c t =>
    by_cases hc : blankZ c = true
    · exfalso
      refine h (plainTok 13 []) ?_ rfl
      rw [toks_cons, one_blank _ hc]
      rfl
    · show blankZ c = false
      simpa using hc
theorem joined {l m : List Int} (hb : Bare l) (h1 : ∀ t, (toks l).getLast? = some t → t.kind ≠ 13) (h2 : ∀ t, (toks m).head? = some t → t.kind ≠ 13) :
    toks (l ++ 10 :: m) = toks l ++ plainTok 13 [] :: toks m := by
  rw [toks_join (by decide) m l.length l (Nat.le_refl _) hb (ends_of hb h1), toks_blank (by decide) (starts_of h2)]
end Go.Proofs.YtbfgnfcecfjlnaaDoor
namespace Go.Proofs.YtbfgnfcecfjlnaaDoor
open Go.RowKit

set_option maxRecDepth 100000 in
set_option maxHeartbeats 4000000 in
theorem decodeN_cut (n N b0 b1 b2 b3 c1 c2 c3 : Nat) (hn : 1 ≤ n) (hN : n < N) (h1 : 1 < n → c1 = b1) (h1' : n = 1 → c1 = 10) (h2 : 2 < n → c2 = b2) (h2' : n = 2 → c2 = 10) (h3 : 3 < n → c3 = b3) (h3' : n = 3 → c3 = 10) :
    Lib.decodeN N b0 c1 c2 c3 = Lib.decodeN n b0 b1 b2 b3 := by
  rcases (show n = 1 ∨ n = 2 ∨ n = 3 ∨ 3 < n by omega) with rfl | rfl | rfl | h
  · obtain rfl := h1' rfl
    simp [Lib.decodeN]
  · obtain rfl := h1 (by omega)
    obtain rfl := h2' rfl
    have a1 : 1 < N := by omega
    simp [Lib.decodeN, a1]
  · obtain rfl := h1 (by omega)
    obtain rfl := h2 (by omega)
    obtain rfl := h3' rfl
    have a1 : 1 < N := by omega
    have a2 : 2 < N := by omega
    simp [Lib.decodeN, a1, a2]
  · obtain rfl := h1 (by omega)
    obtain rfl := h2 (by omega)
    obtain rfl := h3 (by omega)
    have a1 : 1 < N := by omega
    have a2 : 2 < N := by omega
    have a3 : 3 < N := by omega
    have d1 : 1 < n := by omega
    have d2 : 2 < n := by omega
    simp [Lib.decodeN, a1, a2, a3, d1, d2, h]
set_option maxRecDepth 100000 in
theorem decodeN_width (n b0 b1 b2 b3 : Nat) (hn : 1 ≤ n) : (Lib.decodeN n b0 b1 b2 b3).2 ≤ n := by
  unfold Lib.decodeN
  repeat' split
  all_goals (simp only; omega)

def bytesL (a : ByteArray) : List Int := a.data.toList.map fun x => (x.toNat : Int)
theorem bytesL_size (a : ByteArray) : (bytesL a).length = a.size := by
  unfold bytesL
  rw [List.length_map]
  rfl
theorem bytesL_byte (a : ByteArray) : ∀ n ∈ bytesL a, 0 ≤ n ∧ n < 256 := by
  intro n hn
  obtain ⟨x, _, rfl⟩ := List.mem_map.1 hn
  have := x.toNat_lt
  omega
theorem bytesL_str (a : ByteArray) : strOfNums (bytesL a) = a := strOf a

/-- The characters from a place on. -/
def from_ (s : ByteArray) (pos : Nat) : List Int := charsFrom s (s.size - pos) pos
theorem from_step (s : ByteArray) (pos : Nat) (h : pos < s.size) : from_ s pos = ((Utf8.decode s pos).1 : Int) :: from_ s (pos + (Utf8.decode s pos).2) := by
  have hw := Lib.decode_width_pos s pos h
  unfold from_
  obtain ⟨k, hk⟩ : ∃ k, s.size - pos = k + 1 := ⟨s.size - pos - 1, by omega⟩
  rw [hk, charsFrom, if_pos h]
  congr 1
  by_cases h2 : pos + (Utf8.decode s pos).2 < s.size
  · have := charsFrom_more s (s.size - (pos + (Utf8.decode s pos).2)) (k - (s.size - (pos + (Utf8.decode s pos).2))) (pos + (Utf8.decode s pos).2) (by omega)
    rw [← this]
    congr 1
    omega
  · rw [charsFrom_end _ _ _ h2, charsFrom_end _ _ _ h2]

theorem decode_ahead (l m : List Int) (hl : ∀ n ∈ l, 0 ≤ n ∧ n < 256) (hm : ∀ n ∈ m, 0 ≤ n ∧ n < 256) (pos : Nat) (hp : pos < l.length) :
    Utf8.decode (strOfNums (l ++ 10 :: m)) pos = Utf8.decode (strOfNums l) pos := by
  have hall : ∀ n ∈ l ++ 10 :: m, 0 ≤ n ∧ n < 256 := by
    intro n hn
    rcases List.mem_append.1 hn with h | h
    · exact hl n h
    · rcases List.mem_cons.1 h with rfl | h
      · omega
      · exact hm n h
  have hlt : ∀ j, j < l.length → ((strOfNums (l ++ 10 :: m)).get! j).toNat = ((strOfNums l).get! j).toNat := by
    intro j hj
    rw [str_get hall, str_get hl, List.getD_eq_getElem?_getD, List.getElem?_append_left hj, List.getD_eq_getElem?_getD]
  have heq : ∀ j, j = l.length → ((strOfNums (l ++ 10 :: m)).get! j).toNat = 10 := by
    intro j hj
    subst hj
    rw [str_get hall, List.getD_eq_getElem?_getD, List.getElem?_append_right (Nat.le_refl _), Nat.sub_self]
    rfl
  rw [Lib.decode_at, Lib.decode_at, strOf_size, strOf_size, List.length_append, hlt pos hp]
  refine decodeN_cut _ _ _ _ _ _ _ _ _ (by omega) (by simp only [List.length_cons]; omega) ?_ ?_ ?_ ?_ ?_ ?_
  · intro h; exact hlt _ (by omega)
  · intro h; exact heq _ (by omega)
  · intro h; exact hlt _ (by omega)
  · intro h; exact heq _ (by omega)
  · intro h; exact hlt _ (by omega)
  · intro h; exact heq _ (by omega)
theorem from_ahead (l m : List Int) (hl : ∀ n ∈ l, 0 ≤ n ∧ n < 256) (hm : ∀ n ∈ m, 0 ≤ n ∧ n < 256) : ∀ (k pos : Nat), l.length - pos ≤ k → pos ≤ l.length →
    from_ (strOfNums (l ++ 10 :: m)) pos = from_ (strOfNums l) pos ++ from_ (strOfNums (l ++ 10 :: m)) l.length
  | 0, pos, h, hp => by
    have : pos = l.length := by omega
    subst this
    have e : from_ (strOfNums l) l.length = [] := charsFrom_end _ _ _ (by rw [strOf_size]; omega)
    rw [e]
    rfl
  | k + 1, pos, h, hp => by
    by_cases hlt : pos < l.length
    · have hj : (strOfNums (l ++ 10 :: m)).size = l.length + (m.length + 1) := by rw [strOf_size, List.length_append, List.length_cons]
      have hs : (strOfNums l).size = l.length := strOf_size l
      rw [from_step (strOfNums (l ++ 10 :: m)) pos (by omega), from_step (strOfNums l) pos (by omega), decode_ahead l m hl hm pos hlt]
      have hw := Lib.decode_width_pos (strOfNums l) pos (by omega)
      have hw2 : (Utf8.decode (strOfNums l) pos).2 ≤ l.length - pos := by
        rw [Lib.decode_at, hs]
        exact decodeN_width _ _ _ _ _ (by omega)
      rw [from_ahead l m hl hm k (pos + (Utf8.decode (strOfNums l) pos).2) (by omega) (by omega), List.cons_append]
    · have : pos = l.length := by omega
      subst this
      have e : from_ (strOfNums l) l.length = [] := charsFrom_end _ _ _ (by rw [strOf_size]; omega)
      rw [e]
      rfl
theorem from_line (l m : List Int) (hl : ∀ n ∈ l, 0 ≤ n ∧ n < 256) (hm : ∀ n ∈ m, 0 ≤ n ∧ n < 256) : from_ (strOfNums (l ++ 10 :: m)) l.length = 10 :: from_ (strOfNums m) 0 := by
  have hall : ∀ n ∈ l ++ 10 :: m, 0 ≤ n ∧ n < 256 := by
    intro n hn
    rcases List.mem_append.1 hn with h | h
    · exact hl n h
    · rcases List.mem_cons.1 h with rfl | h
      · omega
      · exact hm n h
  have hj : (strOfNums (l ++ 10 :: m)).size = l.length + (m.length + 1) := by rw [strOf_size, List.length_append, List.length_cons]
  have h10 : ((strOfNums (l ++ 10 :: m)).get! l.length).toNat = 10 := by
    rw [str_get hall, List.getD_eq_getElem?_getD, List.getElem?_append_right (Nat.le_refl _), Nat.sub_self]
    rfl
  have hd : Utf8.decode (strOfNums (l ++ 10 :: m)) l.length = (10, 1) := by
    rw [Lib.decode_at, h10]
    simp [Lib.decodeN]
  rw [from_step _ _ (by omega), hd]
  congr 1
  have e : l ++ 10 :: m = (l ++ [10]) ++ m := by simp
  have hl2 : ∀ n ∈ l ++ [10], 0 ≤ n ∧ n < 256 := fun n hn => hall n (by rw [e]; exact List.mem_append_left _ hn)
  have h := charsFrom_shift (l ++ [10]) m hl2 hm m.length 0
  rw [← e, List.length_append, List.length_singleton, Nat.add_zero] at h
  unfold from_
  rw [hj, strOf_size, show l.length + (m.length + 1) - (l.length + 1) = m.length by omega, Nat.sub_zero]
  exact h
theorem norm_line : ∀ (xs ys : List Int) (last : Int), last ≠ 13 → (∀ c ∈ xs, c ≠ 13) → normZ last (xs ++ 10 :: ys) = normZ last xs ++ 10 :: normZ 0 ys
  | [], ys, last, hl, _ => by
    show normZ last (10 :: ys) = 10 :: _
    rw [normZ, if_neg (by intro e; exact hl e.1), norm_zero ys 10 (by omega)]
    rfl
  | x :: r, ys, last, hl, h => by
    have hx := h x (by simp)
    rw [List.cons_append, normZ, normZ, if_neg (by intro e; exact hl e.1), if_neg (by intro e; exact hl e.1), norm_line r ys x hx (fun c hc => h c (by simp [hc]))]
    rfl
theorem line_str (a b : ByteArray) : a ++ ⟨#[10]⟩ ++ b = strOfNums (bytesL a ++ 10 :: bytesL b) := by
  have ha := str_append (bytesL a) ⟨#[10]⟩
  rw [bytesL_str] at ha
  rw [ha, str_append]
  congr 1
  show bytesL a ++ [10] ++ bytesL b = _
  simp
theorem runes_line (a b : ByteArray) (h : ∀ j (h : j < a.size), (a[j]'h).toNat ≠ 13) : runesZ (a ++ ⟨#[10]⟩ ++ b) = runesZ a ++ 10 :: runesZ b := by
  have h1 := from_ahead (bytesL a) (bytesL b) (bytesL_byte a) (bytesL_byte b) _ 0 (Nat.le_refl _) (Nat.zero_le _)
  rw [from_line (bytesL a) (bytesL b) (bytesL_byte a) (bytesL_byte b), bytesL_str, bytesL_str, ← line_str] at h1
  have e1 : chars (a ++ ⟨#[10]⟩ ++ b) = chars a ++ 10 :: chars b := h1
  unfold runesZ
  rw [e1]
  exact norm_line _ _ 0 (by omega) (char_byte a 13 (by omega) _ _ h)
theorem bare_runes (a : ByteArray) (h : ∀ j (h : j < a.size), (a[j]'h).toNat ≠ 34 ∧ (a[j]'h).toNat ≠ 39 ∧ (a[j]'h).toNat ≠ 40 ∧ (a[j]'h).toNat ≠ 47 ∧ (a[j]'h).toNat ≠ 92) : Bare (runesZ a) := by
  intro c hc
  refine ⟨?_, ?_, ?_, ?_, ?_⟩
  · exact runes_byte a 34 (by omega) (by omega) (fun j hj => (h j hj).1) c hc
  · exact runes_byte a 39 (by omega) (by omega) (fun j hj => (h j hj).2.1) c hc
  · exact runes_byte a 40 (by omega) (by omega) (fun j hj => (h j hj).2.2.1) c hc
  · exact runes_byte a 47 (by omega) (by omega) (fun j hj => (h j hj).2.2.2.1) c hc
  · exact runes_byte a 92 (by omega) (by omega) (fun j hj => (h j hj).2.2.2.2) c hc
/-- No sign of a text that TokenJoins passes by. -/
def Quiet6 (a : ByteArray) (k : Nat) : Prop := ∀ j (h : j < a.size), j < k → (a[j]'h).toNat ≠ 34 ∧ (a[j]'h).toNat ≠ 39 ∧ (a[j]'h).toNat ≠ 40 ∧ (a[j]'h).toNat ≠ 47 ∧ (a[j]'h).toNat ≠ 92 ∧ (a[j]'h).toNat ≠ 13
theorem cut_joined (a b : ByteArray) (h : Quiet6 a a.size) (h1 : ∀ t, (cutZ a).getLast? = some t → t.kind ≠ 13) (h2 : ∀ t, (cutZ b).head? = some t → t.kind ≠ 13) :
    cutZ (a ++ ⟨#[10]⟩ ++ b) = cutZ a ++ plainTok 13 [] :: cutZ b := by
  unfold cutZ
  rw [runes_line a b (fun j hj => (h j hj hj).2.2.2.2.2)]
  exact joined (bare_runes a (fun j hj => ⟨(h j hj hj).1, (h j hj hj).2.1, (h j hj hj).2.2.1, (h j hj hj).2.2.2.1, (h j hj hj).2.2.2.2.1⟩)) h1 h2
end Go.Proofs.YtbfgnfcecfjlnaaDoor
