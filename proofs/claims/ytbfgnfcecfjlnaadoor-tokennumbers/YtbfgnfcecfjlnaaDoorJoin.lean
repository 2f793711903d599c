/- The tokens of two lists of characters with a blank between, the first without quotes, (, slash and backslash: those of the one, a Space, those of the other. -/
import Derived.Test.YtbfgnfcecfjlnaaDoorPlain
namespace Go.Proofs.YtbfgnfcecfjlnaaDoor

def Bare (l : List Int) : Prop := ∀ c ∈ l, c ≠ 34 ∧ c ≠ 39 ∧ c ≠ 40 ∧ c ≠ 47 ∧ c ≠ 92
theorem Bare.tail {c : Int} {t : List Int} (h : Bare (c :: t)) : Bare t := fun d hd => h d (List.mem_cons_of_mem _ hd)
theorem Bare.suf {l m : List Int} (h : Bare l) (hs : m <:+ l) : Bare m := fun d hd => h d (hs.subset hd)
theorem Bare.drop {l : List Int} (h : Bare l) (k : Nat) : Bare (l.drop k) := h.suf (suf_drop l k)
theorem blank_cases {x : Int} (h : blankZ x = true) : x = 32 ∨ x = 9 ∨ x = 10 := by
  simpa [blankZ, or_assoc] using h
theorem hd_cons (c : Int) (t : List Int) : hd (c :: t) 0 = c := rfl
theorem hd_succ (c : Int) (t : List Int) (i : Nat) : hd (c :: t) (i + 1) = hd t i := rfl
theorem hd_nil (i : Nat) : hd [] i = -1 := by simp [hd]


theorem hd_join {x : Int} (m : List Int) (l : List Int) : hd (l ++ x :: m) 0 = hd l 0 ∨ (hd (l ++ x :: m) 0 = x ∧ hd l 0 = -1) := by
  cases l with
  | nil => right; exact ⟨rfl, rfl⟩
  | cons c t => left; rfl
/-- A test that no blank, and not the end, meets. -/
theorem test_join {x : Int} (hx : blankZ x = true) (m : List Int) (f : Int → Bool) (h32 : f 32 = false) (h9 : f 9 = false) (h10 : f 10 = false) (he : f (-1) = false) (l : List Int) : f (hd (l ++ x :: m) 0) = f (hd l 0) := by
  rcases hd_join m l with e | ⟨e1, e2⟩
  · rw [e]
  · rw [e1, e2, he]
    rcases blank_cases hx with rfl | rfl | rfl
    · exact h32
    · exact h9
    · exact h10
theorem start_join {x : Int} (hx : blankZ x = true) (m : List Int) (l : List Int) : startZ (hd (l ++ x :: m) 0) = startZ (hd l 0) := test_join hx m startZ (by decide) (by decide) (by decide) (by decide) l
theorem part_join {x : Int} (hx : blankZ x = true) (m : List Int) (l : List Int) : partZ (hd (l ++ x :: m) 0) = partZ (hd l 0) := test_join hx m partZ (by decide) (by decide) (by decide) (by decide) l
theorem digit_join {x : Int} (hx : blankZ x = true) (m : List Int) (l : List Int) : digitZ (hd (l ++ x :: m) 0) = digitZ (hd l 0) := test_join hx m digitZ (by decide) (by decide) (by decide) (by decide) l
theorem eq_join {x : Int} (hx : blankZ x = true) (m : List Int) (k : Int) (hk : blankZ k = false) (h1 : k ≠ -1) (l : List Int) : (hd (l ++ x :: m) 0 == k) = (hd l 0 == k) := by
  refine test_join hx m (fun c => c == k) ?_ ?_ ?_ ?_ l
  all_goals simp [blankZ] at hk; simp; omega
theorem drop_join {x : Int} (m : List Int) (c : Int) (t : List Int) : ((c :: t) ++ x :: m).drop 1 = t ++ x :: m := rfl
theorem escB_join {x : Int} (hx : blankZ x = true) (m : List Int) {l : List Int} (hb : Bare l) : escB (l ++ x :: m) = false := by
  cases l with
  | nil =>
    rcases blank_cases hx with rfl | rfl | rfl <;> simp [escB, hd]
  | cons c t =>
    have := (hb c (by simp)).2.2.2.2
    simp [escB, hd, this]
theorem escB_bare {l : List Int} (hb : Bare l) : escB l = false := by
  cases l with
  | nil => rfl
  | cons c t =>
    have := (hb c (by simp)).2.2.2.2
    simp [escB, hd, this]
theorem wordB_join {x : Int} (hx : blankZ x = true) (m : List Int) {l : List Int} (hb : Bare l) : wordB (l ++ x :: m) = wordB l := by
  unfold wordB
  rw [start_join hx, escB_join hx m hb, escB_bare hb]
theorem nameB_join {x : Int} (hx : blankZ x = true) (m : List Int) {l : List Int} (hb : Bare l) : nameB (l ++ x :: m) = nameB l := by
  unfold nameB
  have e := eq_join hx m 45 (by decide) (by decide) l
  rw [e]
  cases l with
  | nil => simp only [hd_nil]; exact wordB_join hx m hb
  | cons c t =>
    have e2 := eq_join hx m 45 (by decide) (by decide) t
    rw [drop_join m, wordB_join hx m hb.tail, wordB_join hx m hb]
    show (if _ then (hd (t ++ x :: m) 0 == 45) || _ else _) = _
    rw [e2]
    rfl
theorem signB_join {x : Int} (hx : blankZ x = true) (m : List Int) (l : List Int) : signB (l ++ x :: m) = signB l := by
  unfold signB
  rw [eq_join hx m 43 (by decide) (by decide) l, eq_join hx m 45 (by decide) (by decide) l]
theorem dotB_join {x : Int} (hx : blankZ x = true) (m : List Int) (l : List Int) : dotB (l ++ x :: m) = dotB l := by
  unfold dotB
  rw [eq_join hx m 46 (by decide) (by decide) l]
  cases l with
  | nil => rfl
  | cons c t =>
    have := digit_join hx m t
    show (_ && digitZ (hd (t ++ x :: m) 0)) = _
    rw [this]
    rfl
theorem unsign_join {x : Int} (hx : blankZ x = true) (m : List Int) (l : List Int) : unsignZ (l ++ x :: m) = unsignZ l ++ x :: m := by
  unfold unsignZ
  rw [signB_join hx]
  cases l with
  | nil => rfl
  | cons c t => split <;> rfl
theorem numB_join {x : Int} (hx : blankZ x = true) (m : List Int) (l : List Int) : numB (l ++ x :: m) = numB l := by
  unfold numB
  rw [unsign_join hx, digit_join hx, dotB_join hx]
theorem digitsR_join {x : Int} (hx : blankZ x = true) (m : List Int) : ∀ (l : List Int), digitsR (l ++ x :: m) = digitsR l ++ x :: m
  | [] => by
    rcases blank_cases hx with rfl | rfl | rfl <;> simp [digitsR, digitZ]
  | c :: t => by
    rw [List.cons_append, digitsR, digitsR, digitsR_join hx m t]
    split <;> rfl
theorem nameT_join {x : Int} (hx : blankZ x = true) (m : List Int) : ∀ (l : List Int), Bare l → nameT (l ++ x :: m) 0 = nameT l 0
  | [], _ => by
    have h1 : partZ x = false := by rcases blank_cases hx with rfl | rfl | rfl <;> decide
    have h2 : escB (x :: m) = false := escB_join hx m (l := []) (fun c hc => by cases hc)
    show nameT (x :: m) 0 = _
    simp [nameT, h1, h2]
  | c :: t, hb => by
    have h2 := escB_join hx m hb
    have h3 := escB_bare hb
    rw [List.cons_append] at h2 ⊢
    rw [nameT, nameT, h2, h3, nameT_join hx m t hb.tail]
    simp
theorem nameR_join {x : Int} (hx : blankZ x = true) (m : List Int) : ∀ (l : List Int), Bare l → nameR (l ++ x :: m) 0 = nameR l 0 ++ x :: m
  | [], _ => by
    have h1 : partZ x = false := by rcases blank_cases hx with rfl | rfl | rfl <;> decide
    have h2 : escB (x :: m) = false := escB_join hx m (l := []) (fun c hc => by cases hc)
    show nameR (x :: m) 0 = _
    simp [nameR, h1, h2]
  | c :: t, hb => by
    have h2 := escB_join hx m hb
    have h3 := escB_bare hb
    rw [List.cons_append] at h2 ⊢
    rw [nameR, nameR, h2, h3, nameR_join hx m t hb.tail]
    split <;> simp
theorem standsB_join {x : Int} (hx : blankZ x = true) (m : List Int) : ∀ (s l : List Int), (∀ c ∈ s, blankZ c = false ∧ c ≠ -1) → standsB s (l ++ x :: m) = standsB s l
  | [], _, _ => rfl
  | c :: r, l, hs => by
    have e := eq_join hx m c (hs c (by simp)).1 (hs c (by simp)).2 l
    rw [standsB, standsB, e]
    cases l with
    | nil =>
      have : (hd [] 0 == c) = false := by
        have := (hs c (by simp)).2
        simp [hd_nil]; omega
      rw [this]; rfl
    | cons d t =>
      rw [drop_join m, standsB_join hx m r t (fun c hc => hs c (List.mem_cons_of_mem _ hc))]
      rfl
theorem expN_join {x : Int} (hx : blankZ x = true) (m : List Int) (l : List Int) : expN (l ++ x :: m) = expN l := by
  unfold expN
  have e1 : (hd (l ++ x :: m) 0 = 101 ∨ hd (l ++ x :: m) 0 = 69) = (hd l 0 = 101 ∨ hd l 0 = 69) := by
    have a := eq_join hx m 101 (by decide) (by decide) l
    have b := eq_join hx m 69 (by decide) (by decide) l
    rw [Bool.eq_iff_iff, beq_iff_eq, beq_iff_eq] at a b
    rw [a, b]
  simp only [e1]
  cases l with
  | nil => simp [hd]
  | cons c t =>
    have a2 : signB (((c :: t) ++ x :: m).drop 1) = signB ((c :: t).drop 1) := signB_join hx m t
    have a3 : digitZ (hd ((c :: t) ++ x :: m) 1) = digitZ (hd (c :: t) 1) := digit_join hx m t
    rw [a2, a3]
    cases t with
    | nil => simp [signB, hd]
    | cons d u =>
      have a4 : digitZ (hd ((c :: d :: u) ++ x :: m) 2) = digitZ (hd (c :: d :: u) 2) := digit_join hx m u
      rw [a4]
theorem mantR_join {x : Int} (hx : blankZ x = true) (m : List Int) (l : List Int) : mantR (l ++ x :: m) = mantR l ++ x :: m := by
  unfold mantR
  rw [unsign_join hx, digitsR_join hx]
theorem fracR_join {x : Int} (hx : blankZ x = true) (m : List Int) (l : List Int) : fracR (l ++ x :: m) = fracR l ++ x :: m := by
  unfold fracR
  rw [dotB_join hx]
  cases l with
  | nil => rfl
  | cons c t =>
    split
    · exact digitsR_join hx m t
    · rfl
theorem expN_le (l : List Int) : expN l ≤ l.length := by
  unfold expN
  cases l with
  | nil => simp [hd]
  | cons c t =>
    cases t with
    | nil => simp [hd, signB, digitZ]
    | cons d u =>
      repeat' split
      all_goals simp
theorem expR_join {x : Int} (hx : blankZ x = true) (m : List Int) (l : List Int) : expR (l ++ x :: m) = expR l ++ x :: m := by
  unfold expR
  rw [expN_join hx]
  split
  · rw [List.drop_append_of_le_length (expN_le l), digitsR_join hx]
  · rfl
theorem numR_join {x : Int} (hx : blankZ x = true) (m : List Int) (l : List Int) : numR (l ++ x :: m) = numR l ++ x :: m := by
  unfold numR
  rw [mantR_join hx, fracR_join hx, expR_join hx]
theorem numW_join {x : Int} (hx : blankZ x = true) (m : List Int) (l : List Int) : numW (l ++ x :: m) = numW l := by
  unfold numW
  rw [mantR_join hx, fracR_join hx, dotB_join hx, expN_join hx]
theorem gone_join {x : Int} (m : List Int) {l r : List Int} (hr : r <:+ l) : gone (l ++ x :: m) (r ++ x :: m) = gone l r := by
  have := hr.length_le
  unfold gone
  rw [List.length_append, List.length_append, show l.length + (x :: m).length - (r.length + (x :: m).length) = l.length - r.length by omega, List.take_append_of_le_length (by omega)]

def withT (X : List Int) (r : Tok × List Int) : Tok × List Int := (r.1, r.2 ++ X)
def withO (X : List Int) (r : Option Tok × List Int) : Option Tok × List Int := (r.1, r.2 ++ X)
theorem some_with (X : List Int) (r : Tok × List Int) : someT (withT X r) = withO X (someT r) := rfl
theorem numZ_join {x : Int} (hx : blankZ x = true) (m : List Int) {l : List Int} (hb : Bare l) : numZ (l ++ x :: m) = withT (x :: m) (numZ l) := by
  have hn : Bare (numR l) := hb.suf (numR_suf l)
  unfold numZ
  rw [numR_join hx, nameB_join hx m hn, gone_join m (numR_suf l), nameT_join hx m _ hn, nameR_join hx m _ hn, numW_join hx]
  have e : (hd (numR l ++ x :: m) 0 = 37) = (hd (numR l) 0 = 37) := by
    have a := eq_join hx m 37 (by decide) (by decide) (numR l)
    rw [Bool.eq_iff_iff, beq_iff_eq, beq_iff_eq] at a
    rw [a]
  simp only [e]
  split
  · rfl
  · split
    · rename_i h
      cases hq : numR l with
      | nil => rw [hq] at h; simp [hd] at h
      | cons c t => rfl
    · rfl
theorem hashZ_join {x : Int} (hx : blankZ x = true) (m : List Int) {l : List Int} (hb : Bare l) : hashZ (l ++ x :: m) = withT (x :: m) (hashZ l) := by
  unfold hashZ
  rw [nameB_join hx m hb, nameT_join hx m _ hb, nameR_join hx m _ hb]
  rfl
theorem wordZ_join {x : Int} (hx : blankZ x = true) (m : List Int) {l : List Int} (hb : Bare l) : wordZ (l ++ x :: m) = withT (x :: m) (wordZ l) := by
  have hr : Bare (nameR l 0) := hb.suf (nameR_suf l 0)
  have e : hd (nameR l 0) 0 ≠ 40 := by
    cases hq : nameR l 0 with
    | nil => simp [hd]
    | cons c t => rw [hq] at hr; exact (hr c (by simp)).2.2.1
  have e2 : hd (nameR l 0 ++ x :: m) 0 ≠ 40 := by
    have a := eq_join hx m 40 (by decide) (by decide) (nameR l 0)
    rw [Bool.eq_iff_iff, beq_iff_eq, beq_iff_eq] at a
    exact fun h => e (a.1 h)
  unfold wordZ
  rw [nameR_join hx m _ hb, nameT_join hx m _ hb, if_neg e, if_neg e2]
  rfl
theorem one_join {x : Int} (hx : blankZ x = true) (m : List Int) {c : Int} {t : List Int} (hb : Bare (c :: t)) (hc : blankZ c = false) : oneZ ((c :: t) ++ x :: m) = withO (x :: m) (oneZ (c :: t)) := by
  have h0 : standsB [47, 42] ((c :: t) ++ x :: m) = standsB [47, 42] (c :: t) := standsB_join hx m _ _ (by decide)
  have h0' : standsB [47, 42] (c :: t) = false := by
    have := (hb c (by simp)).2.2.2.1
    simp [standsB, hd, this]
  have h1 : quoteB (c :: t) = false := by
    have a := (hb c (by simp)).1
    have b := (hb c (by simp)).2.1
    simp [quoteB, hd, a, b]
  have h1' : quoteB ((c :: t) ++ x :: m) = false := h1
  have h2 : hashB ((c :: t) ++ x :: m) = hashB (c :: t) := by
    unfold hashB
    rw [drop_join m, escB_join hx m hb.tail]
    have a : partZ (hd ((c :: t) ++ x :: m) 1) = partZ (hd (c :: t) 1) := part_join hx m t
    have b : escB ((c :: t).drop 1) = false := escB_bare hb.tail
    rw [a, b]
    rfl
  have h3 := numB_join hx m (c :: t)
  have h4 : standsB [45, 45, 62] ((c :: t) ++ x :: m) = standsB [45, 45, 62] (c :: t) := standsB_join hx m _ _ (by decide)
  have h5 : standsB [60, 33, 45, 45] ((c :: t) ++ x :: m) = standsB [60, 33, 45, 45] (c :: t) := standsB_join hx m _ _ (by decide)
  have h6 := nameB_join hx m hb
  have h7 : atB ((c :: t) ++ x :: m) = atB (c :: t) := by
    unfold atB
    rw [drop_join m, nameB_join hx m hb.tail]
    rfl
  have hbl : blankZ (hd ((c :: t) ++ x :: m) 0) = false := hc
  have hbl' : blankZ (hd (c :: t) 0) = false := hc
  have s3 : standsB [45, 45, 62] (c :: t) = true → ((c :: t) ++ x :: m).drop 3 = (c :: t).drop 3 ++ x :: m := by
    intro h
    cases t with
    | nil => simp [standsB, hd] at h
    | cons d u =>
      cases u with
      | nil => simp [standsB, hd] at h
      | cons e v => rfl
  have s4 : standsB [60, 33, 45, 45] (c :: t) = true → ((c :: t) ++ x :: m).drop 4 = (c :: t).drop 4 ++ x :: m := by
    intro h
    cases t with
    | nil => simp [standsB, hd] at h
    | cons d u =>
      cases u with
      | nil => simp [standsB, hd] at h
      | cons e v =>
        cases v with
        | nil => simp [standsB, hd] at h
        | cons f w => rfl
  unfold oneZ
  rw [h0, h0', hbl, hbl', h1, h1', h2, h3, h4, h5, h6, h7]
  simp only [Bool.false_eq_true, if_false]
  split
  · rw [drop_join m, hashZ_join hx m hb.tail]; rfl
  split
  · rw [numZ_join hx m hb]; rfl
  split
  · rename_i h; rw [s3 h]; rfl
  split
  · rename_i h; rw [s4 h]; rfl
  split
  · rw [wordZ_join hx m hb]; rfl
  split
  · rw [drop_join m, nameT_join hx m _ hb.tail, nameR_join hx m _ hb.tail]; rfl
  · rfl
theorem blanksR_join {x : Int} (m : List Int) : ∀ (l : List Int), blanksR l ≠ [] → blanksR (l ++ x :: m) = blanksR l ++ x :: m
  | [], h => absurd rfl h
  | c :: t, h => by
    rw [List.cons_append, blanksR, blanksR]
    split
    · rename_i hc
      rw [blanksR, if_pos hc] at h
      exact blanksR_join m t h
    · rfl

theorem blanksR_nil : ∀ (l : List Int), blanksR l = [] → ∀ c ∈ l, blankZ c = true
  | [], _, c, hc => by cases hc
  | d :: t, h, c, hc => by
    rw [blanksR] at h
    split at h
    · rename_i hd
      rcases List.mem_cons.1 hc with rfl | hc
      · exact hd
      · exact blanksR_nil t h c hc
    · cases h
def Ends (l : List Int) : Prop := ∀ z, l.getLast? = some z → blankZ z = false
theorem Ends.suf {l r : List Int} (h : Ends l) (hs : r <:+ l) : Ends r := by
  obtain ⟨p, rfl⟩ := hs
  intro z hz
  refine h z ?_
  rw [List.getLast?_append, hz]
  rfl
theorem one_blank {c : Int} (t : List Int) (hc : blankZ c = true) : oneZ (c :: t) = (some (plainTok 13 []), blanksR (c :: t)) := by
  have h0 : standsB [47, 42] (c :: t) = false := by
    rcases blank_cases hc with rfl | rfl | rfl <;> simp [standsB, hd]
  have hb : blankZ (hd (c :: t) 0) = true := hc
  unfold oneZ
  rw [h0, hb]
  simp
theorem toks_join {x : Int} (hx : blankZ x = true) (m : List Int) : ∀ (n : Nat) (l : List Int), l.length ≤ n → Bare l → Ends l → toks (l ++ x :: m) = toks l ++ toks (x :: m)
  | _, [], _, _, _ => rfl
  | 0, c :: t, h, _, _ => by simp at h
  | n + 1, c :: t, h, hb, he => by
    have hsuf := one_less c t
    have hsuf2 : (oneZ (c :: t)).2 <:+ c :: t := hsuf.trans (List.suffix_cons c t)
    have ih := toks_join hx m n (oneZ (c :: t)).2 (by have := hsuf.length_le; simp at h; omega) (hb.suf hsuf2) (he.suf hsuf2)
    have e : oneZ ((c :: t) ++ x :: m) = withO (x :: m) (oneZ (c :: t)) := by
      by_cases hc : blankZ c = true
      · have hne : blanksR (c :: t) ≠ [] := by
          intro h0
          have hall := blanksR_nil _ h0
          have hg : (c :: t).getLast? = some ((c :: t).getLast (by simp)) := List.getLast?_eq_some_getLast (by simp)
          have := he _ hg
          rw [hall _ (List.getLast_mem (by simp))] at this
          cases this
        rw [List.cons_append, one_blank _ hc, one_blank _ hc, ← List.cons_append, blanksR_join m _ hne]
        rfl
      · exact one_join hx m hb (by simpa using hc)
    rw [List.cons_append] at e ⊢
    rw [toks_cons, e, toks_cons c t]
    show (oneZ (c :: t)).1.toList ++ toks ((oneZ (c :: t)).2 ++ x :: m) = _
    rw [ih, List.append_assoc]
theorem blanksR_same {m : List Int} (hm : blankZ (hd m 0) = false) : blanksR m = m := by
  cases m with
  | nil => rfl
  | cons c t =>
    have : blankZ c = false := hm
    rw [blanksR, if_neg (by simp [this])]
theorem toks_blank {x : Int} (hx : blankZ x = true) {m : List Int} (hm : blankZ (hd m 0) = false) : toks (x :: m) = plainTok 13 [] :: toks m := by
  rw [toks_cons, one_blank _ hx]
  show [plainTok 13 []] ++ toks (blanksR (x :: m)) = _
  rw [blanksR, if_pos hx, blanksR_same hm]
  rfl
theorem blanksR_all : ∀ (q : List Int), (∀ c ∈ q, blankZ c = true) → blanksR q = []
  | [], _ => rfl
  | c :: t, h => by rw [blanksR, if_pos (h c (by simp)), blanksR_all t (fun d hd => h d (by simp [hd]))]
theorem toks_blanks {x : Int} {q : List Int} (h : ∀ c ∈ x :: q, blankZ c = true) : toks (x :: q) = [plainTok 13 []] := by
  rw [toks_cons, one_blank _ (h x (by simp)), blanksR_all _ h]
  rfl
theorem split_blanks : ∀ (l : List Int), ∃ p q, l = p ++ q ∧ (∀ c ∈ q, blankZ c = true) ∧ Ends p
  | [] => ⟨[], [], rfl, ⟨fun _ hc => absurd hc (by simp), fun _ hz => absurd hz (by simp)⟩⟩
  | c :: t => by
    obtain ⟨p, q, rfl, hq, hp⟩ := split_blanks t
    cases p with
    | nil =>
      by_cases hc : blankZ c = true
      · refine ⟨[], c :: q, rfl, fun d hd => ?_, fun z hz => by simp at hz⟩
        rcases List.mem_cons.1 hd with rfl | hd
        · exact hc
        · exact hq d hd
      · refine ⟨[c], q, rfl, hq, fun z hz => ?_⟩
        simp at hz
        subst hz
        simpa using hc
    | cons d u =>
      refine ⟨c :: d :: u, q, rfl, hq, fun z hz => hp z ?_⟩
      rw [List.getLast?_cons_cons] at hz
      exact hz
/-- A list whose last token is no Space doesn't end with a blank. -/
theorem ends_of {l : List Int} (hb : Bare l) (h : ∀ t, (toks l).getLast? = some t → t.kind ≠ 13) : Ends l := by
  obtain ⟨p, q, rfl, hq, hp⟩ := split_blanks l
  cases q with
  | nil => rw [List.append_nil]; exact hp
  | cons x r =>
    exfalso
    have hbp : Bare p := fun c hc => hb c (by simp [hc])
    have e := toks_join (hq x (by simp)) r p.length p (Nat.le_refl _) hbp hp
    rw [toks_blanks hq] at e
    refine h (plainTok 13 []) ?_ rfl
    rw [e]
    simp
theorem starts_of {m : List Int} (h : ∀ t, (toks m).head? = some t → t.kind ≠ 13) : blankZ (hd m 0) = false := by
  cases m with
  | nil => decide
  | cons c t =>
    by_cases hc : blankZ c = true
    · exfalso
      refine h (plainTok 13 []) ?_ rfl
      rw [toks_cons, one_blank _ hc]
      rfl
    · show blankZ c = false
      simpa using hc
theorem joined {l m : List Int} (hb : Bare l) (h1 : ∀ t, (toks l).getLast? = some t → t.kind ≠ 13) (h2 : ∀ t, (toks m).head? = some t → t.kind ≠ 13) :
    toks (l ++ 10 :: m) = toks l ++ plainTok 13 [] :: toks m := by
  rw [toks_join (by decide) m l.length l (Nat.le_refl _) hb (ends_of hb h1), toks_blank (by decide) (starts_of h2)]
end Go.Proofs.YtbfgnfcecfjlnaaDoor
