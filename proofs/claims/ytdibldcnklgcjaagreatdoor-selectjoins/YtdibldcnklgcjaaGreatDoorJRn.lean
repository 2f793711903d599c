/- Two texts with a comma between: their tokens. Two texts with a comma between: their characters. -/
import Derived.Test.YtdibldcnklgcjaaGreatDoorPlain
import Derived.Test.YtdibldcnklgcjaaGreatDoorJoins
namespace Go.Proofs.YtdibldcnklgcjaaGreatDoor
open Go
set_option maxRecDepth 100000
set_option maxHeartbeats 1000000

/-- A text without the signs that the law bars. -/
def Cl (x : List Int) : Prop := ∀ c ∈ x, c ≠ 34 ∧ c ≠ 39 ∧ c ≠ 92 ∧ c ≠ 47 ∧ c ≠ 40 ∧ c ≠ 41 ∧ c ≠ 91 ∧ c ≠ 93 ∧ c ≠ 123 ∧ c ≠ 125 ∧ c ≠ 60 ∧ c ≠ 45
theorem Cl.suf {x y : List Int} (h : Cl x) (hs : y <:+ x) : Cl y := fun c hc => h c (hs.subset hc)
theorem Cl.tail {c : Int} {x : List Int} (h : Cl (c :: x)) : Cl x := fun d hd => h d (List.mem_cons_of_mem _ hd)
theorem hd_in {x : List Int} (q : List Int) {i : Nat} (h : i < x.length) : hd (x ++ q) i = hd x i := by
  unfold hd
  simp [List.getD, List.getElem?_append_left h]
theorem hd_at (x q : List Int) (c : Int) : hd (x ++ c :: q) x.length = c := by
  unfold hd
  simp [List.getD]
theorem hd_none (x : List Int) {i : Nat} (h : x.length ≤ i) : hd x i = -1 := by
  unfold hd
  simp [List.getD, List.getElem?_eq_none h]
theorem hd_cl {x : List Int} (_h : Cl x) (i : Nat) : hd x i = -1 ∨ (i < x.length ∧ hd x i ∈ x) := by
  by_cases hi : i < x.length
  · right
    refine ⟨hi, ?_⟩
    unfold hd
    simp [List.getD, hi]
  · exact .inl (hd_none x (by omega))
theorem esc_no {x : List Int} (h : Cl x) : escB x = false := by
  unfold escB
  have : hd x 0 ≠ 92 := by
    rcases hd_cl h 0 with e | ⟨_, e⟩
    · rw [e]; decide
    · exact (h _ e).2.2.1
  simp [this]
theorem esc_noQ {x : List Int} (h : Cl x) (b : List Int) : escB (x ++ 44 :: b) = false := by
  unfold escB
  have : hd (x ++ 44 :: b) 0 ≠ 92 := by
    cases x with
    | nil => exact show (44 : Int) ≠ 92 by decide
    | cons c t => exact (h c (by simp)).2.2.1
  simp [this]
theorem name_Q : ∀ {x : List Int} (b : List Int), Cl x → nameT (x ++ 44 :: b) 0 = nameT x 0 ∧ nameR (x ++ 44 :: b) 0 = nameR x 0 ++ 44 :: b
  | [], b, _ => by
    have e : partZ 44 = false := by decide
    have e2 : escB (44 :: b) = false := esc_noQ (x := []) (fun c hc => by cases hc) b
    simp [nameT, nameR, e, e2]
  | c :: t, b, h => by
    obtain ⟨i1, i2⟩ := name_Q b h.tail
    have e1 := esc_no h
    have e2 := esc_noQ h b
    rw [List.cons_append] at e2 ⊢
    simp only [nameT, nameR]
    by_cases hp : partZ c = true
    · simp [hp, i1, i2]
    · simp [hp, e1, e2]
theorem digits_Q : ∀ (x b : List Int), digitsR (x ++ 44 :: b) = digitsR x ++ 44 :: b
  | [], b => by simp [digitsR, show digitZ 44 = false by decide]
  | c :: t, b => by
    rw [List.cons_append]
    simp only [digitsR]
    split
    · exact digits_Q t b
    · rfl
theorem blanks_Q : ∀ (x b : List Int), blanksR (x ++ 44 :: b) = blanksR x ++ 44 :: b
  | [], b => by simp [blanksR, show blankZ 44 = false by decide]
  | c :: t, b => by
    rw [List.cons_append]
    simp only [blanksR]
    split
    · exact blanks_Q t b
    · rfl
theorem sign_Q (x b : List Int) : signB (x ++ 44 :: b) = signB x := by
  cases x with
  | nil => rfl
  | cons c t => rfl
theorem unsign_Q (x b : List Int) : unsignZ (x ++ 44 :: b) = unsignZ x ++ 44 :: b := by
  unfold unsignZ
  rw [sign_Q]
  cases x with
  | nil => rfl
  | cons c t => split <;> rfl
theorem dot_Q (x b : List Int) : dotB (x ++ 44 :: b) = dotB x := by
  match x with
  | [] => rfl
  | [c] =>
    unfold dotB
    show (c == 46 && digitZ 44) = (c == 46 && digitZ (-1))
    rfl
  | c :: d :: t => rfl
theorem exp_Q (x b : List Int) : expN (x ++ 44 :: b) = expN x := by
  match x with
  | [] => rfl
  | [c] =>
    unfold expN
    show (if c = 101 ∨ c = 69 then (if signB (44 :: b) then _ else if digitZ 44 = true then 1 else 0) else 0) = (if c = 101 ∨ c = 69 then (if signB [] then _ else if digitZ (-1) = true then 1 else 0) else 0)
    rfl
  | [c, d] =>
    unfold expN
    show (if c = 101 ∨ c = 69 then (if signB (d :: 44 :: b) then (if digitZ 44 = true then 2 else 0) else _) else 0) = (if c = 101 ∨ c = 69 then (if signB [d] then (if digitZ (-1) = true then 2 else 0) else _) else 0)
    rfl
  | c :: d :: e :: t => rfl
theorem exp_len (x : List Int) : expN x ≤ x.length := by
  unfold expN
  match x with
  | [] => decide
  | [c] =>
    show (if c = 101 ∨ c = 69 then (if signB [] then _ else if digitZ (-1) = true then 1 else 0) else 0) ≤ 1
    split
    · split
      · rename_i h
        exact absurd h (by decide)
      · split <;> omega
    · omega
  | c :: d :: t =>
    simp only [List.length_cons]
    repeat' split
    all_goals omega
theorem frac_Q (x b : List Int) : fracR (x ++ 44 :: b) = fracR x ++ 44 :: b := by
  unfold fracR
  rw [dot_Q]
  cases x with
  | nil => rfl
  | cons c t =>
    split
    · exact digits_Q t b
    · rfl
theorem expR_Q (x b : List Int) : expR (x ++ 44 :: b) = expR x ++ 44 :: b := by
  unfold expR
  rw [exp_Q]
  split
  · rw [List.drop_append_of_le_length (exp_len x)]
    exact digits_Q _ b
  · rfl
theorem num_Q (x b : List Int) : numR (x ++ 44 :: b) = numR x ++ 44 :: b ∧ numW (x ++ 44 :: b) = numW x := by
  unfold numR numW mantR
  rw [unsign_Q, digits_Q, frac_Q, expR_Q, dot_Q, exp_Q]
  exact ⟨rfl, rfl⟩
theorem word_Q {x : List Int} (h : Cl x) (b : List Int) : wordB (x ++ 44 :: b) = wordB x := by
  unfold wordB
  rw [esc_no h, esc_noQ h b]
  cases x with
  | nil => rfl
  | cons c t => rfl
theorem nameB_Q {x : List Int} (h : Cl x) (b : List Int) : nameB (x ++ 44 :: b) = nameB x := by
  unfold nameB
  have h1 : (hd x 0 == 45) = false := by
    rcases hd_cl h 0 with e | ⟨_, e⟩
    · rw [e]; rfl
    · exact beq_eq_false_iff_ne.2 (h _ e).2.2.2.2.2.2.2.2.2.2.2
  have h2 : (hd (x ++ 44 :: b) 0 == 45) = false := by
    cases x with
    | nil => rfl
    | cons c t => exact h1
  rw [h1, h2]
  simpa using word_Q h b
theorem gone_Q {x r : List Int} (hs : r <:+ x) (q : List Int) : gone (x ++ q) (r ++ q) = gone x r := by
  unfold gone
  have := hs.length_le
  rw [List.length_append, List.length_append, List.take_append_of_le_length (by omega), show x.length + q.length - (r.length + q.length) = x.length - r.length by omega]
theorem hd0_Q (x b : List Int) {k : Int} (h1 : k ≠ 44) (h2 : k ≠ -1) : (hd (x ++ 44 :: b) 0 = k) = (hd x 0 = k) := by
  cases x with
  | nil => exact propext ⟨fun h => absurd (show (44 : Int) = k from h).symm h1, fun h => absurd (show (-1 : Int) = k from h).symm h2⟩
  | cons c t => rfl
theorem drop1_Q {x : List Int} (b : List Int) (h : x ≠ []) : (x ++ 44 :: b).drop 1 = x.drop 1 ++ 44 :: b := by
  cases x with
  | nil => exact absurd rfl h
  | cons c t => rfl
theorem word_zQ {x : List Int} (h : Cl x) (b : List Int) : wordZ (x ++ 44 :: b) = ((wordZ x).1, (wordZ x).2 ++ 44 :: b) := by
  obtain ⟨h1, h2⟩ := name_Q b h
  unfold wordZ
  rw [h1, h2]
  have : hd (nameR x 0) 0 ≠ 40 := by
    have hc := h.suf (nameR_suf x 0)
    rcases hd_cl hc 0 with e | ⟨_, e⟩
    · rw [e]; decide
    · exact (hc _ e).2.2.2.2.1
  have h3 : hd (nameR x 0 ++ 44 :: b) 0 ≠ 40 := fun e => this ((hd0_Q _ b (by decide) (by decide)).mp e)
  rw [if_neg h3, if_neg this]
theorem num_zQ {x : List Int} (h : Cl x) (b : List Int) : numZ (x ++ 44 :: b) = ((numZ x).1, (numZ x).2 ++ 44 :: b) := by
  obtain ⟨h1, h2⟩ := num_Q x b
  have hc := h.suf (numR_suf x)
  obtain ⟨h3, h4⟩ := name_Q b hc
  unfold numZ
  rw [h1, h2, nameB_Q hc b, gone_Q (numR_suf x), h3, h4]
  by_cases g : nameB (numR x) = true
  · rw [if_pos g, if_pos g]
  · rw [if_neg g, if_neg g]
    have he := hd0_Q (numR x) b (k := 37) (by decide) (by decide)
    by_cases h5 : hd (numR x) 0 = 37
    · rw [if_pos h5, if_pos (he.mpr h5), drop1_Q b (fun e => by rw [e] at h5; exact absurd h5 (by decide))]
    · rw [if_neg h5, if_neg (fun e => h5 (he.mp e))]
theorem one_Q {c : Int} {t : List Int} (h : Cl (c :: t)) (b : List Int) : oneZ (c :: t ++ 44 :: b) = ((oneZ (c :: t)).1, (oneZ (c :: t)).2 ++ 44 :: b) := by
  have hc := h c (by simp)
  have ht := h.tail
  obtain ⟨n1, n2⟩ := name_Q b ht
  have e1 : standsB [47, 42] (c :: (t ++ 44 :: b)) = false := by
    unfold standsB; rw [show hd (c :: (t ++ 44 :: b)) 0 = c from rfl, beq_eq_false_iff_ne.2 hc.2.2.2.1]; rfl
  have e1' : standsB [47, 42] (c :: t) = false := by
    unfold standsB; rw [show hd (c :: t) 0 = c from rfl, beq_eq_false_iff_ne.2 hc.2.2.2.1]; rfl
  have e2 : quoteB (c :: (t ++ 44 :: b)) = false := by
    unfold quoteB; rw [show hd (c :: (t ++ 44 :: b)) 0 = c from rfl, beq_eq_false_iff_ne.2 hc.1, beq_eq_false_iff_ne.2 hc.2.1]; rfl
  have e2' : quoteB (c :: t) = false := by
    unfold quoteB; rw [show hd (c :: t) 0 = c from rfl, beq_eq_false_iff_ne.2 hc.1, beq_eq_false_iff_ne.2 hc.2.1]; rfl
  have e3 : hashB (c :: (t ++ 44 :: b)) = hashB (c :: t) := by
    unfold hashB
    rw [show (c :: (t ++ 44 :: b)).drop 1 = t ++ 44 :: b from rfl, show (c :: t).drop 1 = t from rfl, esc_noQ ht, esc_no ht]
    cases t with
    | nil => rfl
    | cons d u => rfl
  have e4 : numB (c :: (t ++ 44 :: b)) = numB (c :: t) := by
    unfold numB
    rw [show c :: (t ++ 44 :: b) = (c :: t) ++ 44 :: b from rfl, unsign_Q, dot_Q]
    cases unsignZ (c :: t) with
    | nil => rfl
    | cons d u => rfl
  have e5 : standsB [45, 45, 62] (c :: (t ++ 44 :: b)) = false := by
    unfold standsB; rw [show hd (c :: (t ++ 44 :: b)) 0 = c from rfl, beq_eq_false_iff_ne.2 hc.2.2.2.2.2.2.2.2.2.2.2]; rfl
  have e5' : standsB [45, 45, 62] (c :: t) = false := by
    unfold standsB; rw [show hd (c :: t) 0 = c from rfl, beq_eq_false_iff_ne.2 hc.2.2.2.2.2.2.2.2.2.2.2]; rfl
  have e6 : standsB [60, 33, 45, 45] (c :: (t ++ 44 :: b)) = false := by
    unfold standsB; rw [show hd (c :: (t ++ 44 :: b)) 0 = c from rfl, beq_eq_false_iff_ne.2 hc.2.2.2.2.2.2.2.2.2.2.1]; rfl
  have e6' : standsB [60, 33, 45, 45] (c :: t) = false := by
    unfold standsB; rw [show hd (c :: t) 0 = c from rfl, beq_eq_false_iff_ne.2 hc.2.2.2.2.2.2.2.2.2.2.1]; rfl
  have e7 : nameB (c :: (t ++ 44 :: b)) = nameB (c :: t) := nameB_Q h b
  have e8 : atB (c :: (t ++ 44 :: b)) = atB (c :: t) := by
    unfold atB
    rw [show (c :: (t ++ 44 :: b)).drop 1 = t ++ 44 :: b from rfl, show (c :: t).drop 1 = t from rfl, nameB_Q ht b]
    rfl
  have e9 : hashZ (t ++ 44 :: b) = ((hashZ t).1, (hashZ t).2 ++ 44 :: b) := by
    unfold hashZ
    rw [n1, n2, nameB_Q ht b]
  have e10 : numZ (c :: (t ++ 44 :: b)) = _ := num_zQ h b
  have e11 : wordZ (c :: (t ++ 44 :: b)) = _ := word_zQ h b
  have e12 : blanksR (c :: (t ++ 44 :: b)) = blanksR (c :: t) ++ 44 :: b := blanks_Q (c :: t) b
  rw [List.cons_append]
  unfold oneZ
  rw [e1, e1', e2, e2', e3, e4, e5, e5', e6, e6', e7, e8, e10, e11, e12, show (c :: (t ++ 44 :: b)).drop 1 = t ++ 44 :: b from rfl, show (c :: t).drop 1 = t from rfl, e9, n1, n2, show hd (c :: (t ++ 44 :: b)) 0 = c from rfl, show hd (c :: t) 0 = c from rfl]
  simp only [Bool.false_eq_true, if_false]
  unfold someT
  by_cases g1 : blankZ c = true
  · rw [if_pos g1, if_pos g1]
  · rw [if_neg g1, if_neg g1]
    by_cases g2 : hashB (c :: t) = true
    · rw [if_pos g2, if_pos g2]
    · rw [if_neg g2, if_neg g2]
      by_cases g3 : numB (c :: t) = true
      · rw [if_pos g3, if_pos g3]
      · rw [if_neg g3, if_neg g3]
        by_cases g4 : nameB (c :: t) = true
        · rw [if_pos g4, if_pos g4]
        · rw [if_neg g4, if_neg g4]
          by_cases g5 : atB (c :: t) = true
          · rw [if_pos g5, if_pos g5]
          · rw [if_neg g5, if_neg g5]
theorem one_comma (b : List Int) : oneZ (44 :: b) = (some (plainTok 18 []), b) := rfl
theorem toks_Q (b : List Int) : ∀ (n : Nat) (x : List Int), x.length ≤ n → Cl x → toks (x ++ 44 :: b) = toks x ++ plainTok 18 [] :: toks b
  | _, [], _, _ => by
    rw [List.nil_append, toks_cons, one_comma]
    rfl
  | 0, _ :: _, h, _ => absurd h (by simp)
  | n + 1, c :: t, h, hx => by
    have hs := one_less c t
    have hl := hs.length_le
    have := toks_Q b n (oneZ (c :: t)).2 (by simp at h; omega) (hx.suf (suf_cons hs))
    rw [toks_cons c t, List.cons_append, toks_cons, show oneZ (c :: (t ++ 44 :: b)) = _ from one_Q hx b]
    simp only []
    rw [this, List.append_assoc]
/-- A token that opens nothing. -/
def Flat (t : Tok) : Prop := t.kind ≠ 2 ∧ t.kind ≠ 19 ∧ t.kind ≠ 21 ∧ t.kind ≠ 23
theorem flat_single {c : Int} (h : c ≠ 40 ∧ c ≠ 91 ∧ c ≠ 123) : Flat (singleZ c) := by
  unfold singleZ signZ Flat plainTok
  repeat' split
  all_goals first
    | exact absurd (by assumption) h.1
    | exact absurd (by assumption) h.2.1
    | exact absurd (by assumption) h.2.2
    | exact ⟨by simp, by simp, by simp, by simp⟩
    | omega
theorem flat_word {x : List Int} (h : Cl x) : Flat (wordZ x).1 := by
  have : hd (nameR x 0) 0 ≠ 40 := by
    have hc := h.suf (nameR_suf x 0)
    rcases hd_cl hc 0 with e | ⟨_, e⟩
    · rw [e]; decide
    · exact (hc _ e).2.2.2.2.1
  unfold wordZ
  rw [if_neg this]
  exact ⟨by simp [plainTok], by simp [plainTok], by simp [plainTok], by simp [plainTok]⟩
theorem flat_num (x : List Int) : Flat (numZ x).1 := by
  unfold numZ
  repeat' split
  all_goals exact ⟨by simp [mkTok], by simp [mkTok], by simp [mkTok], by simp [mkTok]⟩
theorem flat_one {c : Int} {t : List Int} (h : Cl (c :: t)) : ∀ k ∈ (oneZ (c :: t)).1, Flat k := by
  have hc := h c (by simp)
  intro k hk
  have e1' : standsB [47, 42] (c :: t) = false := by
    unfold standsB; rw [show hd (c :: t) 0 = c from rfl, beq_eq_false_iff_ne.2 hc.2.2.2.1]; rfl
  have e2' : quoteB (c :: t) = false := by
    unfold quoteB; rw [show hd (c :: t) 0 = c from rfl, beq_eq_false_iff_ne.2 hc.1, beq_eq_false_iff_ne.2 hc.2.1]; rfl
  unfold oneZ someT at hk
  rw [e1', e2'] at hk
  simp only [Bool.false_eq_true, if_false] at hk
  repeat' split at hk
  all_goals
    have hk := (Option.some.inj hk).symm
    subst hk
  · exact ⟨by decide, by decide, by decide, by decide⟩
  · exact ⟨by simp [hashZ, mkTok], by simp [hashZ, mkTok], by simp [hashZ, mkTok], by simp [hashZ, mkTok]⟩
  · exact flat_num _
  · exact ⟨by decide, by decide, by decide, by decide⟩
  · exact ⟨by decide, by decide, by decide, by decide⟩
  · exact flat_word h
  · exact ⟨by simp [plainTok], by simp [plainTok], by simp [plainTok], by simp [plainTok]⟩
  · exact flat_single ⟨hc.2.2.2.2.1, hc.2.2.2.2.2.2.1, hc.2.2.2.2.2.2.2.2.1⟩
theorem flat_toks : ∀ (n : Nat) (x : List Int), x.length ≤ n → Cl x → ∀ k ∈ toks x, Flat k
  | _, [], _, _, k, hk => by cases hk
  | 0, _ :: _, h, _, _, _ => absurd h (by simp)
  | n + 1, c :: t, h, hx, k, hk => by
    have hs := one_less c t
    have hl := hs.length_le
    rw [toks_cons] at hk
    rcases List.mem_append.1 hk with h1 | h1
    · exact flat_one hx k (Option.mem_toList.1 h1)
    · exact flat_toks n _ (by simp at h; omega) (hx.suf (suf_cons hs)) k h1
end Go.Proofs.YtdibldcnklgcjaaGreatDoor
namespace Go.Proofs.YtdibldcnklgcjaaGreatDoor
open Go.RowKit
set_option maxRecDepth 100000

set_option maxHeartbeats 4000000 in
theorem decodeN_cut {n N b0 b1 b2 b3 c1 c2 c3 : Nat} (_hn : 1 ≤ n) (hN : n < N) (h1 : (1 < n ∧ c1 = b1) ∨ (n = 1 ∧ c1 = 44)) (h2 : (2 < n ∧ c2 = b2) ∨ (n = 2 ∧ c2 = 44) ∨ n = 1) (h3 : (3 < n ∧ c3 = b3) ∨ (n = 3 ∧ c3 = 44) ∨ n ≤ 2) :
    Lib.decodeN N b0 c1 c2 c3 = Lib.decodeN n b0 b1 b2 b3 := by
  have a1 : (1 < N ∧ c1 / 64 = 2) = (1 < n ∧ b1 / 64 = 2) := propext (by
    rcases h1 with ⟨h, rfl⟩ | ⟨h, rfl⟩
    · exact ⟨fun e => ⟨h, e.2⟩, fun e => ⟨by omega, e.2⟩⟩
    · exact ⟨fun e => absurd e.2 (by decide), fun e => absurd e.1 (by omega)⟩)
  have d1 : 1 < n → c1 = b1 := fun h => by omega
  have d2 : 2 < n → c2 = b2 := fun h => by omega
  have d3 : 3 < n → c3 = b3 := fun h => by omega
  unfold Lib.decodeN
  simp only [a1]
  by_cases g0 : b0 < 128
  · rw [if_pos g0, if_pos g0]
  rw [if_neg g0, if_neg g0]
  by_cases g1 : 1 < n ∧ b1 / 64 = 2
  · obtain rfl := d1 g1.1
    by_cases k1 : b0 / 32 = 6 ∧ 1 < n ∧ c1 / 64 = 2
    · rw [if_pos k1, if_pos k1]
    rw [if_neg k1, if_neg k1]
    by_cases g2 : 2 < n ∧ b2 / 64 = 2
    · obtain rfl := d2 g2.1
      have q2 : (2 < N ∧ c2 / 64 = 2) = (2 < n ∧ c2 / 64 = 2) := propext ⟨fun _ => g2, fun e => ⟨by omega, e.2⟩⟩
      simp only [q2]
      by_cases k2 : b0 / 16 = 14 ∧ (1 < n ∧ c1 / 64 = 2) ∧ 2 < n ∧ c2 / 64 = 2
      · rw [if_pos k2, if_pos k2]
      rw [if_neg k2, if_neg k2]
      by_cases g3 : 3 < n ∧ b3 / 64 = 2
      · obtain rfl := d3 g3.1
        have q3 : (3 < N ∧ c3 / 64 = 2) = (3 < n ∧ c3 / 64 = 2) := propext ⟨fun _ => g3, fun e => ⟨by omega, e.2⟩⟩
        simp only [q3]
      · have q3 : ¬ (3 < N ∧ c3 / 64 = 2) := by
          intro e
          rcases h3 with ⟨h, rfl⟩ | ⟨h, rfl⟩ | h
          · exact g3 ⟨h, e.2⟩
          · exact absurd e.2 (by decide)
          · omega
        rw [if_neg (fun e => q3 e.2.2.2), if_neg (fun e => g3 e.2.2.2)]
    · have q2 : ¬ (2 < N ∧ c2 / 64 = 2) := by
        intro e
        rcases h2 with ⟨h, rfl⟩ | ⟨h, rfl⟩ | h
        · exact g2 ⟨h, e.2⟩
        · exact absurd e.2 (by decide)
        · omega
      rw [if_neg (fun e => q2 e.2.2), if_neg (fun e => q2 e.2.2.1), if_neg (fun e => g2 e.2.2), if_neg (fun e => g2 e.2.2.1)]
  · rw [if_neg (fun e => g1 e.2), if_neg (fun e => g1 e.2.1), if_neg (fun e => g1 e.2.1), if_neg (fun e => g1 e.2), if_neg (fun e => g1 e.2.1), if_neg (fun e => g1 e.2.1)]
theorem decodeN_wide (n b0 b1 b2 b3 : Nat) (hn : 1 ≤ n) : (Lib.decodeN n b0 b1 b2 b3).2 ≤ n := by
  unfold Lib.decodeN
  repeat' split
  all_goals simp only
  all_goals omega
theorem decodeN_one (n b0 b1 b2 b3 : Nat) : 1 ≤ (Lib.decodeN n b0 b1 b2 b3).2 := by
  unfold Lib.decodeN
  repeat' split
  all_goals simp only
  all_goals omega
theorem decodeN_rune (n b0 b1 b2 b3 : Nat) : 128 ≤ (Lib.decodeN n b0 b1 b2 b3).1 ∨ (Lib.decodeN n b0 b1 b2 b3).1 = b0 := by
  unfold Lib.decodeN
  repeat' split
  all_goals first
    | exact .inr rfl
    | exact .inl (by simp only; omega)
def Byt (l : List Int) : Prop := ∀ n ∈ l, 0 ≤ n ∧ n < 256
theorem Byt.join {l m : List Int} (hl : Byt l) (hm : Byt m) : Byt (l ++ 44 :: m) := by
  intro n hn
  rcases List.mem_append.1 hn with h | h
  · exact hl n h
  · rcases List.mem_cons.1 h with rfl | h
    · decide
    · exact hm n h
theorem getD_front (l q : List Int) (i : Nat) (h : i < l.length) : (l ++ q).getD i 0 = l.getD i 0 := by
  simp [List.getD, List.getElem?_append_left h]
theorem getD_comma (l m : List Int) : (l ++ 44 :: m).getD l.length 0 = 44 := by
  simp [List.getD]
theorem decode_front {l m : List Int} (hl : Byt l) (hm : Byt m) {pos : Nat} (hp : pos < l.length) : Utf8.decode (strOfNums (l ++ 44 :: m)) pos = Utf8.decode (strOfNums l) pos := by
  have hj := hl.join hm
  rw [Lib.decode_at, Lib.decode_at, strOf_size, strOf_size, str_get hj, str_get hj, str_get hj, str_get hj, str_get hl, str_get hl, str_get hl, str_get hl, getD_front l _ pos hp]
  have hc : ∀ i, i = l.length → ((l ++ 44 :: m).getD i 0).toNat = 44 := fun i h => by rw [h, getD_comma]; rfl
  refine decodeN_cut (by omega) (by rw [List.length_append, List.length_cons]; omega) ?_ ?_ ?_
  · by_cases h : pos + 1 < l.length
    · exact .inl ⟨by omega, by rw [getD_front l _ _ h]⟩
    · exact .inr ⟨by omega, hc _ (by omega)⟩
  · by_cases h : pos + 2 < l.length
    · exact .inl ⟨by omega, by rw [getD_front l _ _ h]⟩
    · by_cases h' : pos + 2 = l.length
      · exact .inr (.inl ⟨by omega, hc _ h'⟩)
      · exact .inr (.inr (by omega))
  · by_cases h : pos + 3 < l.length
    · exact .inl ⟨by omega, by rw [getD_front l _ _ h]⟩
    · by_cases h' : pos + 3 = l.length
      · exact .inr (.inl ⟨by omega, hc _ h'⟩)
      · exact .inr (.inr (by omega))
theorem chars_front {l m : List Int} (hl : Byt l) (hm : Byt m) (K : Nat) (hK : m.length + 1 ≤ K) : ∀ (f pos : Nat), pos ≤ l.length → l.length ≤ pos + f → charsFrom (strOfNums (l ++ 44 :: m)) (f + K) pos = charsFrom (strOfNums l) f pos ++ charsFrom (strOfNums (l ++ 44 :: m)) K l.length
  | 0, pos, h1, h2 => by
    have : pos = l.length := by omega
    subst this
    rw [Nat.zero_add, charsFrom]
    rfl
  | f + 1, pos, h1, h2 => by
    have hs : (strOfNums l).size = l.length := strOf_size l
    have hs2 : (strOfNums (l ++ 44 :: m)).size = l.length + (m.length + 1) := by rw [strOf_size, List.length_append, List.length_cons]
    by_cases hp : pos < l.length
    · have hw : (Utf8.decode (strOfNums l) pos).2 ≤ l.length - pos := by
        rw [Lib.decode_at, hs]
        exact decodeN_wide _ _ _ _ _ (by omega)
      have hw1 : 1 ≤ (Utf8.decode (strOfNums l) pos).2 := by
        rw [Lib.decode_at]
        exact decodeN_one _ _ _ _ _
      rw [show f + 1 + K = (f + K) + 1 by omega, charsFrom, charsFrom, if_pos (by omega), if_pos (by omega), decode_front hl hm hp, chars_front hl hm K hK f _ (by omega) (by omega), List.cons_append]
    · have : pos = l.length := by omega
      subst this
      rw [charsFrom_end (strOfNums l) _ _ (by omega), List.nil_append, Nat.add_comm, charsFrom_more _ _ _ _ (by omega)]
theorem chars_join {l m : List Int} (hl : Byt l) (hm : Byt m) : chars (strOfNums (l ++ 44 :: m)) = chars (strOfNums l) ++ 44 :: chars (strOfNums m) := by
  have h := chars_front hl hm (m.length + 1) (Nat.le_refl _) l.length 0 (by omega) (by omega)
  have hc : Byt (44 :: m) := (show Byt [] from fun n hn => by cases hn).join hm
  have h2 : charsFrom (strOfNums (l ++ 44 :: m)) (m.length + 1) l.length = _ := charsFrom_shift l (44 :: m) hl hc (m.length + 1) 0
  have h3 := charsFrom_shift [44] m (fun n hn => by simp at hn; subst hn; decide) hm m.length 0
  have hd : Utf8.decode (strOfNums (44 :: m)) 0 = (44, 1) := by
    rw [Lib.decode_at, str_get hc]
    rfl
  unfold chars
  rw [strOf_size, strOf_size, strOf_size, List.length_append, List.length_cons, h]
  rw [h2, charsFrom, if_pos (by rw [strOf_size]; simp), hd]
  rw [show ([44] ++ m : List Int) = 44 :: m from rfl, show ([44] : List Int).length + 0 = 1 from rfl] at h3
  show _ ++ ((44 : Nat) : Int) :: charsFrom _ _ (0 + 1) = _
  rw [show 0 + 1 = 1 from rfl, h3]
  rfl
theorem chars_in {l : List Int} (hl : Byt l) : ∀ (f pos : Nat), ∀ c ∈ charsFrom (strOfNums l) f pos, 128 ≤ c ∨ c ∈ l
  | 0, _, c, h => by cases h
  | f + 1, pos, c, h => by
    rw [charsFrom] at h
    split at h
    · rename_i hp
      rw [strOf_size] at hp
      rcases List.mem_cons.1 h with rfl | h
      · rw [Lib.decode_at, str_get hl]
        have hm : l.getD pos 0 ∈ l := by simp [List.getD, hp]
        have hb := hl _ hm
        rcases decodeN_rune ((strOfNums l).size - pos) (l.getD pos 0).toNat ((strOfNums l).get! (pos + 1)).toNat ((strOfNums l).get! (pos + 2)).toNat ((strOfNums l).get! (pos + 3)).toNat with g | g
        · left; omega
        · right
          rw [g, Int.toNat_of_nonneg hb.1]
          exact hm
      · exact chars_in hl f _ c h
    · cases h
theorem norm_map : ∀ (cs : List Int) (last : Int), last ≠ 13 → (∀ c ∈ cs, c ≠ 13) → normZ last cs = cs.map settledZ
  | [], _, _, _ => rfl
  | c :: r, last, hl, h => by
    rw [normZ, if_neg (fun e => hl e.1), norm_map r c (h c (by simp)) (fun d hd => h d (List.mem_cons_of_mem _ hd))]
    rfl
/-- What the law bars, byte by byte. -/
def Bars (l : List Int) : Prop := Cl l ∧ ∀ c ∈ l, c ≠ 13
theorem no13 {l : List Int} (hl : Byt l) (h : Bars l) : ∀ c ∈ chars (strOfNums l), c ≠ 13 := fun c hc => by
  rcases chars_in hl _ _ c hc with g | g
  · omega
  · exact h.2 c g
theorem runes_cl {l : List Int} (hl : Byt l) (h : Bars l) : Cl (runesZ (strOfNums l)) := by
  unfold runesZ
  rw [norm_map _ _ (by decide) (no13 hl h)]
  intro c hc
  obtain ⟨d, hd, rfl⟩ := List.mem_map.1 hc
  have : 128 ≤ settledZ d ∨ settledZ d = 10 ∨ settledZ d ∈ l := by
    rcases chars_in hl _ _ d hd with g | g
    · unfold settledZ
      repeat' split
      all_goals omega
    · unfold settledZ
      repeat' split
      · exact .inr (.inl rfl)
      · exact .inl (by decide)
      · exact .inr (.inr g)
  rcases this with g | g | g
  · refine ⟨?_, ?_, ?_, ?_, ?_, ?_, ?_, ?_, ?_, ?_, ?_, ?_⟩ <;> omega
  · rw [g]; decide
  · exact h.1 _ g
theorem runes_join {l m : List Int} (hl : Byt l) (hm : Byt m) (h1 : Bars l) (h2 : Bars m) : runesZ (strOfNums (l ++ 44 :: m)) = runesZ (strOfNums l) ++ 44 :: runesZ (strOfNums m) := by
  unfold runesZ
  rw [norm_map _ _ (by decide) (no13 hl h1), norm_map _ _ (by decide) (no13 hm h2), chars_join hl hm, norm_map, List.map_append, List.map_cons]
  · rfl
  · decide
  · intro c hc
    rcases List.mem_append.1 hc with h | h
    · exact no13 hl h1 c h
    · rcases List.mem_cons.1 h with rfl | h
      · decide
      · exact no13 hm h2 c h
end Go.Proofs.YtdibldcnklgcjaaGreatDoor
