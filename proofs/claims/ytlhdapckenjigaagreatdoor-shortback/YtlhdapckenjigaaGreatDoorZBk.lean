/- What a value was read as is read as itself. -/
import Derived.Test.YtlhdapckenjigaaGreatDoorZBh
namespace Go.Proofs.YtlhdapckenjigaaGreatDoor.Z
open Go.RowKit
open Go.Proofs.YtlhdapckenjigaaGreatDoor.L (T5 V VsAt t5Cells vCells cell_of_heap hid_mk)
set_option maxRecDepth 100000

/-- What is said of a value that was read. -/
theorem parse_hit {name s : ByteArray} {vs : List V} (h : parseO name vs = some s) : ∃ x, ¬ P.plc name < 0 ∧ oneO vs = some x ∧ frmO x.tok 0 (P.prts (P.prc name).f) = some s ∧ ∃ f ∈ P.prts (P.prc name).f, askO (asksA f) x.tok = some s := by
  unfold parseO at h
  split at h
  · cases h
  · rename_i hp
    split at h
    · cases h
    · rename_i x hx
      have h0 : x.kids.length = 0 := by
        rcases Nat.eq_zero_or_pos x.kids.length with h0 | h0
        · exact h0
        · exfalso
          obtain ⟨f, hf, hq⟩ := List.exists_of_findSome?_eq_some h
          unfold partO at hq
          rw [if_pos h0] at hq
          cases hq
      rw [h0] at h
      obtain ⟨f, hf, hq⟩ := List.exists_of_findSome?_eq_some h
      unfold partO at hq
      rw [if_neg (by decide)] at hq
      exact ⟨x, hp, hx, h, f, hf, hq⟩
theorem parse_one {name : ByteArray} {t : T5} (hp : ¬ P.plc name < 0) (hk : t.k ≠ 13) : parseO name [V.mk t []] = frmO t 0 (P.prts (P.prc name).f) := by
  unfold parseO
  rw [if_neg hp, one_of (x := V.mk t []) hk]
  rfl
/-- Where every form that is met tells the same. -/
theorem frm_all {t : T5} {s : ByteArray} : ∀ {L : List ByteArray}, (∃ f ∈ L, askO (asksA f) t = some s) → (∀ A r, askO A t = some r → r = s) → frmO t 0 L = some s
  | [], h, _ => by obtain ⟨f, hf, _⟩ := h; cases hf
  | g :: L, h, ha => by
    rw [frm_cons]
    have e : partO g t 0 = askO (asksA g) t := by unfold partO; rw [if_neg (by decide)]
    rw [e]
    cases hg : askO (asksA g) t with
    | some r => simp only; rw [ha _ r hg]
    | none =>
      simp only
      refine frm_all ?_ ha
      obtain ⟨f, hf, hq⟩ := h
      rcases List.mem_cons.1 hf with rfl | hf
      · rw [hg] at hq; cases hq
      · exact ⟨f, hf, hq⟩
theorem frm_same {t u : T5} (h : ∀ A, askO A t = askO A u) (L : List ByteArray) : frmO t 0 L = frmO u 0 L := by
  unfold frmO
  congr 1
  funext f
  unfold partO
  rw [if_neg (by decide), if_neg (by decide), h]
/-- A number that is written is one again. -/
theorem sign_numb (n : Int) : W.Numb (W.signD n) := by
  unfold W.signD
  split
  · exact ⟨_, W.dec_dig' _, W.dec_ne _, .inr rfl⟩
  · exact ⟨_, W.dec_dig' _, W.dec_ne _, .inl rfl⟩
theorem sign_asc (n : Int) : Asc (W.signD n) := fun x hx => by
  obtain ⟨ds, hd, _, h⟩ := sign_numb n
  rcases h with h | h
  · rw [h] at hx; have := hd x hx; omega
  · rw [h] at hx
    rcases List.mem_cons.1 hx with rfl | hx
    · omega
    · have := hd x hx; omega
theorem sign_len (n : Int) : (W.signD n).length ≤ 21 := by
  have := W.it_size n
  unfold W.itS at this
  rwa [W.strOf_size] at this
theorem int_back (n : Int) (h0 : -1000000 ≤ n) (h1 : n ≤ 1000000) : W.intV (W.negB (W.itS n)) (W.bytesL (W.bodyS (W.itS n))) = (n, true) := by
  have hb := bytesL_nums (sign_asc n).byte
  unfold W.itS
  by_cases hn : n < 0
  · have e : W.signD n = 45 :: W.decU (-n).toNat := by unfold W.signD; rw [if_pos hn]
    rw [e] at hb ⊢
    have hsz : (strOfNums (45 :: W.decU (-n).toNat)).size = (W.decU (-n).toNat).length + 1 := by rw [W.strOf_size, List.length_cons]
    have g0 : (strOfNums (45 :: W.decU (-n).toNat)).get! 0 = 45 := rfl
    have e1 : W.negB (strOfNums (45 :: W.decU (-n).toNat)) = true := by
      unfold W.negB
      rw [g0, hsz]
      simp
    have e2 : W.sgnB (strOfNums (45 :: W.decU (-n).toNat)) = true := by
      unfold W.sgnB
      rw [g0, hsz]
      simp
    have e3 : W.bodyS (strOfNums (45 :: W.decU (-n).toNat)) = strOfNums (W.decU (-n).toNat) := by
      unfold W.bodyS
      rw [e2, if_pos rfl]
      apply ByteArray.ext
      simp only [ByteArray.data_extract]
      apply Array.ext'
      simp [strOfNums]
      apply List.take_of_length_le
      simp [ByteArray.size]
    rw [e1, e3, bytesL_nums (fun x hx => by have := W.dec_dig' _ x hx; omega)]
    unfold W.intV
    rw [if_pos ⟨W.dec_ne _, (W.digB_iff _).2 (W.dec_dig' _)⟩, W.dec_sat _ (by omega)]
    have hs : (if (1000000 : Int) < (((-n).toNat : Nat) : Int) then (1000000 : Int) else (((-n).toNat : Nat) : Int)) = -n := by
      rw [if_neg (by omega)]
      omega
    rw [hs]
    show (- -n, true) = (n, true)
    rw [Int.neg_neg]
  · have e : W.signD n = W.decU n.toNat := by unfold W.signD; rw [if_neg hn]
    rw [e] at hb ⊢
    have hne := W.dec_ne n.toNat
    have hdg := W.dec_dig' n.toNat
    have hst : ∀ (l : List Int), l ≠ [] → W.Dig l → W.negB (strOfNums l) = false ∧ W.sgnB (strOfNums l) = false := by
      intro l hl hd
      cases l with
      | nil => exact absurd rfl hl
      | cons c r =>
        have hc := hd c (by simp)
        have g0 : ((strOfNums (c :: r)).get! 0).toNat = c.toNat := by
          show (UInt8.ofNat c.toNat).toNat = _
          rw [UInt8.toNat_ofNat']
          omega
        unfold W.negB W.sgnB
        rw [g0]
        constructor
        · have : (c.toNat == 45) = false := beq_eq_false_iff_ne.2 (by omega)
          rw [this]; simp
        · have a : (c.toNat == 45) = false := beq_eq_false_iff_ne.2 (by omega)
          have b : (c.toNat == 43) = false := beq_eq_false_iff_ne.2 (by omega)
          rw [a, b]; simp
    obtain ⟨e1, e2⟩ := hst _ hne hdg
    have e3 : W.bodyS (strOfNums (W.decU n.toNat)) = strOfNums (W.decU n.toNat) := by
      unfold W.bodyS
      rw [e2]
      rfl
    rw [e1, e3, hb]
    unfold W.intV
    rw [if_pos ⟨hne, (W.digB_iff _).2 hdg⟩, W.dec_sat _ (by omega)]
    have hs : (if (1000000 : Int) < ((n.toNat : Nat) : Int) then (1000000 : Int) else ((n.toNat : Nat) : Int)) = n := by
      rw [if_neg (by omega)]
      omega
    rw [hs]
    rfl
def numT (k n : Int) (u : ByteArray) : T5 := ⟨k, W.itS n, u, true, false⟩
theorem intP_num (k n : Int) (u : ByteArray) (hk : k = 10 ∨ k = 11 ∨ k = 12) (h0 : -1000000 ≤ n) (h1 : n ≤ 1000000) : intP (numT k n u) = (n, true) := by
  show (if (k = 10 ∨ k = 11 ∨ k = 12) ∧ true = true then _ else _) = _
  rw [if_pos ⟨hk, rfl⟩]
  exact int_back n h0 h1
/-- Tokens of numbers that were told. -/
theorem num_toks (n : Int) : toks (W.signD n ++ [112, 120]) = [mkTok 12 (W.signD n) [112, 120] true false] ∧ toks (W.signD n ++ [37]) = [mkTok 11 (W.signD n) [] true false] ∧ toks (W.signD n) = [mkTok 10 (W.signD n) [] true false] :=
  ⟨W.toks_dim (sign_numb n) ⟨by decide, by decide, by decide⟩ (by decide) (by decide) (by decide), W.toks_pc (sign_numb n), W.toks_num (sign_numb n)⟩
theorem it_px (n : Int) : W.itS n ++ pxS = strOfNums (W.signD n ++ [112, 120]) := by rw [W.nums_two]; rfl
theorem it_pc (n : Int) : W.itS n ++ pcS = strOfNums (W.signD n ++ [37]) := by rw [W.nums_two]; rfl
theorem it_no (n : Int) : W.itS n ++ noS = strOfNums (W.signD n) := by
  have : noS = strOfNums [] := rfl
  rw [this]
  unfold W.itS
  rw [← W.nums_two, List.append_nil]
theorem asc_app {a b : List Int} (h1 : Asc a) (h2 : Asc b) : Asc (a ++ b) := fun x hx => by
  rcases List.mem_append.1 hx with h | h
  · exact h1 x h
  · exact h2 x h
theorem asc_px : Asc [112, 120] := fun x hx => by simp at hx; omega
theorem asc_pc : Asc [37] := fun x hx => by simp at hx; omega
theorem asc_nil : Asc [] := fun x hx => by cases hx
theorem strT_sign (n : Int) : strT (W.signD n) = W.itS n := strT_asc (sign_asc n)
theorem it_small (n : Int) : (strT (W.signD n)).size ≤ 1000 := by rw [strT_sign]; have := W.it_size n; omega
def Fits.kind : Fits → Int
  | .len => 12
  | .pct => 11
  | .int => 10
theorem unit_vals (f : Fits) (n : Int) : valsS (W.itS n ++ f.unit) = [V.mk (numT f.kind n (match f with | .len => pxS | _ => noS)) []] ∧ okS (W.itS n ++ f.unit) = true ∧ (W.itS n ++ f.unit) ≠ ⟨#[]⟩ := by
  obtain ⟨t1, t2, t3⟩ := num_toks n
  have hl := sign_len n
  have hne : (W.signD n) ≠ [] := by
    obtain ⟨ds, _, h1, h2⟩ := sign_numb n
    rcases h2 with h2 | h2
    · rw [h2]; exact h1
    · rw [h2]; simp
  have hz : ∀ l : List Int, l ≠ [] → strOfNums l ≠ ⟨#[]⟩ := fun l h e => by
    have := congrArg ByteArray.size e
    rw [W.strOf_size] at this
    exact h (List.length_eq_zero_iff.1 this)
  cases f
  · show valsS (W.itS n ++ pxS) = _ ∧ okS (W.itS n ++ pxS) = true ∧ (W.itS n ++ pxS) ≠ _
    rw [it_px]
    refine ⟨?_, ok_one (asc_app (sign_asc n) asc_px) t1 rfl (by rw [List.length_append]; simp; omega) (it_small n) (show (strT [112, 120]).size ≤ 1000 by decide), hz _ (by simp)⟩
    rw [vals_one (asc_app (sign_asc n) asc_px) t1 rfl]
    show [V.mk ⟨12, strT (W.signD n), strT [112, 120], true, false⟩ []] = _
    rw [strT_sign]
    rfl
  · show valsS (W.itS n ++ pcS) = _ ∧ okS (W.itS n ++ pcS) = true ∧ (W.itS n ++ pcS) ≠ _
    rw [it_pc]
    refine ⟨?_, ok_one (asc_app (sign_asc n) asc_pc) t2 rfl (by rw [List.length_append]; simp; omega) (it_small n) (show (strT []).size ≤ 1000 by decide), hz _ (by simp)⟩
    rw [vals_one (asc_app (sign_asc n) asc_pc) t2 rfl]
    show [V.mk ⟨11, strT (W.signD n), strT [], true, false⟩ []] = _
    rw [strT_sign]
    rfl
  · show valsS (W.itS n ++ noS) = _ ∧ okS (W.itS n ++ noS) = true ∧ (W.itS n ++ noS) ≠ _
    rw [it_no]
    refine ⟨?_, ok_one (sign_asc n) t3 rfl (by omega) (it_small n) (show (strT []).size ≤ 1000 by decide), hz _ hne⟩
    rw [vals_one (sign_asc n) t3 rfl]
    show [V.mk ⟨10, strT (W.signD n), strT [], true, false⟩ []] = _
    rw [strT_sign]
    rfl
theorem whole_out {g : Fits} {up : Bool} {t : T5} {s : ByteArray} (h : wholeO g up t = some s) : (intP t).2 = true ∧ g.ok t (intP t).1 = true ∧ ¬ (up = true ∧ (intP t).1 < 0) ∧ s = W.itS (intP t).1 ++ g.unit := by
  unfold wholeO at h
  split at h
  · cases h
  · rename_i hn
    cases h
    refine ⟨?_, ?_, fun h => hn (.inr (.inr h)), rfl⟩
    · cases e : (intP t).2 with
      | true => rfl
      | false => exact absurd (.inl e) hn
    · cases e : g.ok t (intP t).1 with
      | true => rfl
      | false => exact absurd (.inr (.inl e)) hn
theorem whole_in {g : Fits} {up : Bool} {t : T5} (h1 : (intP t).2 = true) (h2 : g.ok t (intP t).1 = true) (h3 : ¬ (up = true ∧ (intP t).1 < 0)) : wholeO g up t = some (W.itS (intP t).1 ++ g.unit) := by
  unfold wholeO
  rw [if_neg]
  rintro (h | h | h)
  · rw [h1] at h; cases h
  · rw [h2] at h; cases h
  · exact h3 h
theorem fold_px : ((foldS pxS).toList == [112, 120]) = true := by kernel_rfl
def uOf : Fits → ByteArray
  | .len => pxS
  | _ => noS
/-- Tokens of a number that was told: which forms they meet. -/
theorem num_ok (g g' : Fits) (n : Int) (h : ¬ (g = .int ∧ g' = .len)) : g'.ok (numT g.kind n (uOf g)) n = true → g' = g := by
  cases g <;> cases g' <;> simp_all [Fits.ok, numT, Fits.kind, uOf]
theorem num_ok_self (g : Fits) (n : Int) : g.ok (numT g.kind n (uOf g)) n = true := by
  cases g
  · show ((12 == 12 && (foldS pxS).toList == [112, 120]) || _) = true
    rw [fold_px]; rfl
  · rfl
  · rfl
theorem ask_kind {t : T5} (h1 : t.k ≠ 1) (h4 : t.k ≠ 4) {A : Ask} {r : ByteArray} (h : askO A t = some r) : ∃ g up, A = .num g up := by
  cases A with
  | num g up => exact ⟨g, up, rfl⟩
  | col =>
    have h : colorO t = some r := h
    unfold colorO at h
    rw [if_neg h1, if_neg h4] at h
    cases h
  | word f =>
    have h : wordO f t = some r := h
    unfold wordO at h
    rw [if_neg (fun e => h1 e.1)] at h
    cases h
theorem ask_kind_none {t : T5} (h1 : t.k ≠ 1) (h4 : t.k ≠ 4) : askO .col t = none ∧ ∀ f, askO (.word f) t = none := by
  constructor
  · show colorO t = none
    unfold colorO
    rw [if_neg h1, if_neg h4]
  · intro f
    show wordO f t = none
    unfold wordO
    rw [if_neg (fun e => h1 e.1)]
def wrdB (p : P.Pr) (f : ByteArray) : Bool := match asksA f with
  | .word _ => okS f && decide (f.size ≠ 0) && (match valsS f with
    | [V.mk t []] => decide (t.k ≠ 13) && decide (frmO t 0 (P.prts p.f) = some f)
    | _ => false)
  | _ => true
theorem T_words : P.T.all (fun p => (P.prts p.f).all (wrdB p)) = true := by kernel_rfl
/-- What was read is read as itself. -/
theorem back {name s : ByteArray} {vs : List V} (h : parseO name vs = some s) : okS s = true ∧ parseO name (valsS s) = some s ∧ s ≠ ⟨#[]⟩ := by
  obtain ⟨x, hp, hx, hfr, f, hf, hq⟩ := parse_hit h
  cases hA : asksA f with
  | num g up =>
    rw [hA] at hq
    have hq : wholeO g up x.tok = some s := hq
    obtain ⟨o1, o2, o3, rfl⟩ := whole_out hq
    have hbd := intP_bd x.tok
    obtain ⟨hv, hok, hne⟩ := unit_vals g (intP x.tok).1
    refine ⟨hok, ?_, hne⟩
    have hk13 : (numT g.kind (intP x.tok).1 (uOf g)).k ≠ 13 := by show g.kind ≠ 13; cases g <;> decide
    have hk1 : (numT g.kind (intP x.tok).1 (uOf g)).k ≠ 1 := by show g.kind ≠ 1; cases g <;> decide
    have hk4 : (numT g.kind (intP x.tok).1 (uOf g)).k ≠ 4 := by show g.kind ≠ 4; cases g <;> decide
    have hgk : g.kind = 10 ∨ g.kind = 11 ∨ g.kind = 12 := by cases g <;> simp [Fits.kind]
    have hi := intP_num g.kind (intP x.tok).1 (uOf g) hgk hbd.1 hbd.2
    have hv : valsS (W.itS (intP x.tok).1 ++ g.unit) = [V.mk (numT g.kind (intP x.tok).1 (uOf g)) []] := by rw [hv]; cases g <;> rfl
    rw [hv, parse_one hp hk13]
    by_cases hg : g = .int
    · subst hg
      have hk10 : x.tok.k = 10 := by
        have : (x.tok.k == 10) = true := o2
        simpa using this
      have hsame : ∀ A, askO A (numT 10 (intP x.tok).1 noS) = askO A x.tok := by
        intro A
        obtain ⟨c1, c2⟩ := ask_kind_none (t := numT 10 (intP x.tok).1 noS) (by show (10 : Int) ≠ 1; decide) (by show (10 : Int) ≠ 4; decide)
        obtain ⟨c3, c4⟩ := ask_kind_none (t := x.tok) (by rw [hk10]; decide) (by rw [hk10]; decide)
        cases A with
        | col => rw [c1, c3]
        | word f => rw [c2, c4]
        | num g' up' =>
          show wholeO g' up' _ = wholeO g' up' _
          have hi : intP (numT 10 (intP x.tok).1 noS) = ((intP x.tok).1, true) := hi
          have hok' : g'.ok (numT 10 (intP x.tok).1 noS) (intP x.tok).1 = g'.ok x.tok (intP x.tok).1 := by
            cases g' <;> simp [Fits.ok, numT, hk10]
          unfold wholeO
          rw [hi, o1]
          simp only [hok']
      show frmO (numT 10 (intP x.tok).1 noS) 0 _ = _
      rw [frm_same hsame]
      exact hfr
    · refine frm_all ⟨f, hf, ?_⟩ ?_
      · rw [hA]
        show wholeO g up _ = _
        rw [whole_in (by rw [hi]) (by rw [hi]; exact num_ok_self g _) (by rw [hi]; exact o3), hi]
      · intro A r hr
        obtain ⟨g', up', rfl⟩ := ask_kind hk1 hk4 hr
        obtain ⟨_, p2, _, rfl⟩ := whole_out (show wholeO g' up' _ = some r from hr)
        rw [hi] at p2 ⊢
        have := num_ok g g' _ (fun e => hg e.1) p2
        rw [this]
  | col =>
    rw [hA] at hq
    have hq : colorO x.tok = some s := hq
    obtain ⟨ds, rfl, hl, hx6⟩ := color_form hq
    have hne : ds ≠ [] := by intro h; rw [h] at hl; cases hl
    refine ⟨ok_hx hx6 hne (by omega), ?_, ?_⟩
    · rw [vals_hx hx6 hne, parse_one hp (show (4 : Int) ≠ 13 by decide)]
      have hc := color_six hx6 hl (strOfNums []) false (nameB ds)
      refine frm_all ⟨f, hf, by rw [hA]; exact hc⟩ ?_
      intro A r hr
      cases A with
      | num g up =>
        obtain ⟨p1, _⟩ := whole_out (show wholeO g up _ = some r from hr)
        have : intP (⟨4, strOfNums ds, strOfNums [], false, nameB ds⟩ : T5) = (0, false) := by unfold intP; rw [if_neg (by rintro ⟨_, h⟩; cases h)]
        rw [this] at p1
        cases p1
      | col =>
        have hr : colorO _ = some r := hr
        rw [hc] at hr
        cases hr
        rfl
      | word g =>
        have hr : wordO g _ = some r := hr
        unfold wordO at hr
        rw [if_neg (by rintro ⟨h, _⟩; exact absurd (show (4 : Int) = 1 from h) (by decide))] at hr
        cases hr
    · intro e
      have := congrArg ByteArray.size e
      rw [W.strOf_size] at this
      simp at this
      cases this
  | word g =>
    have eg := word_is hA
    subst eg
    rw [hA] at hq
    have hs : s = g := by
      have hq : wordO g x.tok = some s := hq
      unfold wordO at hq
      split at hq
      · cases hq; rfl
      · cases hq
    subst hs
    rcases P.fnd_cases name with ⟨e, _⟩ | ⟨k, p, _, _, e, hpk⟩
    · rw [e] at hp; exact absurd (by decide) hp
    · rw [e] at hf
      have h1 := List.all_eq_true.1 T_words p (List.mem_of_getElem? hpk)
      have h2 := List.all_eq_true.1 h1 s hf
      unfold wrdB at h2
      rw [hA] at h2
      simp only [Bool.and_eq_true] at h2
      obtain ⟨⟨h3, h4⟩, h5⟩ := h2
      refine ⟨h3, ?_, fun e0 => by rw [e0] at h4; exact absurd (of_decide_eq_true h4) (by decide)⟩
      split at h5
      · rename_i t ht
        rw [Bool.and_eq_true] at h5
        rw [ht, parse_one hp (of_decide_eq_true h5.1), e]
        exact of_decide_eq_true h5.2
      · cases h5
end Go.Proofs.YtlhdapckenjigaaGreatDoor.Z
