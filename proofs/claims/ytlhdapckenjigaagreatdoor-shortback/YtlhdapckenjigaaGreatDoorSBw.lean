/- One token, and a space behind: for ShortBack. What was read is one token, and so are many with spaces between: for ShortBack. What a shorthand was expanded to, put together, is expanded to it again: for ShortBack. What was told is no wide word, and is told again out of its own text: for ShortBack. The first k of what was told, put together, tell it again, where they come to it: for ShortBack. What a shorthand was expanded to, joined, is expanded to it again: for ShortBack. Expand and Join, back and forth: for ShortBack. A text of at most four told parts is short: for ShortBack. All that the walk of ShortBack asks of what a shorthand was expanded to. gouachelaw16.ShortBack: the walk. -/
import Derived.Test.YtlhdapckenjigaaGreatDoorSDw
import Derived.Test.YtlhdapckenjigaaGreatDoorSOp
import Derived.Deep.RegionLaw
namespace Go.Proofs.YtlhdapckenjigaaGreatDoor.S
open Go.RowKit
open Go.Proofs.YtlhdapckenjigaaGreatDoor.L (T5 V VsAt t5Cells vCells hid_mk)
open Go.Proofs.YtlhdapckenjigaaGreatDoor.Y (spaceV trimZ aheadZ)
open Go.Proofs.YtlhdapckenjigaaGreatDoor.W (decU Numb Behind itS signD one_numb numZ_of numb_ne)
open Go.Proofs.YtlhdapckenjigaaGreatDoor.Z (valsS Asc runes_asc strT_asc toT5 pxS)
set_option maxRecDepth 100000

/-- Characters that are cut into one token, also where a space stands behind. -/
structure One1 (l : List Int) (t : Tok) : Prop where
  asc : Asc l
  ne : l ≠ []
  hd : blankZ (hd l 0) = false
  close : Y.closeZ t.kind = 0
  sp : t.kind ≠ 13
  one : toks l = [t]
  more : ∀ R, oneZ (l ++ 32 :: R) = (some t, 32 :: R)
theorem name_run : ∀ (l R : List Int), (∀ c ∈ l, partZ c = true) → nameT (l ++ 32 :: R) 0 = l ∧ nameR (l ++ 32 :: R) 0 = 32 :: R
  | [], R, _ => ⟨by rfl, by rfl⟩
  | c :: r, R, h => by
    have ih := name_run r R (fun x hx => h x (by simp [hx]))
    have hc := h c (by simp)
    constructor
    · show nameT (c :: (r ++ 32 :: R)) 0 = c :: r
      unfold nameT
      rw [if_pos hc, ih.1]
    · show nameR (c :: (r ++ 32 :: R)) 0 = 32 :: R
      unfold nameR
      rw [if_pos hc, ih.2]
theorem sp_behind (R : List Int) : Behind (32 :: R) := ⟨by rfl, by rfl, by rfl⟩
theorem pc_behind (R : List Int) : Behind (37 :: 32 :: R) := ⟨by rfl, by rfl, by rfl⟩
theorem num_hd {d : List Int} (hn : Numb d) (X : List Int) : blankZ (hd (d ++ X) 0) = false := by
  obtain ⟨ds, hd1, hne, hor⟩ := hn
  obtain ⟨c, r, rfl⟩ := List.exists_cons_of_ne_nil hne
  have hc := hd1 c (by simp)
  rcases hor with rfl | rfl
  · show blankZ c = false
    unfold blankZ
    simp
    omega
  · rfl
theorem num_ne {d : List Int} (hn : Numb d) : d ≠ [] := by
  have := numb_ne hn []
  rwa [List.append_nil] at this
theorem one_px {d : List Int} (hn : Numb d) (ha : Asc d) (ht : toks (d ++ [112, 120]) = [mkTok 12 d [112, 120] true false]) : One1 (d ++ [112, 120]) (mkTok 12 d [112, 120] true false) := by
  refine ⟨Z.asc_app ha Z.asc_px, numb_ne hn _, num_hd hn _, rfl, (show (12 : Int) ≠ 13 by decide), ht, fun R => ?_⟩
  rw [List.append_assoc]
  show oneZ (d ++ 112 :: 120 :: 32 :: R) = _
  rw [one_numb hn (px_behind R), numZ_of hn (px_behind R), (px_name R).1, (px_name R).2.1, (px_name R).2.2]
  rfl
theorem one_pc {d : List Int} (hn : Numb d) (ha : Asc d) (ht : toks (d ++ [37]) = [mkTok 11 d [] true false]) : One1 (d ++ [37]) (mkTok 11 d [] true false) := by
  refine ⟨Z.asc_app ha Z.asc_pc, numb_ne hn _, num_hd hn _, rfl, (show (11 : Int) ≠ 13 by decide), ht, fun R => ?_⟩
  rw [List.append_assoc]
  show oneZ (d ++ 37 :: 32 :: R) = _
  rw [one_numb hn (pc_behind R), numZ_of hn (pc_behind R)]
  rfl
theorem one_int {d : List Int} (hn : Numb d) (ha : Asc d) (ht : toks d = [mkTok 10 d [] true false]) : One1 d (mkTok 10 d [] true false) := by
  refine ⟨ha, num_ne hn, (by have := num_hd hn []; rwa [List.append_nil] at this), rfl, (show (10 : Int) ≠ 13 by decide), ht, fun R => ?_⟩
  rw [one_numb hn (sp_behind R), numZ_of hn (sp_behind R)]
  rfl
theorem name_all : ∀ (l : List Int), (∀ c ∈ l, partZ c = true) → nameT l 0 = l ∧ nameR l 0 = []
  | [], _ => ⟨rfl, rfl⟩
  | c :: r, h => by
    have ih := name_all r (fun x hx => h x (by simp [hx]))
    have hc := h c (by simp)
    constructor
    · unfold nameT
      rw [if_pos hc, ih.1]
    · unfold nameR
      rw [if_pos hc, ih.2]
/-- A word: a small letter first. -/
theorem word_oneZ {c : Int} (h1 : 97 ≤ c) (h2 : c ≤ 122) (X : List Int) : oneZ (c :: X) = someT (wordZ (c :: X)) := by
  have n1 : c ≠ 47 := by omega
  have n2 : c ≠ 35 := by omega
  have n3 : c ≠ 45 := by omega
  have n4 : c ≠ 60 := by omega
  have n5 : c ≠ 43 := by omega
  have n6 : c ≠ 46 := by omega
  have n7 : c ≠ 34 := by omega
  have n8 : c ≠ 39 := by omega
  have e1 : standsB [47, 42] (c :: X) = false := by simp [standsB, hd, n1]
  have e2 : blankZ (hd (c :: X) 0) = false := by
    show blankZ c = false
    unfold blankZ
    simp
    omega
  have e3 : quoteB (c :: X) = false := by simp [quoteB, hd, n7, n8]
  have e4 : hashB (c :: X) = false := by simp [hashB, hd, n2]
  have e5 : numB (c :: X) = false := by
    have hs : signB (c :: X) = false := by simp [signB, hd, n3, n5]
    unfold numB unsignZ dotB
    rw [hs]
    simp [hd, digitZ, n6]
    omega
  have e6 : standsB [45, 45, 62] (c :: X) = false := by simp [standsB, hd, n3]
  have e7 : standsB [60, 33, 45, 45] (c :: X) = false := by simp [standsB, hd, n4]
  have e8 : nameB (c :: X) = true := by
    unfold nameB wordB
    simp [hd, n3, startZ]
    omega
  unfold oneZ
  simp only [e1, e2, e3, e4, e5, e6, e7, e8, if_true, if_false, Bool.false_eq_true]
theorem one_word {c : Int} {r : List Int} (h1 : 97 ≤ c) (h2 : c ≤ 122) (hp : ∀ x ∈ c :: r, partZ x = true) (ha : Asc (c :: r)) : One1 (c :: r) (plainTok 1 (c :: r)) := by
  refine ⟨ha, by simp, ?_, rfl, (show (1 : Int) ≠ 13 by decide), ?_, fun R => ?_⟩
  · show blankZ c = false
    unfold blankZ
    simp
    omega
  · refine W.toks_one (by simp) ?_
    rw [word_oneZ h1 h2]
    unfold wordZ
    rw [(name_all (c :: r) hp).1, (name_all (c :: r) hp).2]
    rfl
  · show oneZ (c :: (r ++ 32 :: R)) = _
    rw [word_oneZ h1 h2]
    have h3 := name_run (c :: r) R hp
    unfold wordZ
    rw [show c :: (r ++ 32 :: R) = (c :: r) ++ 32 :: R from rfl, h3.1, h3.2]
    rfl
/-- Tokens with spaces between. -/
def joinL : List (List Int) → List Int
  | [] => []
  | [l] => l
  | l :: r => l ++ 32 :: joinL r
def joinT : List Tok → List Tok
  | [] => []
  | [t] => [t]
  | t :: r => t :: plainTok 13 [] :: joinT r
theorem toks_more {l R : List Int} {t : Tok} (h : One1 l t) : toks (l ++ 32 :: R) = t :: toks (32 :: R) := by
  have h1 := h.more R
  obtain ⟨c, r, hcr⟩ := List.exists_cons_of_ne_nil (show l ++ 32 :: R ≠ [] by simp)
  rw [hcr] at h1 ⊢
  rw [toks_cons, h1]
  rfl
theorem join_hd : ∀ (L : List (List Int × Tok)), L ≠ [] → (∀ p ∈ L, One1 p.1 p.2) → ∃ c r, joinL (L.map (·.1)) = c :: r ∧ blankZ c = false
  | [], h, _ => absurd rfl h
  | [p], _, h => by
    have h1 := h p (by simp)
    obtain ⟨c, r, hcr⟩ := List.exists_cons_of_ne_nil h1.ne
    have hb := h1.hd
    rw [hcr] at hb
    exact ⟨c, r, hcr, hb⟩
  | p :: q :: z, _, h => by
    have h1 := h p (by simp)
    obtain ⟨c, r, hcr⟩ := List.exists_cons_of_ne_nil h1.ne
    have hb := h1.hd
    rw [hcr] at hb
    refine ⟨c, r ++ 32 :: joinL ((q :: z).map (·.1)), ?_, hb⟩
    show p.1 ++ 32 :: joinL ((q :: z).map (·.1)) = _
    rw [hcr]
    rfl
theorem toks_join : ∀ (L : List (List Int × Tok)), L ≠ [] → (∀ p ∈ L, One1 p.1 p.2) → toks (joinL (L.map (·.1))) = joinT (L.map (·.2))
  | [], h, _ => absurd rfl h
  | [p], _, h => (h p (by simp)).one
  | p :: q :: z, _, h => by
    have h1 := h p (by simp)
    have ih := toks_join (q :: z) (by simp) (fun x hx => h x (by simp at hx ⊢; exact .inr hx))
    obtain ⟨c, r, hcr, hb⟩ := join_hd (q :: z) (by simp) (fun x hx => h x (by simp at hx ⊢; exact .inr hx))
    show toks (p.1 ++ 32 :: joinL ((q :: z).map (·.1))) = p.2 :: plainTok 13 [] :: joinT ((q :: z).map (·.2))
    rw [toks_more h1, ← ih, hcr, toks_sp c r hb]
end Go.Proofs.YtlhdapckenjigaaGreatDoor.S
namespace Go.Proofs.YtlhdapckenjigaaGreatDoor.S
open Go.RowKit
open Go.Proofs.YtlhdapckenjigaaGreatDoor.L (T5 V VsAt t5Cells vCells hid_mk)
open Go.Proofs.YtlhdapckenjigaaGreatDoor.Y (spaceV trimZ aheadZ)
open Go.Proofs.YtlhdapckenjigaaGreatDoor.W (decU Numb Behind itS signD)
open Go.Proofs.YtlhdapckenjigaaGreatDoor.Z (valsS Asc runes_asc strT_asc toT5 pxS Hx)
set_option maxRecDepth 100000

theorem one_hash {ds : List Int} (h : Hx ds) (hne : ds ≠ []) : One1 (35 :: ds) (mkTok 4 ds [] false (nameB ds)) := by
  refine ⟨h.asc35, by simp, rfl, rfl, (show (4 : Int) ≠ 13 by decide), Z.toks_hx h hne, fun R => ?_⟩
  have hp : ∀ c ∈ ds, partZ c = true := fun c hc => Z.hex_part (h c hc).1
  obtain ⟨b1, b2⟩ := name_run ds R hp
  have hnb : nameB (ds ++ 32 :: R) = nameB ds := by
    obtain ⟨c, r, rfl⟩ := List.exists_cons_of_ne_nil hne
    have hb := Z.hexI_bd (h c (by simp)).1
    have h1 : hd (c :: r ++ 32 :: R) 0 = c := rfl
    have h2 : hd (c :: r) 0 = c := rfl
    have n1 : (c == 45) = false := by simp; omega
    have hx : c ≠ 92 := by
      intro e
      have := (h c (by simp)).1
      rw [e] at this
      exact absurd this (by decide)
    have n2 : (c == 92) = false := by simpa using hx
    unfold nameB wordB escB
    rw [h1, h2, n1, n2]
    rfl
  show oneZ (35 :: (ds ++ 32 :: R)) = _
  unfold oneZ
  have a1 : standsB [47, 42] (35 :: (ds ++ 32 :: R)) = false := by simp [standsB, hd]
  have a2 : blankZ (hd (35 :: (ds ++ 32 :: R)) 0) = false := by simp [hd, blankZ]
  have a3 : quoteB (35 :: (ds ++ 32 :: R)) = false := by simp [quoteB, hd]
  have a4 : hashB (35 :: (ds ++ 32 :: R)) = true := by
    show (true && (partZ (hd (ds ++ 32 :: R) 0) || escB (ds ++ 32 :: R))) = true
    obtain ⟨c, r, rfl⟩ := List.exists_cons_of_ne_nil hne
    have : hd (c :: r ++ 32 :: R) 0 = c := rfl
    rw [this, hp c (by simp)]
    rfl
  simp only [a1, a2, a3, a4, Bool.false_eq_true, if_false, if_true]
  show someT (hashZ (ds ++ 32 :: R)) = _
  unfold hashZ
  rw [b1, b2, hnb]
  rfl
/-- Is the text a word: a small letter, and then small letters and signs of a name? -/
def wordLike (x : ByteArray) : Bool := match W.bytesL x with
  | [] => false
  | c :: r => decide (97 ≤ c ∧ c ≤ 122) && (c :: r).all partZ && (c :: r).all (fun y => decide (33 ≤ y ∧ y ≤ 126)) && decide (x = strOfNums (c :: r))
theorem forms_like : P.T.all (fun p => (P.prts p.f).all (fun x => match Z.asksA x with | .word _ => wordLike x | _ => true)) = true := by kernel_rfl
theorem ask_word {f g : ByteArray} (h : Z.asksA f = .word g) : g = f := by
  unfold Z.asksA at h
  repeat' split at h
  all_goals first
    | (cases h; rfl)
    | cases h
theorem words_one (x : ByteArray) (h : wordLike x = true) : ∃ l t, x = strOfNums l ∧ One1 l t := by
  unfold wordLike at h
  cases hb : W.bytesL x with
  | nil => rw [hb] at h; cases h
  | cons c r =>
    rw [hb] at h
    simp only [Bool.and_eq_true, decide_eq_true_eq, List.all_eq_true] at h
    obtain ⟨⟨⟨h1, h2⟩, h3⟩, h4⟩ := h
    exact ⟨c :: r, _, h4, one_word h1.1 h1.2 (fun y hy => h2 y hy) (fun y hy => by have := h3 y hy; omega)⟩
end Go.Proofs.YtlhdapckenjigaaGreatDoor.S
namespace Go.Proofs.YtlhdapckenjigaaGreatDoor.S
open Go.RowKit
open Go.Proofs.YtlhdapckenjigaaGreatDoor.L (T5 V VsAt t5Cells vCells hid_mk)
open Go.Proofs.YtlhdapckenjigaaGreatDoor.Y (spaceV trimZ aheadZ)
open Go.Proofs.YtlhdapckenjigaaGreatDoor.W (itS signD)
open Go.Proofs.YtlhdapckenjigaaGreatDoor.Z (valsS Asc runes_asc strT_asc toT5 pxS Hx)
set_option maxRecDepth 100000

/-- What a value was read as is cut into one token. -/
theorem told_one {name s : ByteArray} {vs : List V} (h : Z.parseO name vs = some s) : ∃ l t, s = strOfNums l ∧ One1 l t := by
  obtain ⟨x, hp, hx, hfr, f, hf, hq⟩ := Z.parse_hit h
  cases hA : Z.asksA f with
  | num g up =>
    rw [hA] at hq
    obtain ⟨_, _, _, rfl⟩ := Z.whole_out (show Z.wholeO g up x.tok = some s from hq)
    obtain ⟨t1, t2, t3⟩ := Z.num_toks (Z.intP x.tok).1
    cases g with
    | len => exact ⟨_, _, Z.it_px _, one_px (Z.sign_numb _) (Z.sign_asc _) t1⟩
    | pct => exact ⟨_, _, Z.it_pc _, one_pc (Z.sign_numb _) (Z.sign_asc _) t2⟩
    | int => exact ⟨_, _, Z.it_no _, one_int (Z.sign_numb _) (Z.sign_asc _) t3⟩
  | col =>
    rw [hA] at hq
    obtain ⟨ds, rfl, hl, hx6⟩ := Z.color_form (show Z.colorO x.tok = some s from hq)
    have hne : ds ≠ [] := by intro h; rw [h] at hl; cases hl
    exact ⟨_, _, rfl, one_hash hx6 hne⟩
  | word g =>
    rw [hA] at hq
    have hq : Z.wordO g x.tok = some s := hq
    unfold Z.wordO at hq
    split at hq
    · have hgs : g = s := Option.some.inj hq
      have hgf : g = f := ask_word hA
      rw [← hgs, hgf]
      refine words_one f ?_
      rcases P.fnd_cases name with ⟨hz, hz2⟩ | ⟨k, p, _, _, h5, hpT⟩
      · exfalso
        exact hp (by rw [show P.plc name = -1 from hz]; decide)
      · rw [h5] at hf
        have h1 := List.all_eq_true.1 forms_like p (List.mem_of_getElem? hpT)
        have h2 := List.all_eq_true.1 h1 f hf
        rw [hA] at h2
        exact h2
    · cases hq
/-- The value of one token. -/
def vT (t : Tok) : V := .mk (toT5 t) []
theorem vals_one1 {l : List Int} {t : Tok} (h : One1 l t) : valsS (strOfNums l) = [vT t] := Z.vals_one h.asc h.one h.close
theorem sp_vT {l : List Int} {t : Tok} (h : One1 l t) : spaceV (vT t) = false := by
  rw [sp_eq]
  show (t.kind == 13) = false
  simpa using h.sp
theorem joinL_asc : ∀ (L : List (List Int × Tok)), (∀ p ∈ L, One1 p.1 p.2) → Asc (joinL (L.map (·.1)))
  | [], _ => fun x hx => by cases hx
  | [p], h => (h p (by simp)).asc
  | p :: q :: z, h => by
    have ih := joinL_asc (q :: z) (fun x hx => h x (by simp at hx ⊢; exact .inr hx))
    show Asc (p.1 ++ 32 :: joinL ((q :: z).map (·.1)))
    exact Z.asc_app (h p (by simp)).asc (asc_cons (fun x hx => by simp at hx; rw [hx]; decide) ih)
theorem joinT_close : ∀ (L : List (List Int × Tok)), (∀ p ∈ L, One1 p.1 p.2) → ∀ t ∈ joinT (L.map (·.2)), Y.closeZ t.kind = 0
  | [], _, t, h => by cases h
  | [p], h, t, ht => by rw [List.mem_singleton.1 ht]; exact (h p (by simp)).close
  | p :: q :: z, h, t, ht => by
    have ht : t ∈ p.2 :: plainTok 13 [] :: joinT ((q :: z).map (·.2)) := ht
    rcases List.mem_cons.1 ht with rfl | ht
    · exact (h p (by simp)).close
    rcases List.mem_cons.1 ht with rfl | ht
    · rfl
    · exact joinT_close (q :: z) (fun x hx => h x (by simp at hx ⊢; exact .inr hx)) t ht
theorem vals_join (L : List (List Int × Tok)) (hne : L ≠ []) (h : ∀ p ∈ L, One1 p.1 p.2) : valsS (strOfNums (joinL (L.map (·.1)))) = (joinT (L.map (·.2))).map vT :=
  vals_flat (joinL_asc L h) (toks_join L hne h) (joinT_close L h)
theorem cut_join : ∀ (L : List (List Int × Tok)), (∀ p ∈ L, One1 p.1 p.2) → cutP ((joinT (L.map (·.2))).map vT) = L.map fun p => [vT p.2]
  | [], _ => rfl
  | [p], h => by
    show cutA [] [vT p.2] = [[vT p.2]]
    rw [cutA_flat _ _ (by simpa using sp_vT (h p (by simp)))]
    rfl
  | p :: q :: z, h => by
    have ih := cut_join (q :: z) (fun x hx => h x (by simp at hx ⊢; exact .inr hx))
    show cutA [] (vT p.2 :: spV :: (joinT ((q :: z).map (·.2))).map vT) = [vT p.2] :: (q :: z).map fun p => [vT p.2]
    rw [← ih]
    conv => lhs; unfold cutA
    rw [if_neg (by rw [sp_vT (h p (by simp))]; simp)]
    conv => lhs; unfold cutA
    rw [if_pos sp_sp]
    rfl
theorem join_two (x y : ByteArray) (r : List ByteArray) : joinS (x :: y :: r) = x ++ ⟨#[32]⟩ ++ joinS (y :: r) := by
  apply ByteArray.ext
  unfold joinS
  rw [ByteArray.data_append, ByteArray.data_append]
  apply Array.toList_inj.1
  simp only [Array.toList_append, List.map_cons, Lib.join_cons, Lib.joinTail, List.flatten_cons, List.append_assoc]
theorem join_nums : ∀ (L : List (List Int × Tok)), L ≠ [] → joinS (L.map fun p => strOfNums p.1) = strOfNums (joinL (L.map (·.1)))
  | [], h => absurd rfl h
  | [p], _ => by
    unfold joinS
    simp only [List.map_cons, List.map_nil, Lib.join_one]
    rfl
  | p :: q :: z, _ => by
    have ih := join_nums (q :: z) (by simp)
    show joinS (strOfNums p.1 :: strOfNums q.1 :: z.map fun p => strOfNums p.1) = strOfNums (p.1 ++ 32 :: joinL ((q :: z).map (·.1)))
    rw [join_two, W.nums_two]
    show strOfNums p.1 ++ strOfNums [32] ++ joinS ((q :: z).map fun p => strOfNums p.1) = strOfNums p.1 ++ strOfNums ([32] ++ joinL ((q :: z).map (·.1)))
    rw [W.nums_two, ← ih]
    apply ByteArray.ext
    simp only [ByteArray.data_append, Array.append_assoc]
/-- The texts of a row that are one token each, with their numbers and tokens. -/
theorem told_row : ∀ (l : List ByteArray), (∀ s ∈ l, ∃ a t, s = strOfNums a ∧ One1 a t) → ∃ L : List (List Int × Tok), l = L.map (fun p => strOfNums p.1) ∧ ∀ p ∈ L, One1 p.1 p.2
  | [], _ => ⟨[], rfl, fun p hp => by cases hp⟩
  | s :: r, h => by
    obtain ⟨a, t, hs, h1⟩ := h s (by simp)
    obtain ⟨L, hL, hall⟩ := told_row r (fun x hx => h x (by simp [hx]))
    refine ⟨(a, t) :: L, by rw [List.map_cons, ← hL, hs], fun p hp => ?_⟩
    rcases List.mem_cons.1 hp with rfl | hp
    · exact h1
    · exact hall p hp
/-- The values of told texts put together with spaces are cut into the values of each. -/
theorem cut_told (l : List ByteArray) (hne : l ≠ []) (h : ∀ s ∈ l, ∃ a t, s = strOfNums a ∧ One1 a t) : cutP (valsS (joinS l)) = l.map valsS := by
  obtain ⟨L, rfl, hall⟩ := told_row l h
  have hL : L ≠ [] := by intro hz; exact hne (by rw [hz]; rfl)
  rw [join_nums L hL, vals_join L hL hall, cut_join L hall, List.map_map]
  apply List.map_congr_left
  intro p hp
  exact (vals_one1 (hall p hp)).symm
end Go.Proofs.YtlhdapckenjigaaGreatDoor.S
namespace Go.Proofs.YtlhdapckenjigaaGreatDoor.S
open Go.RowKit
open Go.Proofs.YtlhdapckenjigaaGreatDoor.L (T5 V)
open Go.Proofs.YtlhdapckenjigaaGreatDoor.Z (valsS)
set_option maxRecDepth 100000

/-- Is the text one of the three wide words? -/
def wideB (f : ByteArray) : Bool := f.toList == [105, 110, 104, 101, 114, 105, 116] || f.toList == [105, 110, 105, 116, 105, 97, 108] || f.toList == [117, 110, 115, 101, 116]
theorem wide_of {vs : List V} {x : V} (h1 : Z.oneO vs = some x) (h2 : x.tok.k = 1 → wideB (foldS x.tok.tx) = false) : Z.wideS vs = Z.noS := by
  unfold Z.wideS
  rw [h1]
  show (if _ then _ else _) = _
  split
  · rename_i h
    have := h2 h.1
    unfold wideB at this
    simp only [Bool.or_eq_false_iff, beq_eq_false_iff_ne] at this
    rcases h.2 with h | h | h
    · exact absurd h this.1.1
    · exact absurd h this.1.2
    · exact absurd h this.2
  · rfl
theorem forms_wide : P.T.all (fun p => (P.prts p.f).all (fun x => !wideB (foldS x))) = true := by kernel_rfl
theorem cols_wide : Z.CT.all (fun x => !wideB x.1) = true := by kernel_rfl
/-- What is read as a property's value is no wide word. -/
theorem told_wide {name s : ByteArray} {vs : List V} (h : Z.parseO name vs = some s) : Z.wideS vs = Z.noS := by
  obtain ⟨x, hp, hx, hfr, f, hf, hq⟩ := Z.parse_hit h
  refine wide_of hx fun hk => ?_
  cases hA : Z.asksA f with
  | num g up =>
    rw [hA] at hq
    obtain ⟨hi, _⟩ := Z.whole_out (show Z.wholeO g up x.tok = some s from hq)
    unfold Z.intP at hi
    rw [if_neg (by rw [hk]; omega)] at hi
    cases hi
  | col =>
    rw [hA] at hq
    have hq : Z.colorO x.tok = some s := hq
    unfold Z.colorO at hq
    rw [if_pos hk] at hq
    unfold Z.namedO at hq
    obtain ⟨y, hy, _⟩ := Option.map_eq_some_iff.1 hq
    have h1 := List.all_eq_true.1 cols_wide y (List.mem_of_find?_eq_some hy)
    have h2 := List.find?_some hy
    unfold Z.isC at h2
    have h2 : y.1.toList = (foldS x.tok.tx).toList := by simpa using h2
    unfold wideB at h1 ⊢
    rw [← h2]
    simpa using h1
  | word g =>
    rw [hA] at hq
    have hq : Z.wordO g x.tok = some s := hq
    unfold Z.wordO at hq
    split at hq
    · rename_i hw
      have hgf : g = f := ask_word hA
      rw [hw.2, hgf]
      rcases P.fnd_cases name with ⟨hz, hz2⟩ | ⟨k, p, _, _, h5, hpT⟩
      · exfalso
        exact hp (by rw [show P.plc name = -1 from hz]; decide)
      · rw [h5] at hf
        have h1 := List.all_eq_true.1 forms_wide p (List.mem_of_getElem? hpT)
        have h2 := List.all_eq_true.1 h1 f hf
        simpa using h2
    · cases hq
/-- What is told of names, one for one. -/
theorem readA_out (ps : List (List V)) : ∀ (N : List ByteArray) (i : Nat) (l : List ByteArray), readA ps i N = some l → l.length = N.length ∧ ∀ (j : Nat) (n s : ByteArray), N[j]? = some n → l[j]? = some s → Z.parseO n (partAt ps (i + j)) = some s
  | [], i, l, h => by
    cases h
    exact ⟨rfl, fun j n s hn _ => by simp at hn⟩
  | n0 :: r, i, l, h => by
    unfold readA at h
    split at h
    · cases h
    · rename_i s0 h0
      obtain ⟨l', hl', rfl⟩ := Option.map_eq_some_iff.1 h
      obtain ⟨a, b⟩ := readA_out ps r (i + 1) l' hl'
      refine ⟨by simp [a], fun j n s hn hs => ?_⟩
      cases j with
      | zero =>
        cases hn
        cases hs
        exact h0
      | succ j =>
        have := b j n s (by simpa using hn) (by simpa using hs)
        rw [show i + (j + 1) = i + 1 + j by omega]
        exact this
theorem readA_in (ps : List (List V)) : ∀ (N : List ByteArray) (i : Nat) (l : List ByteArray), l.length = N.length → (∀ (j : Nat) (n s : ByteArray), N[j]? = some n → l[j]? = some s → Z.parseO n (partAt ps (i + j)) = some s) → readA ps i N = some l
  | [], i, l, h, _ => by
    rw [List.length_eq_zero_iff.1 h]
    rfl
  | n0 :: r, i, [], h, _ => by cases h
  | n0 :: r, i, s0 :: l, h, hh => by
    have h0 := hh 0 n0 s0 rfl rfl
    have ih := readA_in ps r (i + 1) l (by simpa using h) (fun j n s hn hs => by
      have := hh (j + 1) n s (by simpa using hn) (by simpa using hs)
      rw [show i + 1 + j = i + (j + 1) by omega]
      exact this)
    unfold readA
    rw [show Z.parseO n0 (partAt ps i) = some s0 from h0]
    show (readA ps (i + 1) r).map (s0 :: ·) = _
    rw [ih]
    rfl
end Go.Proofs.YtlhdapckenjigaaGreatDoor.S
namespace Go.Proofs.YtlhdapckenjigaaGreatDoor.S
open Go.RowKit
open Go.Proofs.YtlhdapckenjigaaGreatDoor.L (T5 V)
open Go.Proofs.YtlhdapckenjigaaGreatDoor.Z (valsS)
set_option maxRecDepth 100000

theorem side_lt {k j : Nat} (h1 : 1 ≤ k) (h4 : k ≤ 4) (hj : j < 4) : (sidesZ (k : Int) (j : Int)).toNat < k := by
  have hk4 : k = 1 ∨ k = 2 ∨ k = 3 ∨ k = 4 := by omega
  have hj4 : j = 0 ∨ j = 1 ∨ j = 2 ∨ j = 3 := by omega
  rcases hk4 with rfl | rfl | rfl | rfl <;> rcases hj4 with rfl | rfl | rfl | rfl <;> decide
theorem join_one1 (s : ByteArray) : joinS [s] = s := by
  unfold joinS
  simp only [List.map_cons, List.map_nil, Lib.join_one]
theorem vals_back (N l : List ByteArray) (k : Nat) (hk : 1 ≤ k) (hkN : k ≤ N.length) (hl : l.length = N.length) (hN : N.length ≤ 4)
    (told : ∀ (j : Nat) (n s : ByteArray), N[j]? = some n → l[j]? = some s → ∃ vs, Z.parseO n vs = some s)
    (hsp : ∀ i, i < N.length → (l.take k).getD (sidesZ (k : Int) (i : Int)).toNat ⟨#[]⟩ = l.getD i ⟨#[]⟩) : valsO N (valsS (joinS (l.take k))) = l := by
  have hlen : (l.take k).length = k := by rw [List.length_take]; omega
  have hne : l.take k ≠ [] := by intro h; rw [h] at hlen; simp at hlen; omega
  have hone : ∀ s ∈ l.take k, ∃ a t, s = strOfNums a ∧ One1 a t := by
    intro s hs
    obtain ⟨j, hj⟩ := List.getElem?_of_mem (List.mem_of_mem_take hs)
    have hjl : j < l.length := by
      rcases Nat.lt_or_ge j l.length with h | h
      · exact h
      · rw [List.getElem?_eq_none h] at hj; cases hj
    obtain ⟨vs, hv⟩ := told j (N[j]'(by omega)) s (List.getElem?_eq_getElem (by omega)) hj
    exact told_one hv
  have hcut := cut_told (l.take k) hne hone
  have hcl : (cutP (valsS (joinS (l.take k)))).length = k := by rw [hcut, List.length_map, hlen]
  have hw : Z.wideS (valsS (joinS (l.take k))) = Z.noS := by
    by_cases h1 : k = 1
    · subst h1
      cases l with
      | nil => exact absurd rfl hne
      | cons s r =>
        show Z.wideS (valsS (joinS [s])) = _
        rw [join_one1]
        obtain ⟨vs, hv⟩ := told 0 (N[0]'(by omega)) s (List.getElem?_eq_getElem (by omega)) rfl
        exact told_wide (Z.back hv).2.1
    · unfold Z.wideS
      rw [one_cut, hcl, if_neg h1]
  have hread : readA (cutP (valsS (joinS (l.take k)))) 0 N = some l := by
    refine readA_in _ N 0 l hl fun j n s hn hs => ?_
    have hjN : j < N.length := by
      rcases Nat.lt_or_ge j N.length with h | h
      · exact h
      · rw [List.getElem?_eq_none h] at hn; cases hn
    obtain ⟨vs, hv⟩ := told j n s hn hs
    have hp : partAt (cutP (valsS (joinS (l.take k)))) (0 + j) = valsS s := by
      unfold partAt
      rw [hcl, hcut, Nat.zero_add]
      have hlt := side_lt (j := j) hk (by omega) (by omega)
      have h2 := hsp j hjN
      rw [List.getD_eq_getElem?_getD, List.getD_eq_getElem?_getD, hs, List.getElem?_eq_getElem (by rw [hlen]; exact hlt)] at h2
      rw [List.getD_eq_getElem?_getD, List.getElem?_map, List.getElem?_eq_getElem (by rw [hlen]; exact hlt)]
      show valsS _ = _
      rw [show (l.take k)[(sidesZ (k : Int) (j : Int)).toNat]'(by rw [hlen]; exact hlt) = s from h2]
    rw [hp]
    exact (Z.back hv).2.1
  unfold valsO
  rw [hw, if_neg (by decide), hcl, if_neg (by omega), hread]
  rfl
end Go.Proofs.YtlhdapckenjigaaGreatDoor.S
namespace Go.Proofs.YtlhdapckenjigaaGreatDoor.S
open Go.RowKit
open Go.Proofs.YtlhdapckenjigaaGreatDoor.L (T5 V)
open Go.Proofs.YtlhdapckenjigaaGreatDoor.Z (valsS)
set_option maxRecDepth 100000

theorem side_id {k j : Nat} (h4 : k ≤ 4) (hj : j < k) : (sidesZ (k : Int) (j : Int)).toNat = j := by
  have hk4 : k = 1 ∨ k = 2 ∨ k = 3 ∨ k = 4 := by omega
  have hj4 : j = 0 ∨ j = 1 ∨ j = 2 ∨ j = 3 := by omega
  rcases hk4 with rfl | rfl | rfl | rfl <;> rcases hj4 with rfl | rfl | rfl | rfl <;> first | omega | decide
/-- Where the first k come to what all come to, each of all is that of its side. -/
theorem sp_at {l : List ByteArray} {k : Nat} (hk : k ≤ l.length) (h4 : l.length ≤ 4) (h : spL (l.take k) = spL l) {i : Nat} (hi : i < l.length) :
    (l.take k).getD (sidesZ (k : Int) (i : Int)).toNat ⟨#[]⟩ = l.getD i ⟨#[]⟩ := by
  have hlen : (l.take k).length = k := by rw [List.length_take]; omega
  have h1 : (spL (l.take k))[i]? = (spL l)[i]? := by rw [h]
  unfold spL at h1
  rw [List.getElem?_map, List.getElem?_map, List.getElem?_range (by omega)] at h1
  have h2 : (l.take k).getD (sidesZ ((l.take k).length : Int) (i : Int)).toNat ⟨#[]⟩ = l.getD (sidesZ (l.length : Int) (i : Int)).toNat ⟨#[]⟩ := Option.some.inj h1
  rw [hlen, side_id h4 hi] at h2
  exact h2
theorem list_eq {s t : ByteArray} (h : s.toList = t.toList) : s = t := by
  have h1 := P.str_of (show (s.toList == t.toList) = true by rw [h]; simp)
  have h2 := P.str_of (show (t.toList == t.toList) = true by simp)
  rw [h1, ← h2]
def wInh : ByteArray := ⟨#[105, 110, 104, 101, 114, 105, 116]⟩
def wIni : ByteArray := ⟨#[105, 110, 105, 116, 105, 97, 108]⟩
def wUns : ByteArray := ⟨#[117, 110, 115, 101, 116]⟩
theorem wide_three {vs : List V} (h : (Z.wideS vs).size ≠ 0) : Z.wideS vs = wInh ∨ Z.wideS vs = wIni ∨ Z.wideS vs = wUns := by
  unfold Z.wideS at h ⊢
  split at h
  · exact absurd rfl h
  · rename_i x hx
    split at h
    · rename_i hc
      rw [if_pos hc]
      rcases hc.2 with h | h | h
      · exact .inl (list_eq (h.trans (by kernel_rfl)))
      · exact .inr (.inl (list_eq (h.trans (by kernel_rfl))))
      · exact .inr (.inr (list_eq (h.trans (by kernel_rfl))))
    · exact absurd rfl h
theorem wide_inh : Z.wideS (valsS wInh) = wInh := by kernel_rfl
theorem wide_ini : Z.wideS (valsS wIni) = wIni := by kernel_rfl
theorem wide_uns : Z.wideS (valsS wUns) = wUns := by kernel_rfl
theorem sp_rep (w : ByteArray) {n : Nat} (h1 : 1 ≤ n) (h4 : n ≤ 4) : spL ((List.replicate n w).take 1) = spL (List.replicate n w) := by
  have : n = 1 ∨ n = 2 ∨ n = 3 ∨ n = 4 := by omega
  rcases this with rfl | rfl | rfl | rfl <;> rfl
/-- The least number of parts that come to what was told tells it again. -/
theorem valsO_back (N : List ByteArray) (vs : List V) (k : Nat) (hN : N.length ≤ 4) (hne : valsO N vs ≠ []) (hk : 1 ≤ k) (hkl : k ≤ (valsO N vs).length)
    (hsp : spL ((valsO N vs).take k) = spL (valsO N vs)) (hle : ∀ j, 1 ≤ j → j < k → spL ((valsO N vs).take j) ≠ spL (valsO N vs)) :
    valsO N (valsS (joinS ((valsO N vs).take k))) = valsO N vs := by
  by_cases hw : (Z.wideS vs).size ≠ 0
  · have e : valsO N vs = List.replicate N.length (Z.wideS vs) := by
      unfold valsO
      rw [if_pos hw]
    rw [e] at hne hkl hsp hle ⊢
    rw [List.length_replicate] at hkl
    have k1 : k = 1 := by
      rcases Nat.lt_or_ge 1 k with h | h
      · exact absurd (sp_rep _ (by omega) hN) (hle 1 (by omega) h)
      · omega
    subst k1
    have ht : (List.replicate N.length (Z.wideS vs)).take 1 = [Z.wideS vs] := by
      rw [List.take_replicate, Nat.min_eq_left hkl]
      rfl
    rw [ht, join_one1]
    have hself : Z.wideS (valsS (Z.wideS vs)) = Z.wideS vs := by
      rcases wide_three hw with h | h | h <;> rw [h]
      · exact wide_inh
      · exact wide_ini
      · exact wide_uns
    unfold valsO
    rw [hself, if_pos hw]
  · have e : valsO N vs = (if (cutP vs).length = 0 ∨ N.length < (cutP vs).length then [] else (readA (cutP vs) 0 N).getD []) := by
      conv => lhs; unfold valsO
      rw [if_neg hw]
    cases hr : readA (cutP vs) 0 N with
    | none =>
      exfalso
      apply hne
      rw [e, hr]
      split <;> rfl
    | some l =>
      have el : valsO N vs = l := by
        rw [e, hr] at hne ⊢
        split
        · rename_i hc
          rw [if_pos hc] at hne
          exact absurd rfl hne
        · rfl
      obtain ⟨h1, h2⟩ := readA_out (cutP vs) N 0 l hr
      rw [el] at hkl hsp ⊢
      exact vals_back N l k hk (by omega) h1 hN (fun j n s hn hs => ⟨_, h2 j n s hn hs⟩) (fun i hi => sp_at hkl (by omega) hsp (by omega))
end Go.Proofs.YtlhdapckenjigaaGreatDoor.S
namespace Go.Proofs.YtlhdapckenjigaaGreatDoor.S
open Go.RowKit
open Go.Proofs.YtlhdapckenjigaaGreatDoor.L (T5 V)
open Go.Proofs.YtlhdapckenjigaaGreatDoor.Z (valsS)
set_option maxRecDepth 100000

theorem least_spec (l : List ByteArray) : ∀ (f n : Nat), 1 ≤ f → n + f = l.length + 1 → n ≤ leastN l f n ∧ leastN l f n ≤ l.length ∧ spL (l.take (leastN l f n)) = spL l ∧ ∀ j, n ≤ j → j < leastN l f n → spL (l.take j) ≠ spL l
  | 0, n, h, _ => by omega
  | f + 1, n, _, h => by
    unfold leastN
    split
    · rename_i hs
      exact ⟨Nat.le_refl _, by omega, hs, fun j h1 h2 => by omega⟩
    · rename_i hs
      have hf : 1 ≤ f := by
        rcases Nat.eq_zero_or_pos f with h0 | h0
        · exfalso
          apply hs
          rw [List.take_of_length_le (by omega)]
        · exact h0
      obtain ⟨a, b, c, d⟩ := least_spec l f (n + 1) hf (by omega)
      refine ⟨by omega, b, c, fun j h1 h2 => ?_⟩
      rcases Nat.eq_or_lt_of_le h1 with h3 | h3
      · rw [← h3]; exact hs
      · exact d j h3 h2
theorem lgs_four (name : ByteArray) : (P.lgs name).length ≤ 4 := by
  unfold P.lgs
  repeat' split
  all_goals decide
theorem valsO_len {N : List ByteArray} {vs : List V} (h : valsO N vs ≠ []) : (valsO N vs).length = N.length := by
  unfold valsO at h ⊢
  split
  · exact List.length_replicate
  · rename_i hw
    rw [if_neg hw] at h
    split
    · rename_i hc
      rw [if_pos hc] at h
      exact absurd rfl h
    · rename_i hc
      rw [if_neg hc] at h
      cases hr : readA (cutP vs) 0 N with
      | none => rw [hr] at h; exact absurd rfl h
      | some l => exact (readA_out _ N 0 l hr).1
/-- What a shorthand was expanded to: its names, and what is joined of its values is expanded to it again. -/
theorem exp_back (name : ByteArray) (vs : List V) (imp : Bool) (h2 : 2 ≤ (expO name vs imp).length) :
    (expO name vs imp).map (·.n) = P.lgs name ∧ ∃ s, joinO name ((expO name vs imp).map (·.v)) = some s ∧ expO name (valsS s) imp = expO name vs imp := by
  have hN : lghS name = P.lgs name := by
    by_cases hp : 0 ≤ P.plc name
    · exfalso
      unfold expO at h2
      rw [show lghS name = [name] from if_pos hp, List.length_map, List.length_zip] at h2
      have : min (valsO [name] vs).length 1 ≤ 1 := Nat.min_le_right _ _
      simp only [List.length_cons, List.length_nil] at h2
      omega
    · exact if_neg hp
  have h4 := lgs_four name
  have hl2 : 2 ≤ (valsO (P.lgs name) vs).length := by
    unfold expO at h2
    rw [hN, List.length_map, List.length_zip] at h2
    omega
  have hne : valsO (P.lgs name) vs ≠ [] := by intro h; rw [h] at hl2; simp at hl2
  have hlen := valsO_len hne
  have e1 : (expO name vs imp).map (·.n) = P.lgs name := by
    unfold expO
    rw [hN, List.map_map]
    exact List.map_snd_zip (by omega)
  have e2 : (expO name vs imp).map (·.v) = valsO (P.lgs name) vs := by
    unfold expO
    rw [hN, List.map_map]
    exact List.map_fst_zip (by omega)
  obtain ⟨a, b, c, d⟩ := least_spec (valsO (P.lgs name) vs) (valsO (P.lgs name) vs).length 1 (by omega) (by omega)
  refine ⟨e1, _, by rw [e2]; unfold joinO; rw [if_neg (by omega)], ?_⟩
  have hb := valsO_back (P.lgs name) vs _ h4 hne a b c d
  unfold expO
  rw [hN, hb]
end Go.Proofs.YtlhdapckenjigaaGreatDoor.S
namespace Go.Proofs.YtlhdapckenjigaaGreatDoor.S
open Go.RowKit
open Go.Proofs.YtlhdapckenjigaaGreatDoor.L (T5 V)
open Go.Proofs.YtlhdapckenjigaaGreatDoor.Z (valsS toT5 okS runes_asc)
set_option maxRecDepth 100000

theorem joinT_mem : ∀ (l : List Tok) (t : Tok), t ∈ joinT l → t = plainTok 13 [] ∨ t ∈ l
  | [], t, h => by cases h
  | [a], t, h => .inr h
  | a :: b :: r, t, h => by
    have h : t ∈ a :: plainTok 13 [] :: joinT (b :: r) := h
    rcases List.mem_cons.1 h with rfl | h
    · exact .inr (by simp)
    rcases List.mem_cons.1 h with rfl | h
    · exact .inl rfl
    rcases joinT_mem (b :: r) t h with h | h
    · exact .inl h
    · exact .inr (List.mem_cons_of_mem _ h)
theorem joinT_len : ∀ (l : List Tok), (joinT l).length ≤ 2 * l.length
  | [] => by decide
  | [a] => by show 1 ≤ 2 * 1; decide
  | a :: b :: r => by
    have ih := joinT_len (b :: r)
    show (joinT (b :: r)).length + 1 + 1 ≤ 2 * ((b :: r).length + 1)
    omega
theorem joinS_size : ∀ (l : List ByteArray), l ≠ [] → (∀ s ∈ l, s.size ≤ 1000) → (joinS l).size ≤ l.length * 1001
  | [], h, _ => absurd rfl h
  | [s], _, h => by
    rw [join_one1]
    have := h s (by simp)
    show s.size ≤ 1 * 1001
    omega
  | s :: t :: r, _, h => by
    have ih := joinS_size (t :: r) (by simp) (fun x hx => h x (List.mem_cons_of_mem _ hx))
    have h1 := h s (by simp)
    rw [join_two, ByteArray.size_append, ByteArray.size_append]
    have h2 : (⟨#[32]⟩ : ByteArray).size = 1 := rfl
    rw [h2, List.length_cons]
    omega
theorem join_fits (l : List ByteArray) (hne : l ≠ []) (h4 : l.length ≤ 4) (h : ∀ s ∈ l, ∃ a t, s = strOfNums a ∧ One1 a t) (ho : ∀ s ∈ l, okS s = true) :
    (joinS l).size ≤ 65536 ∧ (toks (runesZ (joinS l))).length ≤ 100000 ∧ Y.V.most (valsS (joinS l)) ∧ ∀ y ∈ valsS (joinS l), y.tok.tx.size ≤ 100000 ∧ y.tok.un.size ≤ 100000 := by
  have hsz := joinS_size l hne (fun s hs => by
    have := ho s hs
    unfold Z.okS at this
    rw [Bool.and_eq_true, Bool.and_eq_true] at this
    exact of_decide_eq_true this.1.1)
  obtain ⟨L, rfl, hall⟩ := told_row l h
  have hL : L ≠ [] := by intro hz; exact hne (by rw [hz]; rfl)
  have hv : valsS (joinS (L.map fun p => strOfNums p.1)) = (joinT (L.map (·.2))).map vT := by rw [join_nums L hL, vals_join L hL hall]
  have ht : toks (runesZ (joinS (L.map fun p => strOfNums p.1))) = joinT (L.map (·.2)) := by rw [join_nums L hL, runes_asc (joinL_asc L hall), toks_join L hL hall]
  have hjl := joinT_len (L.map (·.2))
  rw [List.length_map] at hjl h4 hsz
  have hm : ∀ y ∈ (joinT (L.map (·.2))).map vT, y.kids = [] ∧ y.tok.tx.size ≤ 100000 ∧ y.tok.un.size ≤ 100000 := by
    intro y hy
    obtain ⟨t, ht, rfl⟩ := List.mem_map.1 hy
    rcases joinT_mem _ t ht with rfl | h
    · exact ⟨rfl, by decide, by decide⟩
    · obtain ⟨p, hp, rfl⟩ := List.mem_map.1 h
      have h1 := (Z.okS_out (ho (strOfNums p.1) (List.mem_map.2 ⟨p, hp, rfl⟩))).2.2.2
      rw [vals_one1 (hall p hp)] at h1
      exact ⟨rfl, h1 (vT p.2) (by simp)⟩
  rw [hv, ht]
  refine ⟨by omega, by omega, .mk _ ?_ (fun y hy => ?_), fun y hy => (hm y hy).2⟩
  · rw [List.length_map]
    exact Nat.le_trans (show (joinT (L.map (·.2))).length ≤ 8 by omega) (by decide)
  · rw [(hm y hy).1]
    exact .mk _ (by decide) (fun y hy => by cases hy)
end Go.Proofs.YtlhdapckenjigaaGreatDoor.S
namespace Go.Proofs.YtlhdapckenjigaaGreatDoor.S
open Go.RowKit
open Go.Proofs.YtlhdapckenjigaaGreatDoor.L (T5 V)
open Go.Proofs.YtlhdapckenjigaaGreatDoor.Z (valsS toT5 okS runes_asc)
set_option maxRecDepth 100000

theorem wide_ok : okS wInh = true ∧ okS wIni = true ∧ okS wUns = true := ⟨by kernel_rfl, by kernel_rfl, by kernel_rfl⟩
/-- Each value that is told is one token, and short. -/
theorem vals_told {N : List ByteArray} {vs : List V} {s : ByteArray} (h : s ∈ valsO N vs) : (∃ a t, s = strOfNums a ∧ One1 a t) ∧ okS s = true := by
  unfold valsO at h
  split at h
  · rename_i hw
    have h1 := (List.mem_replicate.1 h).2
    rcases wide_three hw with e | e | e <;> rw [h1, e]
    · exact ⟨words_one wInh (by kernel_rfl), wide_ok.1⟩
    · exact ⟨words_one wIni (by kernel_rfl), wide_ok.2.1⟩
    · exact ⟨words_one wUns (by kernel_rfl), wide_ok.2.2⟩
  · split at h
    · cases h
    · cases hr : readA (cutP vs) 0 N with
      | none => rw [hr] at h; cases h
      | some l =>
        rw [hr] at h
        have h : s ∈ l := h
        obtain ⟨h1, h2⟩ := readA_out (cutP vs) N 0 l hr
        obtain ⟨j, hj⟩ := List.getElem?_of_mem h
        have hjl : j < l.length := by
          rcases Nat.lt_or_ge j l.length with h | h
          · exact h
          · rw [List.getElem?_eq_none h] at hj; cases hj
        have h3 := h2 j (N[j]'(by omega)) s (List.getElem?_eq_getElem (by omega)) hj
        exact ⟨told_one h3, (Z.back h3).1⟩
/-- Of a shorthand that was expanded: the names, the values' sizes, the joined text, its size, and what it is expanded to. -/
theorem exp_whole (name : ByteArray) (vs : List V) (imp : Bool) (h2 : 2 ≤ (expO name vs imp).length) :
    (expO name vs imp).map (·.n) = P.lgs name ∧ (∀ x ∈ (expO name vs imp).map (·.v), x.size ≤ 1000) ∧ ∃ s, joinO name ((expO name vs imp).map (·.v)) = some s ∧ expO name (valsS s) imp = expO name vs imp ∧
      s.size ≤ 65536 ∧ (toks (runesZ s)).length ≤ 100000 ∧ Y.V.most (valsS s) ∧ ∀ y ∈ valsS s, y.tok.tx.size ≤ 100000 ∧ y.tok.un.size ≤ 100000 := by
  obtain ⟨e1, s, hs, he⟩ := exp_back name vs imp h2
  have hin : ∀ x ∈ (expO name vs imp).map (·.v), x ∈ valsO (lghS name) vs := by
    intro x hx
    unfold expO at hx
    rw [List.map_map] at hx
    obtain ⟨p, hp, rfl⟩ := List.mem_map.1 hx
    exact (List.of_mem_zip (a := p.1) (b := p.2) hp).1
  refine ⟨e1, fun x hx => ?_, s, hs, he, ?_⟩
  · have := (vals_told (hin x hx)).2
    unfold Z.okS at this
    rw [Bool.and_eq_true, Bool.and_eq_true] at this
    exact of_decide_eq_true this.1.1
  · have h4 := lgs_four name
    have hlen : ((expO name vs imp).map (·.v)).length = (P.lgs name).length := by
      rw [← e1, List.length_map, List.length_map]
    unfold joinO at hs
    split at hs
    · cases hs
    · cases hs
      have hl2 : 2 ≤ ((expO name vs imp).map (·.v)).length := by rw [List.length_map]; exact h2
      generalize (expO name vs imp).map (·.v) = l at *
      obtain ⟨a, b, _, _⟩ := least_spec l l.length 1 (by omega) (by omega)
      have ht : (l.take (leastN l l.length 1)).length = leastN l l.length 1 := by rw [List.length_take]; omega
      exact join_fits _ (by intro h; rw [h] at ht; simp at ht; omega) (by omega) (fun s hs => (vals_told (hin s (List.mem_of_mem_take hs))).1) (fun s hs => (vals_told (hin s (List.mem_of_mem_take hs))).2)
end Go.Proofs.YtlhdapckenjigaaGreatDoor.S
namespace Go.Proofs.YtlhdapckenjigaaGreatDoor.S
open Go.RowKit
open Go.Proofs.YtlhdapckenjigaaGreatDoor.L (T5 V VsAt t5Cells vCells cell_of_heap hid_mk cellAt set_at)
open Go.Proofs.YtlhdapckenjigaaGreatDoor.P (Bx StrAt)
open Go.Proofs.YtlhdapckenjigaaGreatDoor.Z (valsS)
set_option maxRecDepth 100000

/-- Two rows of texts of one's own, in blocks apart. -/
def TwoS (W : World) (v4 v5 : Value) (l4 l5 : List ByteArray) (w : World) : Prop := w.ownsRow W.heap.size 9 1 v4 l4.length (l4.map Value.string) ∧ w.ownsRow W.heap.size 9 1 v5 l5.length (l5.map Value.string) ∧ (∀ k, v4.ownBlock = some k → v5.ownBlock ≠ some k) ∧ Below W.heap.size W w
theorem own_sl {w : World} {B n : Nat} {e : TypeId} {sz : Nat} {v : Value} {xs : List Value} (h : w.ownsRow B e sz v n xs) : ∃ a c, v = .slice a n c := by
  rcases h.2 with ⟨rfl, e0⟩ | ⟨g, cap, cur, rfl, _⟩
  · exact ⟨none, 0, by rw [e0]⟩
  · exact ⟨_, _, rfl⟩

theorem own_far {w w' : World} {B n : Nat} {v : Value} {xs : List Value} {r : Option Nat} (h : w.ownsRow B 9 1 v n xs) (hg : w.grownBy w' r) (hne : ∀ k, v.ownBlock = some k → r ≠ some k) : w'.ownsRow B 9 1 v n xs := by
  refine h.kept hg ?_
  cases hv : v.ownBlock with
  | none => exact .inl rfl
  | some k => exact .inr (fun e => hne k hv e.symm)
theorem two_step {W w5 wa w6 wb w7 : World} {v4 v5 : Value} {i gg gh cap : Nat} {m4 m5 : List Value} {xv : ByteArray} (o4 : w5.ownsRow W.heap.size 9 1 v4 i m4) (o5 : w5.ownsRow W.heap.size 9 1 v5 i m5) (hne : ∀ k, v4.ownBlock = some k → v5.ownBlock ≠ some k) (hB : Below W.heap.size W w5)
    (ha : Below w5.heap.size w5 wa) (h4 : w6.ownsRow W.heap.size 9 1 (.slice (some ⟨gg, 0, none⟩) (i + 1) cap) (i + 1) (m4 ++ [.string xv])) (hg4 : wa.grownBy w6 v4.ownBlock) (ha4 : v4.ownBlock = some gg ∨ gg = wa.heap.size)
    (hb : Below w6.heap.size w6 wb) (hg5 : wb.grownBy w7 v5.ownBlock) (ha5 : v5.ownBlock = some gh ∨ gh = wb.heap.size) :
    w7.ownsRow W.heap.size 9 1 (.slice (some ⟨gg, 0, none⟩) (i + 1) cap) (i + 1) (m4 ++ [.string xv]) ∧ gg ≠ gh ∧ Below W.heap.size W w7 := by
  have s5 := hB.size
  have sa := ha.size
  have s6 := hg4.size
  have sb := hb.size
  have g6 := (h4.lt gg rfl).2
  have k5 : ∀ k, v5.ownBlock = some k → k < w5.heap.size ∧ W.heap.size ≤ k := fun k e => ⟨(o5.lt k e).2, (o5.lt k e).1⟩
  have k4 : ∀ k, v4.ownBlock = some k → k < w5.heap.size ∧ W.heap.size ≤ k := fun k e => ⟨(o4.lt k e).2, (o4.lt k e).1⟩
  have hgn : ∀ k, v5.ownBlock = some k → k ≠ gg := fun k e e2 => by
    subst e2
    rcases ha4 with h | h
    · exact hne k h e
    · have := (k5 k e).1
      omega
  refine ⟨own_far (P.own_below h4 hb) hg5 (fun k e e2 => hgn k e2 (by cases e; rfl)), fun e => ?_, ((hB.trans (ha.mono s5)).grown hg4 (by omega) (fun k e => (k4 k e).2)).trans (hb.mono (by omega)) |>.grown hg5 (by omega) (fun k e => (k5 k e).2)⟩
  rcases ha5 with h | h
  · exact hgn gh h e.symm
  · omega
theorem two_lits (w : World) (o1 o2 : Obj) : ((w.alloc o1).alloc o2).drew.heap[w.heap.size]? = some o1 ∧ ((w.alloc o1).alloc o2).drew.heap[w.heap.size + 1]? = some o2 := by
  have h1 := heap_alloc_new w o1
  have h2 := heap_alloc_new (w.alloc o1) o2
  rw [World.size_alloc] at h2
  exact ⟨(Below.heap_alloc (w.alloc o1) o2 w.heap.size (by simp)).trans h1, h2⟩
theorem lit_far {w wa w6 : World} {p : Nat} {o : Obj} {v4 : Value} {B n : Nat} {xs : List Value} (o4 : w.ownsRow B 9 1 v4 n xs) (hp : w.heap.size ≤ p) (hl : wa.heap[p]? = some o) (hg : wa.grownBy w6 v4.ownBlock) : w6.heap[p]? = some o := by
  rw [hg.block p (Array.getElem?_eq_some_iff.1 hl).1 (fun e => by have := (o4.lt p e.symm).2; omega)]
  exact hl
theorem TwoS.mk {W w7 : World} {i gg gh cap cbp : Nat} {l4 l5 : List ByteArray} {m4 m5 : List Value} {xv xn : ByteArray} (h4 : w7.ownsRow W.heap.size 9 1 (.slice (some ⟨gg, 0, none⟩) (i + 1) cap) (i + 1) (m4 ++ [.string xv])) (h5 : w7.ownsRow W.heap.size 9 1 (.slice (some ⟨gh, 0, none⟩) (i + 1) cbp) (i + 1) (m5 ++ [.string xn])) (hne : gg ≠ gh) (hB : Below W.heap.size W w7) (e : l4.length = i ∧ l5.length = i) (em4 : m4 = l4.map Value.string) (em5 : m5 = l5.map Value.string) :
    TwoS W (.slice (some ⟨gg, 0, none⟩) (i + 1) cap) (.slice (some ⟨gh, 0, none⟩) (i + 1) cbp) (l4 ++ [xv]) (l5 ++ [xn]) w7 := by
  refine ⟨?_, ?_, fun k h1 h2 => ?_, hB⟩
  · rw [List.length_append, List.map_append, e.1, ← em4]
    exact h4
  · rw [List.length_append, List.map_append, e.2, ← em5]
    exact h5
  · cases h1
    cases h2
    exact hne rfl
theorem box_far {w5 wa w6 : World} {pb : Nat} {t : TypeId} {cs : Array Value} {r : Option Nat} (h : Bx w5 pb t cs) (hb : Below w5.heap.size w5 wa) (hg : wa.grownBy w6 r) (hne : ∀ k, r = some k → k < pb) : Bx w6 pb t cs := (h.below hb).kept hg (fun e => by have := hne pb e.symm; omega)
set_option maxHeartbeats 8000000 in
theorem back_walk {P0 : Nat → Prop} {W : World} {v : Value} {vs : List V} (name : ByteArray) (imp : Bool) (hv : VsAt P0 W v vs) (hm : Y.V.most vs) (hz : ∀ y ∈ vs, y.tok.tx.size ≤ 140737488351232 ∧ y.tok.un.size ≤ 140737488351232) (hok : Okk W) :
    Calls Tryz.prog 5 #[.agg #[.string name, v, .bool imp]] W fun e w' => e = .returned (.bool true) ∧ Below W.heap.size W w' := by
  obtain ⟨W0, hW0⟩ : ∃ W0, W0 = W.alloc (.cells #[.string name, v, .bool imp] 26) := ⟨_, rfl⟩
  have hB0 : Below W.heap.size W W0 := by rw [hW0]; exact (Below.refl _ _).alloc (Nat.le_refl _) _
  have hbx : Bx W0 W.heap.size 26 #[.string name, v, .bool imp] := by rw [hW0]; exact Bx.new W 26 _
  have HLV : Hid (∀ w, Below W.heap.size W w → Calls Tryz.prog 8 #[] w fun e w' => e = .returned (.bool true) ∧ Below W.heap.size W w') := fun w hb => (lives_any w (hok.keep hb)).mono fun _ _ k => ⟨k.1, hb.trans (k.2.mono hb.size)⟩
  have hgr := Z.great_any (hv.keep hB0) hz
  have HX : Hid (∀ w, Below W.heap.size W w → (∀ y ∈ vs, y.tok.tx.size + y.tok.un.size ≤ 500) → Calls Tryz.prog 11 #[.agg #[.string name, v, .bool imp]] w fun e w' => ∃ a n c, e = .returned (.slice a n c) ∧ n = (expO name vs imp).length ∧ LgAt 43 w' (.slice a n c) (expO name vs imp) ∧ Below w.heap.size w w') := fun w hb hs => expand_any name imp (hv.keep hb) hm (fun y hy => by have := hs y hy; omega) (hok.keep hb).ok (hok.keep hb).sid
  have HOK : Hid (∀ w, Below W.heap.size W w → Okk w) := fun w hb => hok.keep hb
  have HWH := hid_mk (exp_whole name vs imp)
  obtain ⟨ua, uc, rfl, _, _⟩ := hv.slice
  generalize hdl : vs.length = dl at *
  clear hdl
  have HB0 := hid_mk hB0
  have HBX := hid_mk hbx
  have HW0 := hid_mk hW0
  have b0 := hbx.cell 0 _ rfl
  have b1 := hbx.cell 1 _ rfl
  clear hv hm hz hok hB0 hbx hW0
  by_cases h500 : 500 < name.size
  · have z5 : decide ((500 : Int) < (name.size : Int)) = true := decide_eq_true (by omega)
    have hlv := HLV.out _ HB0.out
    go_enter Tryz.func5, Tryz.ntmps5
    go_upto_region 1 with (fail)
    rw [← HW0.out]
    go_wp2_with (go_at_call 8; fail)
    refine hlv.mono ?_
    rintro e w1 ⟨rfl, hb1⟩
    have HB1 := hid_mk hb1
    clear hlv hb1
    go_wp2
    go_ret
    exact ⟨rfl, HB1.out⟩
  have z5 : decide ((500 : Int) < (name.size : Int)) = false := decide_eq_false (by omega)
  go_enter Tryz.func5, Tryz.ntmps5
  go_upto_region 1 with (fail)
  rw [← HW0.out]
  go_wp2_with (go_at_call 9; fail)
  refine hgr.mono ?_
  rintro e w1 ⟨⟨gb, rfl, hgb⟩, hb1⟩
  have HB1 : Hid (Below W.heap.size W w1) := HB0.out.trans (hb1.mono HB0.out.size)
  have HBX1 : Hid (Bx w1 W.heap.size 26 #[.string name, .slice ua dl uc, .bool imp]) := HBX.out.below hb1
  have HGB := hid_mk hgb
  clear hgr hb1 HBX b0 b1 hgb
  cases gb with
  | true =>
    have hlv := HLV.out _ HB1.out
    go_wp2_with (go_at_call 8; fail)
    refine hlv.mono ?_
    rintro e w2 ⟨rfl, hb2⟩
    have HB2 := hid_mk hb2
    clear hlv hb2
    go_wp2
    go_ret
    exact ⟨rfl, HB2.out⟩
  | false =>
  have hx := HX.out w1 HB1.out (HGB.out rfl)
  have b0 := HBX1.out.cell 0 _ rfl
  have b1 := HBX1.out.cell 1 _ rfl
  have b2 := HBX1.out.cell 2 _ rfl
  clear HX HGB
  obtain ⟨R, hR⟩ : ∃ R, R = expO name vs imp := ⟨_, rfl⟩
  rw [← hR] at hx
  have HR := hid_mk hR
  clear hR
  go_wp2_with (go_at_call 11; fail)
  refine hx.mono ?_
  rintro e w2 ⟨la, n, lc, rfl, hn, hlg, hb2⟩
  have HB2 : Hid (Below W.heap.size W w2) := HB1.out.trans (hb2.mono HB1.out.size)
  have HBX2 : Hid (Bx w2 W.heap.size 26 #[.string name, .slice ua dl uc, .bool imp]) := HBX1.out.below hb2
  have HLG := hid_mk hlg
  have HN := hid_mk hn
  clear hx hlg hn hb2 HBX1 b0 b1 b2 HB1
  by_cases h2 : n < 2
  · have hd : decide ((n : Int) < 2) = true := decide_eq_true (by omega)
    have hlv := HLV.out _ HB2.out
    go_wp2_with (go_at_call 8; fail)
    refine hlv.mono ?_
    rintro e w3 ⟨rfl, hb3⟩
    have HB3 := hid_mk hb3
    clear hlv hb3
    go_wp2
    go_ret
    exact ⟨rfl, HB3.out⟩
  have hd : decide ((n : Int) < 2) = false := decide_eq_false (by omega)
  obtain ⟨e1, e2, s, e3, e4, e5, e6, e7, e8⟩ := HWH.out (by rw [← HR.out, ← HN.out]; omega)
  rw [← HR.out] at e1 e2 e3 e4
  have HE1 := hid_mk e1
  have HE2 := hid_mk e2
  have HE3 := hid_mk e3
  have HE4 := hid_mk e4
  have HE5 := hid_mk (And.intro e5 (And.intro e6 (And.intro e7 e8)))
  clear e1 e2 e3 e4 e5 e6 e7 e8 HWH
  have hn4 : n ≤ 4 := by rw [HN.out, HR.out]; exact exp_le name vs imp
  obtain ⟨la', lc', el, p1, p2, p3⟩ := HLG.out.form
  rw [← HN.out] at el p1 p3
  cases el
  have HC := hid_mk p3
  have HST : Hid (TwoS w2 (.slice none 0 0) (.slice none 0 0) [] [] w2) := ⟨World.ownsRow_nil _ _ _ _, World.ownsRow_nil _ _ _ _, (fun k h => by cases h), Below.refl _ _⟩
  clear p3
  go_wp2
  go_loopw [4, 5, 30] (fun a4 a5 a30 wr => ∃ i : Nat, i ≤ n ∧ a30 = .int .i64 (i : Int) ∧ Hid (TwoS w2 a4 a5 ((R.take i).map (·.v)) ((R.take i).map (·.n)) wr)) (fun _ _ a30 _ => n + 1 - (intOf a30).toNat)
  case atStart => exact ⟨0, Nat.zero_le _, rfl, HST.out⟩
  case round =>
    clear HST
    obtain ⟨i, hi, rfl, HJ⟩ := hrel
    by_cases hlt : i < n
    · have hd2 : decide ((i : Int) < (n : Int)) = true := decide_eq_true (by omega)
      obtain ⟨g, ea, hcell⟩ := HC.out (by omega)
      subst ea
      obtain ⟨x, hx⟩ : ∃ x, R[i]? = some x := ⟨_, List.getElem?_eq_getElem (by rw [← HN.out]; exact hlt)⟩
      obtain ⟨o4, o5, hne, hB⟩ := HJ.out
      obtain ⟨k0, k1, k2⟩ := hcell i x hx
      have j0 := (hB.cell (p := ⟨g, i * 3, none⟩) (P.lt_of_cell k0)).trans k0
      have j1 := (hB.cell (p := ⟨g, i * 3 + 1, none⟩) (P.lt_of_cell k1)).trans k1
      have j2 := (hB.cell (p := ⟨g, i * 3 + 2, none⟩) (P.lt_of_cell k2)).trans k2
      have HX4 : Hid ((R.take (i + 1)).map (·.v) = (R.take i).map (·.v) ++ [x.v]) := by
        show _ = _
        rw [take_snoc hx, List.map_append]
        rfl
      have HX5 : Hid ((R.take (i + 1)).map (·.n) = (R.take i).map (·.n) ++ [x.n]) := by
        show _ = _
        rw [take_snoc hx, List.map_append]
        rfl
      obtain ⟨l4, hl4⟩ : ∃ l4, l4 = (R.take i).map (·.v) := ⟨_, rfl⟩
      obtain ⟨l5, hl5⟩ : ∃ l5, l5 = (R.take i).map (·.n) := ⟨_, rfl⟩
      rw [← hl4] at o4 HX4
      rw [← hl5] at o5 HX5
      have hi5 : l4.length = i ∧ l5.length = i := by
        rw [hl4, hl5, List.length_map, List.length_map, List.length_take, ← HN.out]
        exact ⟨by omega, by omega⟩
      rw [hi5.1] at o4
      rw [hi5.2] at o5
      have HI5 := hid_mk hi5
      obtain ⟨m4, hm4⟩ : ∃ m4, m4 = l4.map Value.string := ⟨_, rfl⟩
      obtain ⟨m5, hm5⟩ : ∃ m5, m5 = l5.map Value.string := ⟨_, rfl⟩
      rw [← hm4] at o4
      rw [← hm5] at o5
      have HM4 := hid_mk hm4
      have HM5 := hid_mk hm5
      obtain ⟨a4, c4, rfl⟩ := own_sl o4
      obtain ⟨a5, c5, rfl⟩ := own_sl o5
      obtain ⟨xn, xv, xi⟩ := x
      simp only at j0 j1 j2 HX4 HX5
      obtain ⟨w5, hw5⟩ : ∃ w5, w5 = wr.alloc (.cells #[.string xn, .string xv, .bool xi] 43) := ⟨_, rfl⟩
      have HW5 := hid_mk hw5
      have hb5 : Below wr.heap.size wr w5 := by rw [hw5]; exact (Below.refl _ _).alloc (Nat.le_refl _) _
      have HBX5 : Hid (Bx w5 wr.heap.size 43 #[.string xn, .string xv, .bool xi]) := by rw [hw5]; exact Bx.new wr 43 _
      have HO4 : Hid (w5.ownsRow w2.heap.size 9 1 (.slice a4 i c4) i m4) := P.own_below o4 hb5
      have HO5 : Hid (w5.ownsRow w2.heap.size 9 1 (.slice a5 i c5) i m5) := P.own_below o5 hb5
      have HB5 : Hid (Below w2.heap.size w2 w5) := hB.trans (hb5.mono hB.size)
      have HNE := hid_mk hne
      have HLT : Hid (∀ k, (Value.slice a4 i c4).ownBlock = some k → k < wr.heap.size) := fun k e => (o4.lt k e).2
      clear hcell hx o4 o5 hne hB k0 k1 k2 hl4 hl5 hi5 hm4 hm5 hw5 hb5 HJ
      go_upto_region 10 with (fail)
      rw [← HW5.out]
      obtain ⟨pb, hpb⟩ : ∃ pb, pb = wr.heap.size := ⟨_, rfl⟩
      rw [← hpb] at HBX5 HLT ⊢
      clear hpb HW5 j0 j1 j2
      have f0 := HBX5.out.cell 0 _ rfl
      have f1 := HBX5.out.cell 1 _ rfl
      have hpl := HBX5.out.lt
      obtain ⟨i9, hi9, hy0, hy1, hy2⟩ := info_parts P.info9
      have hn63 : i + 1 ≤ maxLen := by unfold maxLen; omega
      have hsz5 := HB5.out.size
      have HA1 : Hid (Below w5.heap.size w5 ((w5.alloc (.cells #[.string xv] 9)).drew)) := ((Below.refl _ _).alloc (Nat.le_refl _) _).drew
      have HA2 : Hid (Below w5.heap.size w5 (((w5.alloc (.cells #[.string xv] 9)).alloc (.cells #[.string xn] 9)).drew)) := (((Below.refl _ _).alloc (Nat.le_refl _) _).alloc (by simp) _).drew
      have HA3 : Hid (Below w5.heap.size w5 (((w5.alloc (.cells #[.string xn] 9)).alloc (.cells #[.string xv] 9)).drew)) := (((Below.refl _ _).alloc (Nat.le_refl _) _).alloc (by simp) _).drew
      have HV1 : Hid (((w5.alloc (.cells #[.string xv] 9)).drew).heap[w5.heap.size]? = some (.cells #[.string xv] 9 (0, 0))) := heap_alloc_new w5 _
      have q23 := fun o1 o2 : Obj => two_lits w5 o1 o2
      have HV2 : Hid ((((w5.alloc (.cells #[.string xv] 9)).alloc (.cells #[.string xn] 9)).drew).heap[w5.heap.size]? = some (.cells #[.string xv] 9 (0, 0))) := (q23 _ _).1
      have HN2 : Hid ((((w5.alloc (.cells #[.string xv] 9)).alloc (.cells #[.string xn] 9)).drew).heap[w5.heap.size + 1]? = some (.cells #[.string xn] 9 (0, 0))) := (q23 _ _).2
      have HN3 : Hid ((((w5.alloc (.cells #[.string xn] 9)).alloc (.cells #[.string xv] 9)).drew).heap[w5.heap.size]? = some (.cells #[.string xn] 9 (0, 0))) := (q23 _ _).1
      have HV3 : Hid ((((w5.alloc (.cells #[.string xn] 9)).alloc (.cells #[.string xv] 9)).drew).heap[w5.heap.size + 1]? = some (.cells #[.string xv] 9 (0, 0))) := (q23 _ _).2
      clear q23
      go_region_law
        ((first
          | (refine step_append_lies (w := (w5.alloc (.cells #[.string xv] 9)).drew) (by rfl) _ _ 36 (by rfl) w2.heap.size 9 i9 _ 1 16 Tryz.underlying36 hi9 hy0 hy1 hy2 (by rfl) (by decide) (.slice a4 i c4) i m4 (by rfl) (P.own_below HO4.out HA1.out) ⟨w5.heap.size, 0, none⟩ 1 1 [.string xv] (by rfl) (by rfl) (World.news_of_block (cs := #[.string xv]) (t := 9) (fr := (0, 0)) HV1.out) (by simp [Value.oneCell']) (by omega) hn63 (by omega) (Nat.le_trans hsz5 HA1.out.size) _ rfl ?_; intro gg cap w6 hown6 hgr6 hga6 _; have HSTEP : Hid (∀ wb w7 gh, Below w6.heap.size w6 wb → wb.grownBy w7 (Value.slice a5 i c5).ownBlock → ((Value.slice a5 i c5).ownBlock = some gh ∨ gh = wb.heap.size) → w7.ownsRow w2.heap.size 9 1 (.slice (some ⟨gg, 0, none⟩) (i + 1) cap) (i + 1) (m4 ++ [.string xv]) ∧ gg ≠ gh ∧ Below w2.heap.size w2 w7) := fun wb w7 gh h1 h2 h3 => two_step HO4.out HO5.out HNE.out HB5.out HA1.out hown6 hgr6 hga6 h1 h2 h3; have HO56 : Hid (w6.ownsRow w2.heap.size 9 1 (.slice a5 i c5) i m5) := own_far (P.own_below HO5.out HA1.out) hgr6 (fun k e e2 => HNE.out k e2 e); have hbx6 := box_far HBX5.out HA1.out hgr6 HLT.out; have e0 := hbx6.cell 0 _ rfl; have HS6 : Hid (w2.heap.size ≤ w6.heap.size) := Nat.le_trans (Nat.le_trans hsz5 HA1.out.size) hgr6.size; clear hown6 hgr6 hga6 hbx6)
          | (refine step_append_lies (w := ((w5.alloc (.cells #[.string xv] 9)).alloc (.cells #[.string xn] 9)).drew) (by rfl) _ _ 36 (by rfl) w2.heap.size 9 i9 _ 1 16 Tryz.underlying36 hi9 hy0 hy1 hy2 (by rfl) (by decide) (.slice a4 i c4) i m4 (by rfl) (P.own_below HO4.out HA2.out) ⟨w5.heap.size, 0, none⟩ 1 1 [.string xv] (by rfl) (by rfl) (World.news_of_block (cs := #[.string xv]) (t := 9) (fr := (0, 0)) HV2.out) (by simp [Value.oneCell']) (by omega) hn63 (by omega) (Nat.le_trans hsz5 HA2.out.size) _ rfl ?_; intro gg cap w6 hown6 hgr6 hga6 _; have HSTEP : Hid (∀ wb w7 gh, Below w6.heap.size w6 wb → wb.grownBy w7 (Value.slice a5 i c5).ownBlock → ((Value.slice a5 i c5).ownBlock = some gh ∨ gh = wb.heap.size) → w7.ownsRow w2.heap.size 9 1 (.slice (some ⟨gg, 0, none⟩) (i + 1) cap) (i + 1) (m4 ++ [.string xv]) ∧ gg ≠ gh ∧ Below w2.heap.size w2 w7) := fun wb w7 gh h1 h2 h3 => two_step HO4.out HO5.out HNE.out HB5.out HA2.out hown6 hgr6 hga6 h1 h2 h3; have HO56 : Hid (w6.ownsRow w2.heap.size 9 1 (.slice a5 i c5) i m5) := own_far (P.own_below HO5.out HA2.out) hgr6 (fun k e e2 => HNE.out k e2 e); have hbx6 := box_far HBX5.out HA2.out hgr6 HLT.out; have e0 := hbx6.cell 0 _ rfl; have HS6 : Hid (w2.heap.size ≤ w6.heap.size) := Nat.le_trans (Nat.le_trans hsz5 HA2.out.size) hgr6.size; have HLN : Hid (w6.heap[w5.heap.size + 1]? = some (.cells #[.string xn] 9 (0, 0))) := lit_far HO4.out (by omega) HN2.out hgr6; clear hown6 hgr6 hga6 hbx6)
          | (refine step_append_lies (w := ((w5.alloc (.cells #[.string xn] 9)).alloc (.cells #[.string xv] 9)).drew) (by rfl) _ _ 36 (by rfl) w2.heap.size 9 i9 _ 1 16 Tryz.underlying36 hi9 hy0 hy1 hy2 (by rfl) (by decide) (.slice a4 i c4) i m4 (by rfl) (P.own_below HO4.out HA3.out) ⟨w5.heap.size + 1, 0, none⟩ 1 1 [.string xv] (by rfl) (by rfl) (World.news_of_block (cs := #[.string xv]) (t := 9) (fr := (0, 0)) HV3.out) (by simp [Value.oneCell']) (by omega) hn63 (by omega) (Nat.le_trans hsz5 HA3.out.size) _ rfl ?_; intro gg cap w6 hown6 hgr6 hga6 _; have HSTEP : Hid (∀ wb w7 gh, Below w6.heap.size w6 wb → wb.grownBy w7 (Value.slice a5 i c5).ownBlock → ((Value.slice a5 i c5).ownBlock = some gh ∨ gh = wb.heap.size) → w7.ownsRow w2.heap.size 9 1 (.slice (some ⟨gg, 0, none⟩) (i + 1) cap) (i + 1) (m4 ++ [.string xv]) ∧ gg ≠ gh ∧ Below w2.heap.size w2 w7) := fun wb w7 gh h1 h2 h3 => two_step HO4.out HO5.out HNE.out HB5.out HA3.out hown6 hgr6 hga6 h1 h2 h3; have HO56 : Hid (w6.ownsRow w2.heap.size 9 1 (.slice a5 i c5) i m5) := own_far (P.own_below HO5.out HA3.out) hgr6 (fun k e e2 => HNE.out k e2 e); have hbx6 := box_far HBX5.out HA3.out hgr6 HLT.out; have e0 := hbx6.cell 0 _ rfl; have HS6 : Hid (w2.heap.size ≤ w6.heap.size) := Nat.le_trans (Nat.le_trans hsz5 HA3.out.size) hgr6.size; have HLN : Hid (w6.heap[w5.heap.size]? = some (.cells #[.string xn] 9 (0, 0))) := lit_far HO4.out (by omega) HN3.out hgr6; clear hown6 hgr6 hga6 hbx6)
          | (refine step_append_lies (w := w6.alloc (.cells #[.string xn] 9)) (by rfl) _ _ 36 (by rfl) w2.heap.size 9 i9 _ 1 16 Tryz.underlying36 hi9 hy0 hy1 hy2 (by rfl) (by decide) (.slice a5 i c5) i m5 (by rfl) (P.own_below HO56.out ((Below.refl _ _).alloc (Nat.le_refl _) _)) ⟨w6.heap.size, 0, none⟩ 1 1 [.string xn] (by rfl) (by rfl) (World.news_of_block (cs := #[.string xn]) (t := 9) (fr := (0, 0)) (heap_alloc_new w6 _)) (by simp [Value.oneCell']) (by omega) hn63 (by omega) (by have := HS6.out; simp; omega) _ rfl ?_; intro gh cbp w7 hown7 hgr7 hga7 _; have HF7 := hid_mk (HSTEP.out _ w7 gh ((Below.refl _ _).alloc (Nat.le_refl _) _) hgr7 hga7); have HO7 := hid_mk hown7; clear hown7 hgr7 hga7)
          | (refine step_append_lies (w := w6) (by rfl) _ _ 36 (by rfl) w2.heap.size 9 i9 _ 1 16 Tryz.underlying36 hi9 hy0 hy1 hy2 (by rfl) (by decide) (.slice a5 i c5) i m5 (by rfl) HO56.out ⟨w5.heap.size + 1, 0, none⟩ 1 1 [.string xn] (by rfl) (by rfl) (World.news_of_block (cs := #[.string xn]) (t := 9) (fr := (0, 0)) HLN.out) (by simp [Value.oneCell']) (by omega) hn63 (by omega) HS6.out _ rfl ?_; intro gh cbp w7 hown7 hgr7 hga7 _; have HF7 := hid_mk (HSTEP.out _ w7 gh (Below.refl _ _) hgr7 hga7); have HO7 := hid_mk hown7; clear hown7 hgr7 hga7)
          | (refine step_append_lies (w := w6) (by rfl) _ _ 36 (by rfl) w2.heap.size 9 i9 _ 1 16 Tryz.underlying36 hi9 hy0 hy1 hy2 (by rfl) (by decide) (.slice a5 i c5) i m5 (by rfl) HO56.out ⟨w5.heap.size, 0, none⟩ 1 1 [.string xn] (by rfl) (by rfl) (World.news_of_block (cs := #[.string xn]) (t := 9) (fr := (0, 0)) HLN.out) (by simp [Value.oneCell']) (by omega) hn63 (by omega) HS6.out _ rfl ?_; intro gh cbp w7 hown7 hgr7 hga7 _; have HF7 := hid_mk (HSTEP.out _ w7 gh (Below.refl _ _) hgr7 hga7); have HO7 := hid_mk hown7; clear hown7 hgr7 hga7)))
      all_goals go_wp2
      all_goals
        refine ⟨⟨i + 1, by omega, by simp, ?_⟩, ?_⟩
        · show TwoS _ _ _ _ _ _
          rw [HX4.out, HX5.out]
          exact TwoS.mk HF7.out.1 HO7.out HF7.out.2.1 HF7.out.2.2 HI5.out HM4.out HM5.out
        · simp only [intOf]
          omega
    · have hd2 : decide ((i : Int) < (n : Int)) = false := decide_eq_false (by omega)
      have hin : i = n := by omega
      obtain ⟨o4, o5, _, hB⟩ := HJ.out
      have htk : R.take i = R := List.take_of_length_le (by rw [← HN.out]; omega)
      rw [htk] at o4 o5
      rw [HE1.out] at o5
      have HBX3 : Hid (Bx wr W.heap.size 26 #[.string name, .slice ua dl uc, .bool imp]) := HBX2.out.below hB
      have HB3 : Hid (Below W.heap.size W wr) := HB2.out.trans (hB.mono HB2.out.size)
      have hs4 : StrAt wr u4 (R.map (·.v)) := StrAt.of o4
      have hs5 : StrAt wr u5 (P.lgs name) := StrAt.of o5
      obtain ⟨a4, c4, rfl, _, _, _⟩ := hs4.form
      obtain ⟨a5, c5, rfl, _, _, _⟩ := hs5.form
      have HS4 := hid_mk hs4
      have HS5 := hid_mk hs5
      have HLG3 : Hid (LgAt 43 wr (.slice la n lc) R) := HLG.out.keep hB
      have hln := P.longs_any name wr
      have b0 := HBX3.out.cell 0 _ rfl
      have HL4 : Hid ((R.map (·.v)).length = n) := by show _ = _; rw [List.length_map, ← HN.out]
      obtain ⟨q4, hq4⟩ : ∃ q4, q4 = (R.map (·.v)).length := ⟨_, rfl⟩
      obtain ⟨q5, hq5⟩ : ∃ q5, q5 = (P.lgs name).length := ⟨_, rfl⟩
      rw [← hq4] at HS4 ⊢
      rw [← hq5] at HS5 ⊢
      clear o4 o5 hB htk hs4 hs5 HJ HLG HBX2 HB2 HC hq4 hq5
      go_wp2_with (go_at_call 20; fail)
      refine hln.mono ?_
      rintro e w3 ⟨⟨na, nn, nc, rfl, hnn, hst⟩, hb3⟩
      clear hnn
      have HB4 : Hid (Below W.heap.size W w3) := HB3.out.trans (hb3.mono HB3.out.size)
      have HBX4 : Hid (Bx w3 W.heap.size 26 #[.string name, .slice ua dl uc, .bool imp]) := HBX3.out.below hb3
      have HLG4 : Hid (LgAt 43 w3 (.slice la n lc) R) := HLG3.out.keep hb3
      have HV4 : Hid (StrAt w3 (.slice a4 q4 c4) (R.map (·.v))) := HS4.out.keep hb3
      have hty := P.texts_yes (HS5.out.keep hb3) hst
      clear hln hst hb3 HB3 HBX3 HLG3 HS4 HS5 b0
      go_wp2_with (go_at_call 19; fail)
      refine hty.mono ?_
      rintro e w4 ⟨rfl, hb4⟩
      have HB5 : Hid (Below W.heap.size W w4) := HB4.out.trans (hb4.mono HB4.out.size)
      have HBX5 : Hid (Bx w4 W.heap.size 26 #[.string name, .slice ua dl uc, .bool imp]) := HBX4.out.below hb4
      have HLG5 : Hid (LgAt 43 w4 (.slice la n lc) R) := HLG4.out.keep hb4
      have hjn := join_any name (SsAt.of (HV4.out.keep hb4)) (fun x hx => by have := HE2.out x hx; omega) (HOK.out _ HB5.out).sid
      rw [HE3.out] at hjn
      have hjn2 : Calls Tryz.prog 15 #[.string name, .slice a4 q4 c4] w4 fun e w' => e = .returned (.tuple #[.string s, .bool true]) ∧ Below w4.heap.size w4 w' := hjn
      have b0 := HBX5.out.cell 0 _ rfl
      clear hty hb4 HB4 HBX4 HLG4 HV4 hjn
      go_wp2_with (go_at_call 15; fail)
      refine hjn2.mono ?_
      rintro e w5 ⟨rfl, hb5⟩
      have HB6 : Hid (Below W.heap.size W w5) := HB5.out.trans (hb5.mono HB5.out.size)
      have HBX6 : Hid (Bx w5 W.heap.size 26 #[.string name, .slice ua dl uc, .bool imp]) := HBX5.out.below hb5
      have HLG6 : Hid (LgAt 43 w5 (.slice la n lc) R) := HLG5.out.keep hb5
      clear hjn2 hb5 HB5 HBX5 HLG5 b0
      have HSS : Hid (∀ w', Below w5.heap.size w5 w' → w'.cell? ⟨W.heap.size, 0, none⟩ = some (.string name) ∧ w'.cell? ⟨W.heap.size, 1, none⟩ = some (.slice ua dl uc) ∧ w'.cell? ⟨W.heap.size, 2, none⟩ = some (.bool imp)) := fun w' hb => ⟨(HBX6.out.below hb).cell 0 _ rfl, (HBX6.out.below hb).cell 1 _ rfl, (HBX6.out.below hb).cell 2 _ rfl⟩
      have HC1 : Hid (∀ w', Below w5.heap.size w5 w' → Calls Tryz.prog 21 #[.string s] w' fun e w'' => (∃ a n c, e = .returned (.slice a n c) ∧ Hid (VsAt (fun _ => True) w'' (.slice a n c) (valsS s))) ∧ Below w5.heap.size w5 w'') := fun w' hb => (Z.values_any s w' HE5.out.1 HE5.out.2.1).mono fun e w'' h => by
        obtain ⟨u, h1, h2, h3⟩ := h
        obtain ⟨a, c, rfl, _, _⟩ := h2.slice
        exact ⟨⟨a, _, c, h1, h2⟩, hb.trans (h3.mono hb.size)⟩
      have HC2 : Hid (∀ w' v, Below w5.heap.size w5 w' → Hid (VsAt (fun _ => True) w' v (valsS s)) → Calls Tryz.prog 11 #[.agg #[.string name, v, .bool imp]] w' fun e w'' => (∃ a c, e = .returned (.slice a n c) ∧ Hid (LgAt 43 w'' (.slice a n c) R)) ∧ Below w5.heap.size w5 w'') := fun w' v hb hv => (expand_any name imp hv.out HE5.out.2.2.1 HE5.out.2.2.2 (HOK.out w' (HB6.out.trans (hb.mono HB6.out.size))).ok (HOK.out w' (HB6.out.trans (hb.mono HB6.out.size))).sid).mono fun e w'' h => by
        obtain ⟨a, m, c, h1, h2, h3, h4⟩ := h
        rw [HE4.out] at h2 h3
        rw [← HN.out] at h2
        subst h2
        exact ⟨⟨a, c, h1, h3⟩, hb.trans (h4.mono hb.size)⟩
      have gd : Below w5.heap.size w5 w5 := Below.refl _ _
      have ge : Below w5.heap.size w5 w5.drew := gd.drew
      go_upto_region 17 with (fail)
      go_region_held3 (fun w' => w'.cell? ⟨W.heap.size, 0, none⟩ = some (.string name) ∧ w'.cell? ⟨W.heap.size, 1, none⟩ = some (.slice ua dl uc) ∧ w'.cell? ⟨W.heap.size, 2, none⟩ = some (.bool imp))
        (first | with_reducible exact HSS.out _ gd | with_reducible exact HSS.out _ ge | with_reducible exact HSS.out _ ga | with_reducible exact HSS.out _ gb)
        (first
          | (go_at_call 21; with_reducible refine (HC1.out _ ge).mono ?_; rintro e wa ⟨⟨xa, xn, xc, rfl, hv1⟩, ga⟩)
          | (go_at_call 11; with_reducible refine (HC2.out _ _ ga hv1).mono ?_; rintro e wb ⟨⟨ya, yc, rfl, hl2⟩, gb⟩))
      have HB7 : Hid (Below W.heap.size W wb) := HB6.out.trans (gb.mono HB6.out.size)
      have HLG7 : Hid (LgAt 43 wb (.slice la n lc) R) := HLG6.out.keep gb
      obtain ⟨la1, lc1, el1, p1b, p2b, p3b⟩ := HLG7.out.form
      obtain ⟨ya1, yc1, el2, p4b, p5b, p6b⟩ := hl2.out.form
      rw [← HN.out] at el1 el2 p1b p3b p4b p6b
      cases el1
      cases el2
      have HC3 := hid_mk p3b
      have HC4 := hid_mk p6b
      have hnq : ((n : Int) != (n : Int)) = false := by simp
      clear HSS HC1 HC2 gd ge ga gb hv1 hl2 p3b p6b HLG6 HLG7 HB6 HBX6
      go_wp2
      go_loopw [75] (fun a75 wr => ∃ j : Nat, j ≤ n ∧ a75 = .int .i64 (j : Int) ∧ Hid (Below wb.heap.size wb wr)) (fun a75 _ => n + 1 - (intOf a75).toNat)
      case atStart => exact ⟨0, Nat.zero_le _, rfl, Below.refl _ _⟩
      case round =>
        obtain ⟨j, hj, rfl, HJ⟩ := hrel
        by_cases hlt3 : j < n
        · have hd3 : decide ((j : Int) < (n : Int)) = true := decide_eq_true (by omega)
          obtain ⟨x, hx⟩ : ∃ x, R[j]? = some x := ⟨_, List.getElem?_eq_getElem (by rw [← HN.out]; exact hlt3)⟩
          obtain ⟨g1, f1, hc1⟩ := HC3.out (by omega)
          obtain ⟨g2, f2, hc2⟩ := HC4.out (by omega)
          subst f1
          subst f2
          obtain ⟨k0, k1, k2⟩ := hc1 j x hx
          obtain ⟨m0, m1, m2⟩ := hc2 j x hx
          have j0 := (HJ.out.cell (p := ⟨g1, j * 3, none⟩) (P.lt_of_cell k0)).trans k0
          have j1 := (HJ.out.cell (p := ⟨g1, j * 3 + 1, none⟩) (P.lt_of_cell k1)).trans k1
          have j2 := (HJ.out.cell (p := ⟨g1, j * 3 + 2, none⟩) (P.lt_of_cell k2)).trans k2
          have l0 := (HJ.out.cell (p := ⟨g2, j * 3, none⟩) (P.lt_of_cell m0)).trans m0
          have l1 := (HJ.out.cell (p := ⟨g2, j * 3 + 1, none⟩) (P.lt_of_cell m1)).trans m1
          have l2 := (HJ.out.cell (p := ⟨g2, j * 3 + 2, none⟩) (P.lt_of_cell m2)).trans m2
          obtain ⟨xn, xv, xi⟩ := x
          simp only at j0 j1 j2 l0 l1 l2
          clear k0 k1 k2 m0 m1 m2 hc1 hc2 hx HC3 HC4
          go_upto_region 23 with (fail)
          go_quiet (fail)
          go_wp2
          exact ⟨⟨j + 1, by omega, rfl, HJ.out.trans ⟨rfl, rfl, rfl, Nat.le_refl _, fun _ _ => rfl⟩⟩, by simp only [intOf]; omega⟩
        · have hd3 : decide ((j : Int) < (n : Int)) = false := decide_eq_false (by omega)
          have hlv := HLV.out wr (HB7.out.trans (HJ.out.mono HB7.out.size))
          go_wp2_with (go_at_call 8; fail)
          refine hlv.mono ?_
          rintro e w9 ⟨rfl, hb9⟩
          have HB9 := hid_mk hb9
          clear hlv hb9
          go_wp2
          go_ret
          exact ⟨rfl, HB9.out⟩
end Go.Proofs.YtlhdapckenjigaaGreatDoor.S
