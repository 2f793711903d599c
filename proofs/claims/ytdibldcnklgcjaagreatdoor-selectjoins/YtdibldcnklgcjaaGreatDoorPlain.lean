/- The tokens of a list of characters, in plain words: which character stands ahead, what an escape, a name, a string, a URL and a number are; each token takes one character at least. -/
import Derived.Lib.RuneBytes
import Derived.KernelRfl
namespace Go.Proofs.YtdibldcnklgcjaaGreatDoor
open Go
set_option maxRecDepth 100000
def smallZ (c : Int) : Bool := decide (97 ≤ c) && decide (c ≤ 122)
def digitZ (c : Int) : Bool := decide (48 ≤ c) && decide (c ≤ 57)
def hexZ (c : Int) : Int := if 48 ≤ c ∧ c ≤ 57 then c - 48 else if 97 ≤ c ∧ c ≤ 102 then c - 87 else if 65 ≤ c ∧ c ≤ 70 then c - 55 else -1
def blankZ (c : Int) : Bool := c == 32 || c == 9 || c == 10
def startZ (c : Int) : Bool := decide ((97 ≤ c ∧ c ≤ 122) ∨ (65 ≤ c ∧ c ≤ 90) ∨ c = 95 ∨ 128 ≤ c)
def partZ (c : Int) : Bool := startZ c || digitZ c || c == 45

/-! ### what stands ahead -/

def hd (l : List Int) (i : Nat) : Int := l.getD i (-1)
def escB (l : List Int) : Bool := hd l 0 == 92 && hd l 1 != 10
def wordB (l : List Int) : Bool := startZ (hd l 0) || escB l
def nameB (l : List Int) : Bool := if hd l 0 == 45 then hd l 1 == 45 || wordB (l.drop 1) else wordB l
def signB (l : List Int) : Bool := hd l 0 == 43 || hd l 0 == 45
def dotB (l : List Int) : Bool := hd l 0 == 46 && digitZ (hd l 1)
def unsignZ (l : List Int) : List Int := if signB l then l.drop 1 else l
def numB (l : List Int) : Bool := digitZ (hd (unsignZ l) 0) || dotB (unsignZ l)
def standsB : List Int → List Int → Bool
  | [], _ => true
  | s :: r, l => hd l 0 == s && standsB r (l.drop 1)

/-! ### escapes -/

def hexN : Nat → List Int → Int → Int × Nat
  | 0, _, n => (n, 0)
  | k + 1, l, n => if 0 ≤ hexZ (hd l 0) then ((hexN k (l.drop 1) (n * 16 + hexZ (hd l 0))).1, (hexN k (l.drop 1) (n * 16 + hexZ (hd l 0))).2 + 1) else (n, 0)
def numberedZ (n : Int) : Int := if n = 0 ∨ 1114111 < n ∨ (55296 ≤ n ∧ n ≤ 57343) then 65533 else n
/-- The character of an escape, and how many characters it has, the first being gone by. -/
def escT (t : List Int) : Int × Nat :=
  if t = [] then (65533, 0)
  else if hexZ (hd t 0) < 0 then (hd t 0, 1)
  else (numberedZ (hexN 6 t 0).1, if blankZ (hd t (hexN 6 t 0).2) then (hexN 6 t 0).2 + 1 else (hexN 6 t 0).2)

/-! ### names -/

def nameT : List Int → Nat → List Int
  | [], _ => []
  | _ :: t, k + 1 => nameT t k
  | c :: t, 0 => if partZ c then c :: nameT t 0 else if escB (c :: t) then (escT t).1 :: nameT t (escT t).2 else []
def nameR : List Int → Nat → List Int
  | [], _ => []
  | _ :: t, k + 1 => nameR t k
  | c :: t, 0 => if partZ c then nameR t 0 else if escB (c :: t) then nameR t (escT t).2 else c :: t

theorem nameT_skip : ∀ (l : List Int) (k : Nat), nameT l k = nameT (l.drop k) 0
  | [], k => by simp [nameT]
  | _ :: _, 0 => rfl
  | _ :: t, k + 1 => by rw [nameT, nameT_skip t k]; rfl
theorem nameR_skip : ∀ (l : List Int) (k : Nat), nameR l k = nameR (l.drop k) 0
  | [], k => by simp [nameR]
  | _ :: _, 0 => rfl
  | _ :: t, k + 1 => by rw [nameR, nameR_skip t k]; rfl

/-! ### strings -/

def consO (x : Int) (r : Option (List Int) × List Int) : Option (List Int) × List Int := (r.1.map (x :: ·), r.2)
def quoZ (e : Int) : List Int → Nat → Option (List Int) × List Int
  | [], _ => (some [], [])
  | _ :: t, k + 1 => quoZ e t k
  | c :: t, 0 =>
    if c = e then (some [], t)
    else if c = 10 then (none, c :: t)
    else if c = 92 then (if hd t 0 = 10 then quoZ e t 1 else if t = [] then quoZ e t 0 else consO (escT t).1 (quoZ e t (escT t).2))
    else consO c (quoZ e t 0)
theorem quoZ_skip (e : Int) : ∀ (l : List Int) (k : Nat), quoZ e l k = quoZ e (l.drop k) 0
  | [], k => by simp [quoZ]
  | _ :: _, 0 => rfl
  | _ :: t, k + 1 => by rw [quoZ, quoZ_skip e t k]; rfl

/-! ### URLs -/

def ctrlZ (c : Int) : Bool := decide (1 ≤ c ∧ c ≤ 8) || c == 11 || decide (14 ≤ c ∧ c ≤ 31) || c == 127
def urlOn (l : List Int) : Bool :=
  if l = [] then false else if blankZ (hd l 0) then false else if ctrlZ (hd l 0) then false else if hd l 0 = 92 then escB l
  else hd l 0 != 34 && hd l 0 != 39 && hd l 0 != 40 && hd l 0 != 41
def urlT : List Int → Nat → List Int
  | [], _ => []
  | _ :: t, k + 1 => urlT t k
  | c :: t, 0 => if urlOn (c :: t) then (if escB (c :: t) then (escT t).1 :: urlT t (escT t).2 else c :: urlT t 0) else []
def urlR : List Int → Nat → List Int
  | [], _ => []
  | _ :: t, k + 1 => urlR t k
  | c :: t, 0 => if urlOn (c :: t) then (if escB (c :: t) then urlR t (escT t).2 else urlR t 0) else c :: t
theorem urlT_skip : ∀ (l : List Int) (k : Nat), urlT l k = urlT (l.drop k) 0
  | [], k => by simp [urlT]
  | _ :: _, 0 => rfl
  | _ :: t, k + 1 => by rw [urlT, urlT_skip t k]; rfl
theorem urlR_skip : ∀ (l : List Int) (k : Nat), urlR l k = urlR (l.drop k) 0
  | [], k => by simp [urlR]
  | _ :: _, 0 => rfl
  | _ :: t, k + 1 => by rw [urlR, urlR_skip t k]; rfl
def badR : List Int → Nat → List Int
  | [], _ => []
  | _ :: t, k + 1 => badR t k
  | c :: t, 0 => if c = 41 then t else if escB (c :: t) then badR t (escT t).2 else badR t 0
theorem badR_skip : ∀ (l : List Int) (k : Nat), badR l k = badR (l.drop k) 0
  | [], k => by simp [badR]
  | _ :: _, 0 => rfl
  | _ :: t, k + 1 => by rw [badR, badR_skip t k]; rfl

/-! ### comments, blanks, digits -/

def comR : List Int → List Int
  | [] => []
  | c :: t => if c = 42 ∧ hd t 0 = 47 then t.drop 1 else comR t
def blanksR : List Int → List Int
  | [] => []
  | c :: t => if blankZ c then blanksR t else c :: t
def digitsR : List Int → List Int
  | [] => []
  | c :: t => if digitZ c then digitsR t else c :: t

/-! ### numbers -/

def expN (l : List Int) : Nat :=
  if hd l 0 = 101 ∨ hd l 0 = 69 then
    (if signB (l.drop 1) then (if digitZ (hd l 2) then 2 else 0) else (if digitZ (hd l 1) then 1 else 0))
  else 0
def mantR (l : List Int) : List Int := digitsR (unsignZ l)
def fracR (l : List Int) : List Int := if dotB l then digitsR (l.drop 1) else l
def expR (l : List Int) : List Int := if 0 < expN l then digitsR (l.drop (expN l)) else l
def numR (l : List Int) : List Int := expR (fracR (mantR l))
def numW (l : List Int) : Bool := !dotB (mantR l) && !decide (0 < expN (fracR (mantR l)))
def gone (l r : List Int) : List Int := l.take (l.length - r.length)

/-! ### tokens -/

structure Tok where
  kind : Int
  text : List Int
  unit : List Int
  flag : Bool
  whole : Bool

def plainTok (k : Int) (t : List Int) : Tok := ⟨k, t, [], false, false⟩
def mkTok (k : Int) (t u : List Int) (w f : Bool) : Tok := ⟨k, t, u, f, w⟩
def foldI (c : Int) : Int := if 65 ≤ c ∧ c ≤ 90 then c + 32 else c
def bytesZ (xs : List Int) : List Int := xs.flatMap Lib.encodeRuneZ
def urlNm (t : List Int) : Bool := (bytesZ t).map foldI == [117, 114, 108]
def qbB (l : List Int) : Bool := hd (blanksR l) 0 == 34 || hd (blanksR l) 0 == 39

def strZ (l : List Int) : Tok × List Int := match quoZ (hd l 0) (l.drop 1) 0 with
  | (some t, r) => (plainTok 5 t, r)
  | (none, r) => (plainTok 6 [], r)
def hashZ (l : List Int) : Tok × List Int := (mkTok 4 (nameT l 0) [] false (nameB l), nameR l 0)
def numZ (l : List Int) : Tok × List Int :=
  if nameB (numR l) then (mkTok 12 (gone l (numR l)) (nameT (numR l) 0) (numW l) false, nameR (numR l) 0)
  else if hd (numR l) 0 = 37 then (mkTok 11 (gone l (numR l)) [] (numW l) false, (numR l).drop 1)
  else (mkTok 10 (gone l (numR l)) [] (numW l) false, numR l)
def urlEnd (t r : List Int) : Tok × List Int :=
  if blanksR r = [] then (plainTok 7 t, []) else if hd (blanksR r) 0 = 41 then (plainTok 7 t, (blanksR r).drop 1) else (plainTok 8 [], badR (blanksR r) 0)
def urlZ (l : List Int) : Tok × List Int := urlEnd (urlT (blanksR l) 0) (urlR (blanksR l) 0)
def wordZ (l : List Int) : Tok × List Int :=
  if hd (nameR l 0) 0 = 40 then
    (if urlNm (nameT l 0) && !qbB ((nameR l 0).drop 1) then urlZ ((nameR l 0).drop 1) else (plainTok 2 (nameT l 0), (nameR l 0).drop 1))
  else (plainTok 1 (nameT l 0), nameR l 0)
def signZ (c : Int) : Int :=
  if c = 58 then 16 else if c = 59 then 17 else if c = 44 then 18 else if c = 91 then 19 else if c = 93 then 20 else if c = 40 then 21 else if c = 41 then 22 else if c = 123 then 23 else if c = 125 then 24 else 0
def singleZ (c : Int) : Tok := if 0 < signZ c then plainTok (signZ c) [] else plainTok 9 [c]

def hashB (l : List Int) : Bool := hd l 0 == 35 && (partZ (hd l 1) || escB (l.drop 1))
def atB (l : List Int) : Bool := hd l 0 == 64 && nameB (l.drop 1)
def quoteB (l : List Int) : Bool := hd l 0 == 34 || hd l 0 == 39

def someT (r : Tok × List Int) : Option Tok × List Int := (some r.1, r.2)
def oneZ (l : List Int) : Option Tok × List Int :=
  if standsB [47, 42] l then (none, comR (l.drop 2))
  else if blankZ (hd l 0) then (some (plainTok 13 []), blanksR l)
  else if quoteB l then someT (strZ l)
  else if hashB l then someT (hashZ (l.drop 1))
  else if numB l then someT (numZ l)
  else if standsB [45, 45, 62] l then (some (plainTok 15 []), l.drop 3)
  else if standsB [60, 33, 45, 45] l then (some (plainTok 14 []), l.drop 4)
  else if nameB l then someT (wordZ l)
  else if atB l then (some (plainTok 3 (nameT (l.drop 1) 0)), nameR (l.drop 1) 0)
  else (some (singleZ (hd l 0)), l.drop 1)

def toksF : List Int → Nat → List Tok
  | [], _ => []
  | _ :: t, k + 1 => toksF t k
  | c :: t, 0 => (oneZ (c :: t)).1.toList ++ toksF t (t.length - (oneZ (c :: t)).2.length)
def toks (l : List Int) : List Tok := toksF l 0
theorem toksF_skip : ∀ (l : List Int) (k : Nat), toksF l k = toksF (l.drop k) 0
  | [], k => by simp [toksF]
  | _ :: _, 0 => rfl
  | _ :: t, k + 1 => by rw [toksF, toksF_skip t k]; rfl

/-! ### what is left is an end of what was there -/

theorem suf_drop (l : List Int) (k : Nat) : l.drop k <:+ l := List.drop_suffix k l
theorem suf_step {l m : List Int} {k : Nat} (h : m <:+ l.drop k) : m <:+ l := h.trans (suf_drop l k)
theorem suf_cons {c : Int} {t m : List Int} (h : m <:+ t) : m <:+ c :: t := h.trans (List.suffix_cons c t)
theorem suf_len {m l : List Int} (h : m <:+ l) : m = l.drop (l.length - m.length) := by
  obtain ⟨p, rfl⟩ := h
  simp

theorem nameR_suf : ∀ (l : List Int) (k : Nat), nameR l k <:+ l
  | [], _ => List.suffix_refl _
  | _ :: t, k + 1 => suf_cons (nameR_suf t k)
  | c :: t, 0 => by
    rw [nameR]
    split
    · exact suf_cons (nameR_suf t 0)
    · split
      · exact suf_cons (nameR_suf t _)
      · exact List.suffix_refl _
theorem urlR_suf : ∀ (l : List Int) (k : Nat), urlR l k <:+ l
  | [], _ => List.suffix_refl _
  | _ :: t, k + 1 => suf_cons (urlR_suf t k)
  | c :: t, 0 => by
    rw [urlR]
    split
    · split
      · exact suf_cons (urlR_suf t _)
      · exact suf_cons (urlR_suf t 0)
    · exact List.suffix_refl _
theorem badR_suf : ∀ (l : List Int) (k : Nat), badR l k <:+ l
  | [], _ => List.suffix_refl _
  | _ :: t, k + 1 => suf_cons (badR_suf t k)
  | c :: t, 0 => by
    rw [badR]
    split
    · exact List.suffix_cons _ _
    · split
      · exact suf_cons (badR_suf t _)
      · exact suf_cons (badR_suf t 0)
theorem consO_snd (x : Int) (r : Option (List Int) × List Int) : (consO x r).2 = r.2 := rfl
theorem quoZ_suf (e : Int) : ∀ (l : List Int) (k : Nat), (quoZ e l k).2 <:+ l
  | [], _ => List.suffix_refl _
  | _ :: t, k + 1 => suf_cons (quoZ_suf e t k)
  | c :: t, 0 => by
    rw [quoZ]
    split
    · exact List.suffix_cons _ _
    · split
      · exact List.suffix_refl _
      · split
        · split
          · exact suf_cons (quoZ_suf e t _)
          · split
            · exact suf_cons (quoZ_suf e t _)
            · rw [consO_snd]; exact suf_cons (quoZ_suf e t _)
        · rw [consO_snd]; exact suf_cons (quoZ_suf e t _)
theorem comR_suf : ∀ (l : List Int), comR l <:+ l
  | [] => List.suffix_refl _
  | c :: t => by
    rw [comR]
    split
    · exact suf_cons (suf_drop t 1)
    · exact suf_cons (comR_suf t)
theorem blanksR_suf : ∀ (l : List Int), blanksR l <:+ l
  | [] => List.suffix_refl _
  | c :: t => by
    rw [blanksR]
    split
    · exact suf_cons (blanksR_suf t)
    · exact List.suffix_refl _
theorem digitsR_suf : ∀ (l : List Int), digitsR l <:+ l
  | [] => List.suffix_refl _
  | c :: t => by
    rw [digitsR]
    split
    · exact suf_cons (digitsR_suf t)
    · exact List.suffix_refl _
theorem unsign_suf (l : List Int) : unsignZ l <:+ l := by
  unfold unsignZ
  split
  · exact suf_drop _ _
  · exact List.suffix_refl _
theorem mantR_suf (l : List Int) : mantR l <:+ l := (digitsR_suf _).trans (unsign_suf l)
theorem fracR_suf (l : List Int) : fracR l <:+ l := by
  unfold fracR
  split
  · exact suf_step (digitsR_suf _)
  · exact List.suffix_refl _
theorem expR_suf (l : List Int) : expR l <:+ l := by
  unfold expR
  split
  · exact suf_step (digitsR_suf _)
  · exact List.suffix_refl _
theorem numR_suf (l : List Int) : numR l <:+ l := (expR_suf _).trans ((fracR_suf _).trans (mantR_suf l))
/-! ### each token takes one character at least -/

theorem nameR_part {c : Int} {t : List Int} (h : partZ c = true) : nameR (c :: t) 0 = nameR t 0 := by rw [nameR, if_pos h]
theorem nameR_less {c : Int} {t : List Int} (h : nameB (c :: t) = true) : nameR (c :: t) 0 <:+ t := by
  have aux : partZ c = true ∨ escB (c :: t) = true := by
    unfold nameB at h
    split at h
    · left
      rename_i h1
      have : c = 45 := by simpa [hd] using h1
      subst this
      decide
    · unfold wordB at h
      rcases Bool.or_eq_true_iff.1 h with h1 | h1
      · left
        have : startZ c = true := h1
        simp [partZ, this]
      · right; exact h1
  rw [nameR]
  split
  · exact nameR_suf t 0
  · rcases aux with h1 | h1
    · contradiction
    · rw [if_pos h1]
      exact nameR_suf t _
theorem mantR_less {c : Int} {t : List Int} (h : signB (c :: t) = true ∨ digitZ c = true) : mantR (c :: t) <:+ t := by
  unfold mantR unsignZ
  rcases h with h | h
  · rw [if_pos h]; exact digitsR_suf t
  · split
    · exact digitsR_suf t
    · rw [digitsR, if_pos h]; exact digitsR_suf t
theorem numR_less {c : Int} {t : List Int} (h : numB (c :: t) = true) : numR (c :: t) <:+ t := by
  by_cases hs : signB (c :: t) = true
  · exact (expR_suf _).trans ((fracR_suf _).trans (mantR_less (.inl hs)))
  · have hu : unsignZ (c :: t) = c :: t := by unfold unsignZ; rw [if_neg hs]
    unfold numB at h
    rw [hu] at h
    by_cases hdg : digitZ c = true
    · exact (expR_suf _).trans ((fracR_suf _).trans (mantR_less (.inr hdg)))
    · have hdot : dotB (c :: t) = true := by
        rcases Bool.or_eq_true_iff.1 h with h1 | h1
        · exact absurd h1 hdg
        · exact h1
      have hm : mantR (c :: t) = c :: t := by unfold mantR; rw [hu, digitsR, if_neg hdg]
      unfold numR
      rw [hm]
      refine (expR_suf _).trans ?_
      unfold fracR
      rw [if_pos hdot]
      exact digitsR_suf t
theorem urlEnd_suf (x r : List Int) : (urlEnd x r).2 <:+ r := by
  unfold urlEnd
  split
  · exact List.nil_suffix
  · split
    · exact suf_step (k := 0) ((suf_drop _ 1).trans (blanksR_suf r))
    · exact (badR_suf _ _).trans (blanksR_suf r)
theorem urlZ_suf (l : List Int) : (urlZ l).2 <:+ l := (urlEnd_suf _ _).trans ((urlR_suf _ _).trans (blanksR_suf l))
theorem wordZ_suf (l : List Int) : (wordZ l).2 <:+ nameR l 0 := by
  unfold wordZ
  split
  · split
    · exact suf_step (urlZ_suf _)
    · exact suf_drop _ 1
  · exact List.suffix_refl _
theorem numZ_suf (l : List Int) : (numZ l).2 <:+ numR l := by
  unfold numZ
  split
  · exact nameR_suf _ _
  · split
    · exact suf_drop _ 1
    · exact List.suffix_refl _
theorem strZ_suf (l : List Int) : (strZ l).2 <:+ l.drop 1 := by
  have := quoZ_suf (hd l 0) (l.drop 1) 0
  unfold strZ
  split
  · rename_i h; rw [h] at this; exact this
  · rename_i h; rw [h] at this; exact this
theorem one_less (c : Int) (t : List Int) : (oneZ (c :: t)).2 <:+ t := by
  unfold oneZ
  split
  · exact (comR_suf _).trans (suf_drop t 1)
  split
  · rename_i h
    have : blankZ c = true := h
    show blanksR (c :: t) <:+ t
    rw [blanksR, if_pos this]
    exact blanksR_suf t
  split
  · exact strZ_suf (c :: t)
  split
  · exact nameR_suf t 0
  split
  · rename_i h
    exact (numZ_suf _).trans (numR_less h)
  split
  · exact suf_drop t 2
  split
  · exact suf_drop t 3
  split
  · rename_i h
    exact (wordZ_suf _).trans (nameR_less h)
  split
  · exact nameR_suf t 0
  · exact List.suffix_refl _
theorem toks_cons (c : Int) (t : List Int) : toks (c :: t) = (oneZ (c :: t)).1.toList ++ toks (oneZ (c :: t)).2 := by
  unfold toks
  rw [toksF, toksF_skip, ← suf_len (one_less c t)]

theorem example_one : toks [97, 123, 98, 58, 49, 46, 53, 101, 109, 125] = [plainTok 1 [97], plainTok 23 [], plainTok 1 [98], plainTok 16 [], mkTok 12 [49, 46, 53] [101, 109] false false, plainTok 24 []] := by kernel_rfl
theorem example_two : toks [34, 97, 10] = [plainTok 6 [], plainTok 13 []] := by kernel_rfl
end Go.Proofs.YtdibldcnklgcjaaGreatDoor
