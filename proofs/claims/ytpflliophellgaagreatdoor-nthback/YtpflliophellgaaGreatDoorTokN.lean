/- The tokens of what nth.Print writes. -/
import Derived.Test.YtpflliophellgaaGreatDoorToks
import Derived.Test.YtpflliophellgaaGreatDoorNSaidN
import Derived.Test.YtpflliophellgaaGreatDoorNValuesF
namespace Go.Proofs.YtpflliophellgaaGreatDoor
open Go.RowKit
set_option maxRecDepth 100000

theorem digit_yes {c : Int} (h : 48 ≤ c ∧ c ≤ 57) : digitZ c = true := by unfold digitZ; simp; omega
theorem name_head {l : List Int} (h : nameB l = true) : hd l 0 = 45 ∨ hd l 0 = 92 ∨ startZ (hd l 0) = true := by
  unfold nameB at h
  split at h
  · rename_i h1
    left
    simpa using h1
  · unfold wordB at h
    rcases Bool.or_eq_true_iff.1 h with h1 | h1
    · exact .inr (.inr h1)
    · unfold escB at h1
      rw [Bool.and_eq_true] at h1
      exact .inr (.inl (by simpa using h1.1))
theorem name_second {l : List Int} (h : nameB l = true) (h45 : hd l 0 = 45) : hd l 1 = 45 ∨ hd l 1 = 92 ∨ startZ (hd l 1) = true := by
  unfold nameB at h
  rw [h45, if_pos (by decide)] at h
  have e : ∀ i, hd (l.drop 1) i = hd l (1 + i) := fun i => hd_drop l 1 i
  rcases Bool.or_eq_true_iff.1 h with h1 | h1
  · left; simpa using h1
  · unfold wordB at h1
    rw [e] at h1
    rcases Bool.or_eq_true_iff.1 h1 with h2 | h2
    · exact .inr (.inr h2)
    · unfold escB at h2
      rw [Bool.and_eq_true, e] at h2
      exact .inr (.inl (by simpa using h2.1))
theorem not_at {c k : Int} (h : c = 45 ∨ c = 92 ∨ startZ c = true) (h1 : k ≠ 45) (h2 : k ≠ 92) (h3 : startZ k = false) : c ≠ k := by
  intro e
  subst e
  rcases h with h | h | h
  · exact h1 h
  · exact h2 h
  · rw [h] at h3; cases h3
theorem name_no {l : List Int} (h : nameB l = true) : standsB [47, 42] l = false ∧ blankZ (hd l 0) = false ∧ quoteB l = false ∧ hashB l = false ∧ numB l = false ∧ standsB [60, 33, 45, 45] l = false := by
  have hh := name_head h
  have n47 := not_at (k := 47) hh (by decide) (by decide) (by decide)
  have n32 := not_at (k := 32) hh (by decide) (by decide) (by decide)
  have n9 := not_at (k := 9) hh (by decide) (by decide) (by decide)
  have n10 := not_at (k := 10) hh (by decide) (by decide) (by decide)
  have n34 := not_at (k := 34) hh (by decide) (by decide) (by decide)
  have n39 := not_at (k := 39) hh (by decide) (by decide) (by decide)
  have n35 := not_at (k := 35) hh (by decide) (by decide) (by decide)
  have n60 := not_at (k := 60) hh (by decide) (by decide) (by decide)
  refine ⟨?_, ?_, ?_, ?_, ?_, ?_⟩
  · rw [standsB]; simp [n47]
  · simp [blankZ, n32, n9, n10]
  · simp [quoteB, n34, n39]
  · simp [hashB, n35]
  · have n43 := not_at (k := 43) hh (by decide) (by decide) (by decide)
    by_cases h45 : hd l 0 = 45
    · have h2 := name_second h h45
      have m46 := not_at (k := 46) h2 (by decide) (by decide) (by decide)
      have mdg : digitZ (hd l 1) = false := by
        rcases h2 with e | e | e
        · rw [e]; decide
        · rw [e]; decide
        · unfold startZ at e; unfold digitZ; simp at e ⊢; omega
      unfold numB unsignZ signB dotB
      have e1 : (hd l 0 == 43 || hd l 0 == 45) = true := by rw [h45]; rfl
      rw [if_pos e1, hd_drop, hd_drop, mdg]
      simp [m46]
    · have m46 := not_at (k := 46) hh (by decide) (by decide) (by decide)
      have mdg : digitZ (hd l 0) = false := by
        rcases hh with e | e | e
        · exact absurd e h45
        · rw [e]; decide
        · unfold startZ at e; unfold digitZ; simp at e ⊢; omega
      unfold numB unsignZ signB dotB
      have e1 : ¬ (hd l 0 == 43 || hd l 0 == 45) = true := by simp [n43, h45]
      rw [if_neg e1, mdg]
      simp [m46]
  · rw [standsB]; simp [n60]
theorem digitsR_dig : ∀ (ds R : List Int), N.Dig ds → digitZ (hd R 0) = false → digitsR (ds ++ R) = R
  | [], R, _, h => by
    cases R with
    | nil => rfl
    | cons c t =>
      have : digitZ c = false := h
      show digitsR (c :: t) = c :: t
      rw [digitsR, if_neg (by simp [this])]
  | c :: r, R, hd', h => by
    rw [List.cons_append, digitsR, if_pos (digit_yes (hd' c (by simp)))]
    exact digitsR_dig r R (fun x hx => hd' x (by simp [hx])) h
/-- What may stand behind a number's digits. -/
def Behind (R : List Int) : Prop := digitZ (hd R 0) = false ∧ dotB R = false ∧ expN R = 0
/-- A number as it is written: digits, at times behind a sign. -/
def Numb (d : List Int) : Prop := ∃ ds, N.Dig ds ∧ ds ≠ [] ∧ (d = ds ∨ d = 45 :: ds ∨ d = 43 :: ds)
theorem numb_parts {d R : List Int} (hn : Numb d) (hR : Behind R) : numB (d ++ R) = true ∧ numR (d ++ R) = R ∧ numW (d ++ R) = true ∧ (hd (d ++ R) 0 = 45 ∨ hd (d ++ R) 0 = 43 ∨ digitZ (hd (d ++ R) 0) = true) := by
  obtain ⟨ds, hd1, hne, hor⟩ := hn
  obtain ⟨c, r, rfl⟩ := List.exists_cons_of_ne_nil hne
  have hc := hd1 c (by simp)
  have hcd := digit_yes hc
  have hus : unsignZ (d ++ R) = (c :: r) ++ R := by
    rcases hor with rfl | rfl | rfl
    · unfold unsignZ signB
      have e : (hd ((c :: r) ++ R) 0 == 43 || hd ((c :: r) ++ R) 0 == 45) = false := by
        show (c == 43 || c == 45) = false
        have h1 : c ≠ 43 := by omega
        have h2 : c ≠ 45 := by omega
        simp [h1, h2]
      rw [e]
      rfl
    · rfl
    · rfl
  have hm : mantR (d ++ R) = R := by
    unfold mantR
    rw [hus]
    exact digitsR_dig _ _ hd1 hR.1
  refine ⟨?_, ?_, ?_, ?_⟩
  · unfold numB
    rw [hus]
    show (digitZ c || _) = true
    rw [hcd]
    rfl
  · unfold numR
    rw [hm]
    unfold fracR
    rw [hR.2.1]
    show expR R = R
    unfold expR
    rw [hR.2.2, if_neg (by omega)]
  · unfold numW
    rw [hm]
    unfold fracR
    rw [hR.2.1]
    show (!false && !decide (0 < expN R)) = true
    rw [hR.2.2]
    rfl
  · rcases hor with rfl | rfl | rfl
    · right; right; exact hcd
    · left; rfl
    · right; left; rfl
theorem one_numb {d R : List Int} (hn : Numb d) (hR : Behind R) : oneZ (d ++ R) = someT (numZ (d ++ R)) := by
  obtain ⟨h1, _, _, h4⟩ := numb_parts hn hR
  have hno : ∀ k, k ≠ 45 → k ≠ 43 → digitZ k = false → hd (d ++ R) 0 ≠ k := by
    intro k hk1 hk3 hk2 e
    rcases h4 with h | h | h
    · exact hk1 (e.symm.trans h)
    · exact hk3 (e.symm.trans h)
    · rw [e, hk2] at h; cases h
  have n47 := hno 47 (by decide) (by decide) (by decide)
  have n32 := hno 32 (by decide) (by decide) (by decide)
  have n9 := hno 9 (by decide) (by decide) (by decide)
  have n10 := hno 10 (by decide) (by decide) (by decide)
  have n34 := hno 34 (by decide) (by decide) (by decide)
  have n39 := hno 39 (by decide) (by decide) (by decide)
  have n35 := hno 35 (by decide) (by decide) (by decide)
  have a1 : standsB [47, 42] (d ++ R) = false := by rw [standsB]; simp [n47]
  have a2 : blankZ (hd (d ++ R) 0) = false := by simp [blankZ, n32, n9, n10]
  have a3 : quoteB (d ++ R) = false := by simp [quoteB, n34, n39]
  have a4 : hashB (d ++ R) = false := by simp [hashB, n35]
  unfold oneZ
  rw [a1, a2, a3, a4, h1]
  rfl
theorem gone_app (d R : List Int) : gone (d ++ R) R = d := by
  unfold gone
  rw [List.length_append, Nat.add_sub_cancel, List.take_left]
theorem numZ_of {d R : List Int} (hn : Numb d) (hR : Behind R) : numZ (d ++ R) = if nameB R then (mkTok 12 d (nameT R 0) true false, nameR R 0) else if hd R 0 = 37 then (mkTok 11 d [] true false, R.drop 1) else (mkTok 10 d [] true false, R) := by
  obtain ⟨_, h2, h3, _⟩ := numb_parts hn hR
  unfold numZ
  rw [h2, h3, gone_app]
theorem toks_one {l : List Int} {t : Tok} (hne : l ≠ []) (h : oneZ l = (some t, [])) : toks l = [t] := by
  obtain ⟨c, r, rfl⟩ := List.exists_cons_of_ne_nil hne
  rw [toks_cons, h]
  rfl
theorem numb_ne {d : List Int} (hn : Numb d) (R : List Int) : d ++ R ≠ [] := by
  obtain ⟨ds, _, hne, hor⟩ := hn
  obtain ⟨c, r, rfl⟩ := List.exists_cons_of_ne_nil hne
  rcases hor with rfl | rfl | rfl <;> simp
theorem behind_nil : Behind [] := ⟨by decide, by decide, by decide⟩
theorem behind_name {U : List Int} (hN : nameB U = true) (h1 : hd U 0 ≠ 101) (h2 : hd U 0 ≠ 69) : Behind U := by
  have hh := name_head hN
  have n46 := not_at (k := 46) hh (by decide) (by decide) (by decide)
  refine ⟨?_, ?_, ?_⟩
  · rcases hh with e | e | e
    · rw [e]; decide
    · rw [e]; decide
    · unfold startZ at e; unfold digitZ; simp at e ⊢; omega
  · simp [dotB, n46]
  · unfold expN
    rw [if_neg (by omega)]

theorem nameT_parts : ∀ (nm T : List Int), (∀ c ∈ nm, partZ c = true) → (T = [] ∨ (partZ (hd T 0) = false ∧ hd T 0 ≠ 92)) → nameT (nm ++ T) 0 = nm ∧ nameR (nm ++ T) 0 = T
  | [], T, _, h => by
    cases T with
    | nil => exact ⟨rfl, rfl⟩
    | cons c t =>
      obtain ⟨h1, h2⟩ := h.resolve_left (by simp)
      have h1' : partZ c = false := h1
      have h2' : c ≠ 92 := h2
      have he : escB (c :: t) = false := by
        unfold escB
        have : (hd (c :: t) 0 == 92) = false := by
          show (c == 92) = false
          simpa using h2'
        rw [this]
        rfl
      show nameT (c :: t) 0 = [] ∧ nameR (c :: t) 0 = c :: t
      rw [nameT, nameR, h1', he]
      exact ⟨rfl, rfl⟩
  | c :: r, T, hp, h => by
    obtain ⟨e1, e2⟩ := nameT_parts r T (fun x hx => hp x (by simp [hx])) h
    show nameT (c :: (r ++ T)) 0 = c :: r ∧ nameR (c :: (r ++ T)) 0 = T
    rw [nameT, nameR, if_pos (hp c (by simp)), if_pos (hp c (by simp)), e1, e2]
    exact ⟨rfl, rfl⟩
theorem toks_step {l T : List Int} {t : Tok} (hne : l ≠ []) (h : oneZ l = (some t, T)) : toks l = t :: toks T := by
  obtain ⟨c, r, rfl⟩ := List.exists_cons_of_ne_nil hne
  rw [toks_cons, h]
  rfl
/-- A name, and what stands behind it. -/
theorem toks_word {nm T : List Int} (hp : ∀ c ∈ nm, partZ c = true) (hN : nameB (nm ++ T) = true) (h3 : standsB [45, 45, 62] (nm ++ T) = false) (hT : T = [] ∨ (partZ (hd T 0) = false ∧ hd T 0 ≠ 92)) (h40 : hd T 0 ≠ 40) : toks (nm ++ T) = plainTok 1 nm :: toks T := by
  obtain ⟨e1, e2, e3, e4, e5, e6⟩ := name_no hN
  obtain ⟨b1, b2⟩ := nameT_parts nm T hp hT
  have hone : oneZ (nm ++ T) = (some (plainTok 1 nm), T) := by
    unfold oneZ
    rw [e1, e2, e3, e4, e5, e6, h3, hN]
    simp only [Bool.false_eq_true, if_false, if_true]
    unfold wordZ
    rw [b1, b2, if_neg h40]
    rfl
  refine toks_step ?_ hone
  intro e
  rw [e] at hN
  exact absurd hN (by decide)
theorem toks_unit {d nm T : List Int} (hn : Numb d) (hp : ∀ c ∈ nm, partZ c = true) (hN : nameB (nm ++ T) = true) (h1 : hd (nm ++ T) 0 ≠ 101) (h2 : hd (nm ++ T) 0 ≠ 69) (hT : T = [] ∨ (partZ (hd T 0) = false ∧ hd T 0 ≠ 92)) : toks (d ++ (nm ++ T)) = mkTok 12 d nm true false :: toks T := by
  have hU := behind_name hN h1 h2
  obtain ⟨b1, b2⟩ := nameT_parts nm T hp hT
  refine toks_step (numb_ne hn _) ?_
  rw [one_numb hn hU, numZ_of hn hU, hN, b1, b2]
  rfl
theorem toks_num {d : List Int} (hn : Numb d) : toks d = [mkTok 10 d [] true false] := by
  have h1 := one_numb hn behind_nil
  have h2 := numZ_of hn behind_nil
  rw [List.append_nil] at h1 h2
  refine toks_one (by have := numb_ne hn []; rwa [List.append_nil] at this) ?_
  rw [h1, h2]
  rfl

/-! ### as values -/

def toTk (t : Tok) : N.Tk := ⟨t.kind, strT t.text, strT t.unit, t.whole, t.flag, .slice none 0 0⟩
def Asc (l : List Int) : Prop := ∀ c ∈ l, 0 ≤ c ∧ c < 128
theorem asc_bytes : ∀ {l : List Int}, Asc l → bytesZ l = l
  | [], _ => rfl
  | c :: r, h => by
    have hc := h c (by simp)
    rw [bytesZ_cons, Lib.encodeRuneZ_one hc.1 (by omega), asc_bytes (fun x hx => h x (by simp [hx]))]
    rfl
theorem asc_str {l : List Int} (h : Asc l) : N.bytesL (strT l) = l ∧ (strT l).size = l.length := by
  unfold strT
  rw [asc_bytes h]
  exact ⟨N.bytesL_nums (fun n hn => by have := h n hn; omega), N.strOf_size l⟩
/-- The token x is written l. -/
def Good (x : Tok) (l : List Int) : Prop := N.toldT (toTk x) = some l ∧ N.flatK x.kind ∧ (strT x.text).size + (strT x.unit).size ≤ 200
theorem flat1 : N.flatK 1 := ⟨by decide, by decide, by decide, by decide⟩
theorem flat10 : N.flatK 10 := ⟨by decide, by decide, by decide, by decide⟩
theorem flat12 : N.flatK 12 := ⟨by decide, by decide, by decide, by decide⟩
theorem good_id {nm : List Int} (h : Asc nm) (hl : nm.length ≤ 100) : Good (plainTok 1 nm) nm := by
  obtain ⟨e1, e2⟩ := asc_str h
  refine ⟨?_, flat1, ?_⟩
  · show N.toldZ 1 (strT nm) (strT []) false = some nm
    unfold N.toldZ
    rw [if_pos rfl, e1]
  · show (strT nm).size + (strT []).size ≤ 200
    rw [e2]
    have : (strT []).size = 0 := rfl
    omega
theorem good_num {d : List Int} (h : Asc d) (hl : d.length ≤ 100) : Good (mkTok 10 d [] true false) d := by
  obtain ⟨e1, e2⟩ := asc_str h
  refine ⟨?_, flat10, ?_⟩
  · show N.toldZ 10 (strT d) (strT []) true = some d
    unfold N.toldZ
    rw [if_neg (by decide), if_pos rfl, if_pos rfl, e1]
  · show (strT d).size + (strT []).size ≤ 200
    rw [e2]
    have : (strT []).size = 0 := rfl
    omega
theorem good_dim {d nm : List Int} (h : Asc d) (h' : Asc nm) (hl : d.length ≤ 100) (hl' : nm.length ≤ 100) : Good (mkTok 12 d nm true false) (d ++ nm) := by
  obtain ⟨e1, e2⟩ := asc_str h
  obtain ⟨f1, f2⟩ := asc_str h'
  refine ⟨?_, flat12, ?_⟩
  · show N.toldZ 12 (strT d) (strT nm) true = some (d ++ nm)
    unfold N.toldZ
    rw [if_neg (by decide), if_neg (by decide), if_pos rfl, if_pos rfl, e1, f1]
  · show (strT d).size + (strT nm).size ≤ 200
    rw [e2, f2]
    omega
/-- Tokens that are written l, one or two. -/
def Told2 (l : List Int) : Prop := (∃ x, toks l = [x] ∧ Good x l) ∨ (∃ x y l1 l2, toks l = [x, y] ∧ Good x l1 ∧ Good y l2 ∧ l = l1 ++ l2)
theorem told2_of {l : List Int} (h : Told2 l) : N.gathered ((toks l).map toTk) = some l ∧ ((toks l).map toTk).length ≤ 200 ∧ (∀ t ∈ (toks l).map toTk, N.flatK t.k ∧ t.kid = .slice none 0 0) ∧ (∀ t ∈ (toks l).map toTk, t.tx.size + t.un.size ≤ 200) := by
  rcases h with ⟨x, e, g1, g2, g3⟩ | ⟨x, y, l1, l2, e, ⟨g1, g2, g3⟩, ⟨k1, k2, k3⟩, rfl⟩
  · rw [e]
    refine ⟨?_, by simp, ?_, ?_⟩
    · show N.gathered [toTk x] = some l
      rw [N.gathered, g1]
      show some (l ++ []) = some l
      rw [List.append_nil]
    · intro t ht
      rw [List.mem_map] at ht
      obtain ⟨z, hz, rfl⟩ := ht
      rw [List.mem_singleton.1 hz]
      exact ⟨g2, rfl⟩
    · intro t ht
      rw [List.mem_map] at ht
      obtain ⟨z, hz, rfl⟩ := ht
      rw [List.mem_singleton.1 hz]
      exact g3
  · rw [e]
    refine ⟨?_, by simp, ?_, ?_⟩
    · show N.gathered [toTk x, toTk y] = some (l1 ++ l2)
      rw [N.gathered, N.gathered, g1, k1]
      show some (l1 ++ (l2 ++ [])) = some (l1 ++ l2)
      rw [List.append_nil]
    · intro t ht
      rw [List.mem_map] at ht
      obtain ⟨z, hz, rfl⟩ := ht
      rcases List.mem_cons.1 hz with rfl | hz
      · exact ⟨g2, rfl⟩
      · rw [List.mem_singleton.1 hz]
        exact ⟨k2, rfl⟩
    · intro t ht
      rw [List.mem_map] at ht
      obtain ⟨z, hz, rfl⟩ := ht
      rcases List.mem_cons.1 hz with rfl | hz
      · exact g3
      · rw [List.mem_singleton.1 hz]
        exact k3

/-! ### Print's texts -/

def evenL : List Int := [101, 118, 101, 110]
def oddL : List Int := [111, 100, 100]
theorem part_dig {ds : List Int} (h : N.Dig ds) : ∀ c ∈ ds, partZ c = true := by
  intro c hc
  have := digit_yes (h c hc)
  unfold partZ
  rw [this]
  simp
theorem asc_dig {ds : List Int} (h : N.Dig ds) : Asc ds := fun c hc => by have := h c hc; omega
theorem asc_cons {c : Int} {l : List Int} (hc : 0 ≤ c ∧ c < 128) (h : Asc l) : Asc (c :: l) := fun x hx => by
  rcases List.mem_cons.1 hx with rfl | hx
  · exact hc
  · exact h x hx
theorem asc_app {l m : List Int} (h : Asc l) (k : Asc m) : Asc (l ++ m) := fun x hx => (List.mem_append.1 hx).elim (h x) (k x)
theorem told_even : Told2 evenL := .inl ⟨plainTok 1 evenL, toks_word (nm := evenL) (T := []) (by decide) (by decide) (by decide) (.inl rfl) (by decide), good_id (by unfold Asc; decide) (by decide)⟩
theorem told_odd : Told2 oddL := .inl ⟨plainTok 1 oddL, toks_word (nm := oddL) (T := []) (by decide) (by decide) (by decide) (.inl rfl) (by decide), good_id (by unfold Asc; decide) (by decide)⟩
theorem told_numb {d : List Int} (hn : Numb d) (ha : Asc d) (hl : d.length ≤ 100) : Told2 d := .inl ⟨_, toks_num hn, good_num ha hl⟩
/-- A number's sign, and its digits. -/
def Pre (p : List Int) : Prop := p = [] ∨ p = [45] ∨ (Numb p ∧ Asc p)
/-- What is behind n: nothing, a minus and digits, a plus and digits. -/
theorem told_mid {p : List Int} (hp : Pre p) (hpl : p.length ≤ 50) {nm T : List Int} (hnm : ∀ c ∈ nm, partZ c = true) (ha : Asc nm) (hl : nm.length ≤ 50) (hh : ∃ r, nm = 110 :: r) (hT : T = [] ∨ ∃ ds, N.Dig ds ∧ ds ≠ [] ∧ ds.length ≤ 50 ∧ T = 43 :: ds) : Told2 (p ++ (nm ++ T)) := by
  obtain ⟨r, rfl⟩ := hh
  have hT1 : T = [] ∨ (partZ (hd T 0) = false ∧ hd T 0 ≠ 92) := by
    rcases hT with rfl | ⟨ds, _, _, _, rfl⟩
    · exact .inl rfl
    · exact .inr ⟨show partZ 43 = false by decide, show (43 : Int) ≠ 92 by decide⟩
  have h40 : hd T 0 ≠ 40 := by
    rcases hT with rfl | ⟨ds, _, _, _, rfl⟩
    · decide
    · exact show (43 : Int) ≠ 40 by decide
  have fin : ∀ {l : List Int} {x : Tok}, Good x l → toks (l ++ T) = x :: toks T → Told2 (l ++ T) := by
    intro l x hg ht
    rcases hT with rfl | ⟨ds, hd1, hne, hdl, rfl⟩
    · left
      rw [List.append_nil] at ht ⊢
      exact ⟨x, ht, hg⟩
    · right
      have hn : Numb (43 :: ds) := ⟨ds, hd1, hne, .inr (.inr rfl)⟩
      rw [toks_num hn] at ht
      exact ⟨x, _, l, 43 :: ds, ht, hg, good_num (asc_cons (by decide) (asc_dig hd1)) (by simp; omega), rfl⟩
  have hN : nameB ((110 :: r) ++ T) = true := by
    unfold nameB
    have : (hd ((110 :: r) ++ T) 0 == 45) = false := rfl
    rw [this]
    rfl
  rcases hp with rfl | rfl | ⟨hn, hpa⟩
  · exact fin (l := 110 :: r) (good_id ha (by omega)) (toks_word hnm hN rfl hT1 h40)
  · have h1 : ∀ c ∈ (45 :: 110 :: r), partZ c = true := by
      intro c hc
      rcases List.mem_cons.1 hc with rfl | hc
      · decide
      · exact hnm c hc
    exact fin (l := 45 :: 110 :: r) (good_id (asc_cons (by decide) ha) (by simp at hl ⊢; omega)) (toks_word h1 rfl rfl hT1 h40)
  · have := fin (l := p ++ (110 :: r)) (good_dim hpa ha (by omega) (by omega)) (by rw [List.append_assoc]; exact toks_unit hn hnm hN (show (110 : Int) ≠ 101 by decide) (show (110 : Int) ≠ 69 by decide) hT1)
    rw [List.append_assoc] at this
    exact this

end Go.Proofs.YtpflliophellgaaGreatDoor
