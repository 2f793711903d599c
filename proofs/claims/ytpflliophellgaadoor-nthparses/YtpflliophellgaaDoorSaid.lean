/- What the document says of a text, and that the program's reading says the same. -/
import Derived.Test.YtpflliophellgaaDoorParseN
import Derived.Test.YtpflliophellgaaDoorWholeN
import Derived.Test.YtpflliophellgaaDoorBlankN
namespace Go.Proofs.YtpflliophellgaaDoor
open Go.RowKit

theorem bytesL_ext {a b : ByteArray} (h : bytesL a = bytesL b) : a = b := by rw [← bytesL_str a, ← bytesL_str b, h]
theorem bytesL_extract (s : ByteArray) (i j : Nat) : bytesL (s.extract i j) = ((bytesL s).drop i).take (j - i) := by
  unfold bytesL
  rw [ByteArray.data_extract, Array.toList_extract, List.extract_eq_take_drop, ← List.map_drop, ← List.map_take]
theorem bytesL_tail (s : ByteArray) (i : Nat) : bytesL (s.extract i s.size) = (bytesL s).drop i := by
  rw [bytesL_extract, List.take_of_length_le]
  rw [List.length_drop, bytesL_size]
  exact Nat.le_refl _
theorem bytesL_append (a b : ByteArray) : bytesL (a ++ b) = bytesL a ++ bytesL b := by
  unfold bytesL
  rw [ByteArray.data_append, Array.toList_append, List.map_append]
theorem size_0 {s : ByteArray} : s.size = 0 ↔ bytesL s = [] := by
  rw [← bytesL_size]
  exact List.length_eq_zero_iff
theorem head_is {s : ByteArray} {c : Int} {r : List Int} (h : bytesL s = c :: r) : ∃ h0 : 0 < s.size, ((s[0]'h0).toNat : Int) = c := by
  have hs : 0 < s.size := by rw [← bytesL_size, h]; simp
  refine ⟨hs, ?_⟩
  rw [← byte_at s 0 hs, h]
  rfl

/-- On lists: the sign, what is behind, one blank less, whether the sign is a minus. -/
def sgnL : List Int → List Int × List Int
  | [] => ([], [])
  | c :: r => if c = 43 ∨ c = 45 then ([c], r) else ([], c :: r)
def trimL : List Int → List Int
  | [] => []
  | c :: r => if c = 32 then r else c :: r
theorem sgnL_cons (c : Int) (r : List Int) : sgnL (c :: r) = if c = 43 ∨ c = 45 then ([c], r) else ([], c :: r) := rfl
theorem trimL_cons (c : Int) (r : List Int) : trimL (c :: r) = if c = 32 then r else c :: r := rfl
def dirL (sg : List Int) : Int := if sg = [45] then -1 else 1
theorem sgn_list (s : ByteArray) : bytesL (sgnZ s).1 = (sgnL (bytesL s)).1 ∧ bytesL (sgnZ s).2 = (sgnL (bytesL s)).2 := by
  cases h : bytesL s with
  | nil =>
    have e := empty_of (size_0.2 h)
    subst e
    exact ⟨rfl, rfl⟩
  | cons c r =>
    obtain ⟨h0, hc⟩ := head_is h
    have ht := bytesL_tail s 1
    rw [h] at ht
    unfold sgnZ
    rw [dif_pos h0, sgnL_cons]
    by_cases h1 : (s[0]'h0).toNat = 43
    · rw [if_pos h1, if_pos (by omega)]
      exact ⟨by have : c = 43 := by omega
                subst this; rfl, ht⟩
    · rw [if_neg h1]
      by_cases h2 : (s[0]'h0).toNat = 45
      · rw [if_pos h2, if_pos (by omega)]
        exact ⟨by have : c = 45 := by omega
                  subst this; rfl, ht⟩
      · rw [if_neg h2, if_neg (by omega)]
        exact ⟨rfl, h⟩
theorem trim_list (s : ByteArray) : bytesL (trimZ s) = trimL (bytesL s) := by
  cases h : bytesL s with
  | nil =>
    have e := empty_of (size_0.2 h)
    subst e
    rfl
  | cons c r =>
    obtain ⟨h0, hc⟩ := head_is h
    have ht := bytesL_tail s 1
    rw [h] at ht
    unfold trimZ
    rw [dif_pos h0, trimL_cons]
    by_cases h1 : (s[0]'h0).toNat = 32
    · rw [if_pos h1, if_pos (by omega)]
      exact ht
    · rw [if_neg h1, if_neg (by omega)]
      exact h
theorem dir_list (sg : ByteArray) : dirB sg = dirL (bytesL sg) := by
  unfold dirB dirL
  by_cases h : sg = ⟨#[45]⟩
  · rw [if_pos h, if_pos (by rw [h]; rfl)]
  · rw [if_neg h, if_neg (show ¬ bytesL sg = [45] from fun e => h (bytesL_ext (b := ⟨#[45]⟩) e))]

/-- The document's whole number of a list. -/
def wholeL (l : List Int) : Int × Bool := if (sgnL l).2 ≠ [] ∧ digB (sgnL l).2 = true then (dirL (sgnL l).1 * satL (sgnL l).2, true) else (0, false)
theorem whole_list (s : ByteArray) : intV (negB s) (bytesL (bodyS s)) = wholeL (bytesL s) := by
  have h1 : bytesL (bodyS s) = (sgnL (bytesL s)).2 := by
    unfold bodyS sgnB
    cases h : bytesL s with
    | nil =>
      have e := empty_of (size_0.2 h)
      subst e
      rfl
    | cons c r =>
      obtain ⟨h0, hc⟩ := head_is h
      have ht := bytesL_tail s 1
      rw [h] at ht
      have hg := get_at s h0
      rw [sgnL_cons]
      by_cases hs : c = 43 ∨ c = 45
      · rw [if_pos hs, if_pos (by rw [hg]; simp [h0]; omega)]
        exact ht
      · rw [if_neg hs, if_neg (by rw [hg]; simp [h0]; omega)]
        exact h
  have h2 : ∀ n, negZ (negB s) n = dirL (sgnL (bytesL s)).1 * n := by
    intro n
    unfold negB negZ
    cases h : bytesL s with
    | nil =>
      have e := empty_of (size_0.2 h)
      subst e
      show n = 1 * n
      omega
    | cons c r =>
      obtain ⟨h0, hc⟩ := head_is h
      have hg := get_at s h0
      rw [hg, sgnL_cons]
      by_cases h45 : c = 45
      · rw [if_pos (by simp [h0]; omega), if_pos (show c = 43 ∨ c = 45 from .inr h45)]
        subst h45
        show -n = -1 * n
        omega
      · rw [if_neg (by simp [h0]; omega)]
        by_cases h43 : c = 43
        · rw [if_pos (show c = 43 ∨ c = 45 from .inl h43)]
          subst h43
          show n = 1 * n
          omega
        · rw [if_neg (show ¬ (c = 43 ∨ c = 45) by omega)]
          show n = 1 * n
          omega
  unfold intV wholeL
  rw [h1]
  split
  · rw [h2]
  · rfl

/-- What stands behind n, by the document. -/
def behindR (l : List Int) : Int × Bool :=
  if l = [] then (0, true)
  else if trimL l = [] ∨ ¬ ((trimL l).headD 0 = 43 ∨ (trimL l).headD 0 = 45) then (0, false)
  else if trimL ((trimL l).drop 1) = [] ∨ ¬ (48 ≤ (trimL ((trimL l).drop 1)).headD 0 ∧ (trimL ((trimL l).drop 1)).headD 0 ≤ 57) then (0, false)
  else wholeL ((trimL l).take 1 ++ trimL ((trimL l).drop 1))
/-- Where the first n stands. -/
def nAt : List Int → Nat
  | [] => 0
  | c :: r => if c = 110 then 0 else nAt r + 1
def headR (h : List Int) : List Int := if h = [] ∨ h = [43] ∨ h = [45] then h ++ [49] else h
def nextR (l : List Int) : Int × Int × Bool :=
  if nAt l = l.length then (0, 0, false)
  else if (wholeL (headR (l.take (nAt l)))).2 = false then (0, 0, false)
  else if (behindR (l.drop (nAt l + 1))).2 = false then (0, 0, false)
  else ((wholeL (headR (l.take (nAt l)))).1, (behindR (l.drop (nAt l + 1))).1, true)
def saidL (l : List Int) : Int × Int × Bool := if (wholeL l).2 = true then (0, (wholeL l).1, true) else nextR l

theorem digN_all {l : List Int} (h : digB l = true) : digN l = l.length := digN_at l l.length (by rw [List.take_length]; exact (digB_iff l).1 h) (Nat.le_refl _) (.inl rfl)
theorem all_digN {l : List Int} (h : digN l = l.length) : digB l = true := by
  have := dig_take l
  rw [h, List.take_length] at this
  exact (digB_iff l).2 this
theorem behind_list (s : ByteArray) : behindZ s = behindR (bytesL s) := by
  have hs := sgn_list (trimZ s)
  have ht := trim_list s
  have ht2 := trim_list (sgnZ (trimZ s)).2
  have hz : (trimZ (sgnZ (trimZ s)).2).size = (bytesL (trimZ (sgnZ (trimZ s)).2)).length := (bytesL_size _).symm
  have he : (sgnZ (trimZ s)).1 = ⟨#[]⟩ ↔ (sgnL (trimL (bytesL s))).1 = [] := by
    rw [← ht, ← hs.1]
    exact ⟨fun h => by rw [h]; rfl, fun h => empty_of (size_0.2 h)⟩
  unfold behindZ behindR
  rw [dir_list, hs.1, hz, ht2, hs.2, ht]
  by_cases h0 : bytesL s = []
  · rw [if_pos (size_0.2 h0), if_pos h0]
  rw [if_neg (fun h => h0 (size_0.1 h)), if_neg h0]
  generalize trimL (bytesL s) = t at *
  cases t with
  | nil =>
    rw [if_pos (.inl (he.2 rfl)), if_pos (.inl rfl)]
  | cons c r =>
    by_cases hc : c = 43 ∨ c = 45
    · have e1 : sgnL (c :: r) = ([c], r) := by rw [sgnL_cons, if_pos hc]
      have e3 : (c :: r).drop 1 = r := rfl
      have e4 : (c :: r).take 1 = [c] := rfl
      have e5 : (c :: r).headD 0 = c := rfl
      rw [e1] at he ⊢
      rw [e3, e4, e5]
      simp only
      have hne : ¬ (sgnZ (trimZ s)).1 = ⟨#[]⟩ := fun h => by simpa using he.1 h
      rw [if_neg (show ¬ ((c :: r) = [] ∨ ¬ (c = 43 ∨ c = 45)) by simp [hc])]
      generalize trimL r = u at *
      have hle := digN_le u
      have e6 : sgnL ([c] ++ u) = ([c], u) := by
        show sgnL (c :: u) = _
        rw [sgnL_cons]
        rw [if_pos hc]
      cases u with
      | nil => rw [if_pos (.inr (.inl rfl)), if_pos (.inl rfl)]
      | cons d v =>
        have e7 : (d :: v).headD 0 = d := rfl
        rw [e7]
        by_cases hd : 48 ≤ d ∧ d ≤ 57
        · rw [if_neg (show ¬ ((d :: v) = [] ∨ ¬ (48 ≤ d ∧ d ≤ 57)) by simp [hd])]
          have hp : digN (d :: v) ≠ 0 := by
            rw [digN, if_pos (digit_yes hd)]
            omega
          unfold wholeL
          rw [e6]
          simp only
          by_cases hall : digN (d :: v) = (d :: v).length
          · rw [if_neg (by rintro (h | h | h) <;> first | exact hne h | exact hp h | omega), if_pos ⟨by simp, all_digN hall⟩, hall, List.take_length]
          · rw [if_pos (.inr (.inr (by omega))), if_neg (fun h => hall (digN_all h.2))]
        · rw [if_pos (show ((d :: v) = [] ∨ ¬ (48 ≤ d ∧ d ≤ 57)) from .inr hd)]
          rw [if_pos]
          refine .inr (.inl ?_)
          rw [digN, if_neg]
          unfold digitZ
          simp
          omega
    · have e1 : sgnL (c :: r) = ([], c :: r) := by rw [sgnL_cons, if_neg hc]
      rw [e1] at he
      rw [if_pos (.inl (he.2 rfl)), if_pos (.inr hc)]

theorem nAt_app : ∀ (a : List Int) (c : Int) (r : List Int), (∀ x ∈ a, x ≠ 110) → nAt (a ++ c :: r) = if c = 110 then a.length else a.length + 1 + nAt r
  | [], c, r, _ => by
    show nAt (c :: r) = _
    rw [nAt]
    split
    · rfl
    · simp; omega
  | x :: a, c, r, h => by
    show nAt (x :: (a ++ c :: r)) = _
    rw [nAt, if_neg (h x (by simp)), nAt_app a c r (fun y hy => h y (by simp [hy]))]
    split <;> simp <;> omega
theorem nAt_none : ∀ (a : List Int), (∀ x ∈ a, x ≠ 110) → nAt a = a.length
  | [], _ => rfl
  | x :: a, h => by
    rw [nAt, if_neg (h x (by simp)), nAt_none a (fun y hy => h y (by simp [hy]))]
    rfl
theorem sgnL_app (l : List Int) : l = (sgnL l).1 ++ (sgnL l).2 := by
  cases l with
  | nil => rfl
  | cons c r =>
    rw [sgnL_cons]
    split <;> rfl
theorem sgnL_cases (l : List Int) : (sgnL l).1 = [] ∨ (sgnL l).1 = [43] ∨ (sgnL l).1 = [45] := by
  cases l with
  | nil => exact .inl rfl
  | cons c r =>
    rw [sgnL_cons]
    split
    · rename_i h
      rcases h with rfl | rfl
      · exact .inr (.inl rfl)
      · exact .inr (.inr rfl)
    · exact .inl rfl
/-- The same sign, whatever stands behind, where something stands ahead of it. -/
theorem sgnL_keep {sg t : List Int} (l : List Int) (h : sgnL l = (sg, t)) (u : List Int) (hu : sg = [] → sgnL u = ([], u)) : sgnL (sg ++ u) = (sg, u) := by
  have hc := sgnL_cases l
  rw [h] at hc
  simp only at hc
  rcases hc with rfl | rfl | rfl
  · exact hu rfl
  · rfl
  · rfl
theorem said_list (l : List Int) (hd : digN (sgnL l).2 ≤ (sgnL l).2.length) :
    (if (sgnL l).2.drop (digN (sgnL l).2) = [] then (0, dirL (sgnL l).1 * satL ((sgnL l).2.take (digN (sgnL l).2)), decide (0 < digN (sgnL l).2))
      else if ((sgnL l).2.drop (digN (sgnL l).2)).headD 0 ≠ 110 then (0, 0, false)
      else if (behindR (((sgnL l).2.drop (digN (sgnL l).2)).drop 1)).2 = false then (0, 0, false)
      else (dirL (sgnL l).1 * (if decide (0 < digN (sgnL l).2) then satL ((sgnL l).2.take (digN (sgnL l).2)) else 1), (behindR (((sgnL l).2.drop (digN (sgnL l).2)).drop 1)).1, true)) = saidL l := by
  have happ := sgnL_app l
  have hcs := sgnL_cases l
  have hkeep := fun u hu => sgnL_keep (sg := (sgnL l).1) (t := (sgnL l).2) l rfl u hu
  have hself : (sgnL l).1 = [] → sgnL (sgnL l).2 = ([], (sgnL l).2) := by
    intro h
    have h2 : (sgnL l).2 = l := by
      rw [h] at happ
      exact happ.symm
    rw [h2]
    exact Prod.ext h h2
  have hw : ∀ u, ((sgnL l).1 = [] → sgnL u = ([], u)) → wholeL ((sgnL l).1 ++ u) = if u ≠ [] ∧ digB u = true then (dirL (sgnL l).1 * satL u, true) else (0, false) := by
    intro u hu
    unfold wholeL
    rw [hkeep u hu]
  have hwl := hw (sgnL l).2 hself
  rw [← happ] at hwl
  have hdt := dig_take (sgnL l).2
  have htd := List.take_append_drop (digN (sgnL l).2) (sgnL l).2
  have hsn : ∀ x ∈ (sgnL l).1, x ≠ 110 := by
    rcases hcs with h | h | h <;> rw [h] <;> simp
  have hall : digN (sgnL l).2 = (sgnL l).2.length → digB (sgnL l).2 = true := all_digN
  have hall2 : digB (sgnL l).2 = true → digN (sgnL l).2 = (sgnL l).2.length := digN_all
  have hndig : ∀ c r, (sgnL l).2.drop (digN (sgnL l).2) = c :: r → ¬ (48 ≤ c ∧ c ≤ 57) := by
    intro c r h hc
    have hlt : digN (sgnL l).2 < (sgnL l).2.length := by
      have := congrArg List.length h
      rw [List.length_drop, List.length_cons] at this
      omega
    have e : (sgnL l).2.take (digN (sgnL l).2) ++ c :: r = (sgnL l).2 := by rw [← h]; exact htd
    have : ∀ (a : List Int) (c : Int) (r : List Int), Dig a → 48 ≤ c ∧ c ≤ 57 → a.length < digN (a ++ c :: r) := by
      intro a
      induction a with
      | nil =>
        intro c r _ hc
        show 0 < digN (c :: r)
        rw [digN, if_pos (digit_yes hc)]
        omega
      | cons x a ih =>
        intro c r ha hc
        show a.length + 1 < digN (x :: (a ++ c :: r))
        rw [digN, if_pos (digit_yes (ha x (by simp)))]
        have := ih c r (fun y hy => ha y (by simp [hy])) hc
        omega
    have h3 := this _ c r hdt hc
    rw [e, List.length_take] at h3
    omega
  generalize hsg : (sgnL l).1 = sg at *
  generalize ht : (sgnL l).2 = t at *
  have hdl : (t.take (digN t)).length = digN t := by rw [List.length_take]; omega
  unfold saidL
  cases hr : t.drop (digN t) with
  | nil =>
    rw [if_pos rfl]
    have hlen : digN t = t.length := by
      have := congrArg List.length hr
      rw [List.length_drop] at this
      simp at this
      omega
    rw [hlen, List.take_length]
    by_cases h0 : t = []
    · have hwf : wholeL l = (0, false) := by rw [hwl, if_neg (by simp [h0])]
      rw [hwf, if_neg (show ¬ ((0, false) : Int × Bool).2 = true by decide)]
      subst h0
      unfold nextR
      have hn : nAt l = l.length := by
        rw [happ]
        exact nAt_none _ (by simpa using hsn)
      rw [if_pos hn]
      simp [satL]
    · have hwt : wholeL l = (dirL sg * satL t, true) := by rw [hwl, if_pos ⟨h0, hall hlen⟩]
      rw [hwt, if_pos (show ((dirL sg * satL t, true) : Int × Bool).2 = true from rfl)]
      have : 0 < t.length := by
        cases t with
        | nil => exact absurd rfl h0
        | cons _ _ => simp
      simp [this]
  | cons c r =>
    rw [if_neg (by simp)]
    have hnd := hndig c r hr
    have hlt : digN t < t.length := by
      have := congrArg List.length hr
      rw [List.length_drop, List.length_cons] at this
      omega
    rw [hr] at htd
    have hwf : (wholeL l).2 = false := by
      rw [hwl, if_neg]
      rintro ⟨_, h⟩
      have := hall2 h
      omega
    rw [if_neg (show ¬ (wholeL l).2 = true by rw [hwf]; decide)]
    have hpre : ∀ x ∈ sg ++ t.take (digN t), x ≠ 110 := by
      intro x hx
      rcases List.mem_append.1 hx with h | h
      · exact hsn x h
      · have := hdt x h
        omega
    have hl2 : l = (sg ++ t.take (digN t)) ++ c :: r := by rw [List.append_assoc, htd]; exact happ
    have hn := nAt_app (sg ++ t.take (digN t)) c r hpre
    rw [← hl2] at hn
    have e1 : (c :: r).headD 0 = c := rfl
    have e2 : (c :: r).drop 1 = r := rfl
    rw [e1, e2]
    unfold nextR
    have hll : l.length = (sg ++ t.take (digN t)).length + 1 + r.length := by
      rw [congrArg List.length hl2, List.length_append, List.length_cons]
      omega
    by_cases hc : c = 110
    · rw [if_neg (by simp [hc])]
      rw [if_pos hc] at hn
      rw [if_neg (show ¬ nAt l = l.length by omega), hn]
      have e3 : l.take (sg ++ t.take (digN t)).length = sg ++ t.take (digN t) := by
        rw [congrArg (List.take _) hl2, List.take_left']
        rfl
      have e4 : l.drop ((sg ++ t.take (digN t)).length + 1) = r := by
        rw [congrArg (List.drop _) hl2, ← List.drop_drop, List.drop_left']
        · rfl
        · rfl
      rw [e3, e4]
      have hwh : wholeL (headR (sg ++ t.take (digN t))) = (dirL sg * (if decide (0 < digN t) then satL (t.take (digN t)) else 1), true) := by
        by_cases hz : digN t = 0
        · have e5 : t.take (digN t) = [] := by rw [hz]; rfl
          rw [e5, List.append_nil]
          unfold headR
          rw [if_pos (by rcases hcs with h | h | h <;> simp [h])]
          rw [hw [49] (fun _ => rfl), if_pos ⟨by simp, rfl⟩]
          have h49 : satL [49] = 1 := by decide
          rw [h49, if_neg (by simp [hz])]
        · have hne : t.take (digN t) ≠ [] := by
            intro h
            have := congrArg List.length h
            rw [hdl] at this
            exact hz this
          have hdg : digB (t.take (digN t)) = true := (digB_iff _).2 hdt
          have hsd : sgnL (t.take (digN t)) = ([], t.take (digN t)) := by
            cases hx : t.take (digN t) with
            | nil => exact absurd hx hne
            | cons x y =>
              have := hdt x (by rw [hx]; simp)
              rw [sgnL_cons]
              rw [if_neg (by omega)]
          unfold headR
          rw [if_neg]
          · rw [hw _ (fun _ => hsd), if_pos ⟨hne, hdg⟩]
            simp [Nat.pos_of_ne_zero hz]
          · cases hx : t.take (digN t) with
            | nil => exact absurd hx hne
            | cons x y =>
              have := hdt x (by rw [hx]; simp)
              rcases hcs with h | h | h <;> rw [h] <;> simp <;> omega
      rw [hwh]
      simp only
      rw [if_neg (show ¬ (true = false) by decide)]
    · rw [if_pos (by simp [hc])]
      rw [if_neg hc] at hn
      by_cases hln : nAt l = l.length
      · rw [if_pos hln]
      · rw [if_neg hln, if_pos]
        have e3 : l.take (nAt l) = sg ++ (t.take (digN t) ++ c :: r.take (nAt r)) := by
          rw [hn, congrArg (List.take _) hl2]
          have : (sg ++ t.take (digN t)).length + 1 + nAt r = (sg ++ t.take (digN t)).length + (nAt r + 1) := by omega
          rw [this, List.take_length_add_append, List.take_succ_cons, List.append_assoc]
        have hs0 : sg = [] → sgnL (t.take (digN t) ++ c :: r.take (nAt r)) = ([], t.take (digN t) ++ c :: r.take (nAt r)) := by
          intro h
          have := hself h
          rw [← htd] at this
          cases hx : t.take (digN t) with
          | nil =>
            rw [hx] at this
            have this2 : sgnL (c :: r) = ([], c :: r) := this
            show sgnL (c :: r.take (nAt r)) = ([], c :: r.take (nAt r))
            rw [sgnL_cons] at this2 ⊢
            by_cases hq : c = 43 ∨ c = 45
            · rw [if_pos hq] at this2
              cases this2
            · rw [if_neg hq]
          | cons x y =>
            have := hdt x (by rw [hx]; simp)
            show sgnL (x :: (y ++ c :: r.take (nAt r))) = _
            rw [sgnL_cons]
            rw [if_neg (by omega)]
            rfl
        have hdb : ¬ digB (t.take (digN t) ++ c :: r.take (nAt r)) = true := by
          intro h
          exact hnd ((digB_iff _).1 h c (by simp))
        rw [e3]
        unfold headR
        rw [if_neg, hw _ hs0, if_neg (fun h => hdb h.2)]
        rintro (h | h | h)
        · simp at h
        · have hx := congrArg List.length h
          rcases hcs with hq | hq | hq
          · have := hs0 hq
            rw [hq, List.nil_append] at h
            rw [h] at this
            cases this
          · rw [hq] at hx; simp at hx
          · rw [hq] at hx; simp at hx
        · have hx := congrArg List.length h
          rcases hcs with hq | hq | hq
          · have := hs0 hq
            rw [hq, List.nil_append] at h
            rw [h] at this
            cases this
          · rw [hq] at hx; simp at hx
          · rw [hq] at hx; simp at hx
theorem cut_said (s : ByteArray) : cutT s = saidL (bytesL s) := by
  have hs := sgn_list s
  rw [← said_list (bytesL s) (digN_le _), ← hs.1, ← hs.2, ← dir_list]
  unfold cutT cutN
  generalize (sgnZ s).2 = t at *
  have hr : bytesL (t.extract (digN (bytesL t)) t.size) = (bytesL t).drop (digN (bytesL t)) := bytesL_tail t _
  rw [← hr]
  generalize t.extract (digN (bytesL t)) t.size = rest at *
  by_cases h0 : bytesL rest = []
  · rw [if_pos (size_0.2 h0), if_pos h0]
  · rw [if_neg (fun h => h0 (size_0.1 h)), if_neg h0]
    cases hx : bytesL rest with
    | nil => exact absurd hx h0
    | cons c r =>
      obtain ⟨g0, hc⟩ := head_is hx
      have ht := bytesL_tail rest 1
      rw [hx] at ht
      have e1 : (c :: r).headD 0 = c := rfl
      rw [e1]
      have hn : nB rest = false ↔ c ≠ 110 := by
        unfold nB
        rw [dif_pos g0]
        rw [Bool.eq_false_iff]
        simp
        omega
      by_cases h1 : c ≠ 110
      · rw [if_pos (hn.2 h1), if_pos h1]
      · rw [if_neg (fun h => h1 (hn.1 h)), if_neg h1, behind_list, ht]

end Go.Proofs.YtpflliophellgaaDoor
