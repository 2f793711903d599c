/- The document's reading of selectors, plainly: it is the program's. Selectors of two lists of values with a Comma between. Values without Kids: the selectors that they tell have no Lists. Two texts with a comma between: their selectors. selector.Same of one and the same selectors without Lists. -/
import Derived.Test.YtdibldcnklgcjaaGreatDoorLRk
import Derived.Test.YtdibldcnklgcjaaGreatDoorJRn
import Derived.Test.YtdibldcnklgcjaaGreatDoorLTx
import Derived.Test.YtdibldcnklgcjaaGreatDoorLMs
import Derived.Test.YtdibldcnklgcjaaGreatDoorLSe
namespace Go.Proofs.YtdibldcnklgcjaaGreatDoor.L
open Go.RowKit
set_option maxRecDepth 100000

def spB (v : V) : Bool := v.tok.k == 13
def cmB (v : V) : Bool := v.tok.k == 18
theorem tw_all {α : Type} {p : α → Bool} : ∀ {l : List α} {v : α}, v ∈ l.takeWhile p → p v = true
  | a :: l, v, h => by
    rw [List.takeWhile_cons] at h
    split at h
    · rename_i ha
      rcases List.mem_cons.1 h with rfl | h
      · exact ha
      · exact tw_all h
    · cases h
theorem dw_nil {α : Type} {p : α → Bool} : ∀ {l : List α}, l.dropWhile p = [] ↔ ∀ x ∈ l, p x = true
  | [] => by simp
  | a :: l => by
    rw [List.dropWhile_cons]
    split
    · rename_i ha
      rw [dw_nil (l := l)]
      constructor
      · intro h x hx
        rcases List.mem_cons.1 hx with rfl | hx
        · exact ha
        · exact h x hx
      · exact fun h x hx => h x (by simp [hx])
    · rename_i ha
      simp [ha]
theorem spc_def (l : List V) : spc l = l.dropWhile spB := rfl
/-- Without Spaces at the ends. -/
def trm (l : List V) : List V := ((spc l).reverse.dropWhile spB).reverse
/-- Nothing, or what does not end with a Space. -/
def NE (l : List V) : Prop := ∀ v, l.getLast? = some v → spB v = false
theorem NE.nil : NE [] := fun v h => by cases h
theorem NE.suf {a b : List V} (h : NE (a ++ b)) : NE b := fun v hv => h v (by rw [List.getLast?_append, hv]; rfl)
theorem NE.drop {l : List V} (h : NE l) (n : Nat) : NE (l.drop n) := by
  rw [← List.take_append_drop n l] at h
  exact h.suf
theorem NE.sp {l : List V} (h : NE l) : NE (spc l) := by
  obtain ⟨a, e⟩ := List.dropWhile_suffix spB (l := l)
  rw [← e] at h
  exact h.suf
theorem dw_rev {l : List V} (h : NE l) : l.reverse.dropWhile spB = l.reverse := by
  cases hl : l.reverse with
  | nil => rfl
  | cons v r =>
    have e : l = r.reverse ++ [v] := by rw [← List.reverse_reverse l, hl, List.reverse_cons]
    have := h v (by rw [e]; simp)
    rw [List.dropWhile_cons, this]
    rfl
theorem trm_ne {l : List V} (h : NE l) : trm l = spc l := by
  unfold trm
  rw [dw_rev h.sp, List.reverse_reverse]
theorem ne_rev (l : List V) : NE (l.dropWhile spB).reverse := fun v hv => by
  rw [List.getLast?_reverse] at hv
  exact List.head?_dropWhile_not spB l |> fun h => by rw [hv] at h; exact h
theorem trm_split (l : List V) : ∃ S, spc l = trm l ++ S ∧ (∀ v ∈ S, spB v = true) ∧ NE (trm l) := by
  refine ⟨((spc l).reverse.takeWhile spB).reverse, ?_, fun v hv => ?_, ne_rev _⟩
  · unfold trm
    rw [← List.reverse_append, List.takeWhile_append_dropWhile, List.reverse_reverse]
  · exact tw_all (List.mem_reverse.1 hv)
theorem spc_app (t T : List V) : spc (t ++ T) = if (spc t).isEmpty = true then spc T else spc t ++ T := List.dropWhile_append
theorem spc_all {S : List V} (h : ∀ v ∈ S, spB v = true) (T : List V) : spc (S ++ T) = spc T := by
  rw [spc_app, if_pos]
  rw [spc_def, List.isEmpty_iff, dw_nil]
  exact h
theorem spc_nil_all {t : List V} (h : spc t = []) : ∀ v ∈ t, spB v = true := dw_nil.1 h
theorem NE.some {t : List V} (h : NE t) (h0 : t ≠ []) : spc t ≠ [] := fun e => by
  have hl := List.getLast?_eq_some_getLast h0
  have h1 := h _ hl
  have h2 := spc_nil_all e _ (List.getLast_mem h0)
  rw [h1] at h2
  cases h2
theorem spc_app_ne {t : List V} (h : NE t) (h0 : t ≠ []) (T : List V) : spc (t ++ T) = spc t ++ T := by
  rw [spc_app, if_neg]
  rw [List.isEmpty_iff]
  exact h.some h0
/-- What ends a compound selector: the end, a Space, a Comma. -/
def St (T : List V) : Prop := ∀ v r, T = v :: r → v.tok.k = 13 ∨ v.tok.k = 18
theorem otherR_st {T : List V} (h : St T) : otherR T = none := by
  cases T with
  | nil => rfl
  | cons v r =>
    have hv := h v r rfl
    have e4 : (v.tok.k == 4) = false := by rcases hv with e | e <;> rw [e] <;> rfl
    have e9 : (v.tok.k == 9) = false := by rcases hv with e | e <;> rw [e] <;> rfl
    have e19 : (v.tok.k == 19) = false := by rcases hv with e | e <;> rw [e] <;> rfl
    have e16 : (v.tok.k == 16) = false := by rcases hv with e | e <;> rw [e] <;> rfl
    have i1 : idR (v :: r) = none := by unfold idR; simp only [e4, Bool.false_and]; rfl
    have i2 : classR (v :: r) = none := by
      cases r with
      | nil => rfl
      | cons u r => unfold classR; rw [show dlm (v :: u :: r) 0 dotB = (v.tok.k == 9 && (v.tok.tx.toList == dotB.toList)) from rfl, e9]; rfl
    have i3 : attrR (v :: r) = none := by unfold attrR; simp only [e19]; rfl
    have ha : ahd (v :: r) 0 16 = false := e16
    have i4 : stateR (v :: r) = none := by
      unfold stateR
      split
      · rw [ha]; rfl
      · rfl
    have i5 : fnR (v :: r) = 0 := by
      unfold fnR
      split
      · rw [ha]; rfl
      · rfl
    have i6 : placeR (v :: r) = none := by
      unfold placeR
      split
      · rw [i5]; rfl
      · rfl
    have i7 : choiceR (v :: r) = none := by
      unfold choiceR
      split
      · rw [i5]; rfl
      · rfl
    unfold otherR
    rw [i1, i2, i3, i4, i6, i7]
    rfl
theorem otherR_app {t T : List V} (h0 : t ≠ []) (h : St T) : otherR (t ++ T) = otherR t := by
  match t, h0 with
  | v :: u :: r, _ => rfl
  | [v], _ =>
    cases T with
    | nil => rfl
    | cons x T =>
      have hv := h x T rfl
      have e1 : (x.tok.k == 1) = false := by rcases hv with e | e <;> rw [e] <;> rfl
      have e2 : (x.tok.k == 2) = false := by rcases hv with e | e <;> rw [e] <;> rfl
      have i2 : classR (v :: x :: T) = none := by show (if (dlm (v :: x :: T) 0 dotB && (x.tok.k == 1)) = true then _ else _) = _; rw [e1, Bool.and_false]; rfl
      have i4 : stateR (v :: x :: T) = none := by
        show (if (ahd (v :: x :: T) 0 16 && (x.tok.k == 1)) = true then _ else _) = _
        rw [e1, Bool.and_false]; rfl
      have i5 : fnR (v :: x :: T) = 0 := by
        show (if (ahd (v :: x :: T) 0 16 && (x.tok.k == 2)) = true then _ else _) = _
        rw [e2, Bool.and_false]; rfl
      have i6 : placeR (v :: x :: T) = none := by
        show (if (plcB (fnR (v :: x :: T)) && _) = true then _ else _) = _
        rw [i5]; rfl
      have i7 : choiceR (v :: x :: T) = none := by
        show (if lstB (fnR (v :: x :: T)) = true then _ else _) = _
        rw [i5]; rfl
      show otherR (v :: x :: T) = otherR [v]
      unfold otherR
      rw [i2, i4, i6, i7]
      rfl
theorem othZ_app {T : List V} (h : St T) : ∀ (m : Nat) (t : List V), t.length ≤ m → othZ (t ++ T) = ((othZ t).1, (othZ t).2 ++ T)
  | m, t, hm => by
    cases ho : otherR t with
    | none =>
      have e : otherR (t ++ T) = none := by
        by_cases h0 : t = []
        · subst h0
          exact otherR_st h
        · rw [otherR_app h0 h]
          exact ho
      rw [othZ_none e, othZ_none ho]
    | some x =>
      obtain ⟨l, n⟩ := x
      obtain ⟨_, _, h1, h2, _⟩ := otherR_ok t l n ho
      have h0 : t ≠ [] := fun e => by rw [e] at ho; cases ho
      have e : otherR (t ++ T) = some (l, n) := by rw [otherR_app h0 h]; exact ho
      cases m with
      | zero => omega
      | succ m =>
        have ih := othZ_app h m (t.drop n) (by rw [List.length_drop]; omega)
        rw [othZ_some e, othZ_some ho, List.drop_append_of_le_length h2, ih]
theorem tagR_app {t T : List V} (h : St T) : tagR (t ++ T) = tagR t := by
  cases t with
  | cons v r => rfl
  | nil =>
    cases T with
    | nil => rfl
    | cons v r =>
      have hv := h v r rfl
      have e1 : (v.tok.k == 1) = false := by rcases hv with e | e <;> rw [e] <;> rfl
      have e9 : (v.tok.k == 9) = false := by rcases hv with e | e <;> rw [e] <;> rfl
      show (if ((v.tok.k == 1) || (v.tok.k == 9 && _)) = true then _ else _) = _
      rw [e1, e9]
      rfl
theorem compR_app {T : List V} (h : St T) (t : List V) : compR (t ++ T) = ((compR t).1, (compR t).2 ++ T) := by
  unfold compR
  rw [tagR_app h]
  have hk := tagR_ok t
  cases ht : tagR t with
  | none => exact othZ_app h _ t (Nat.le_refl _)
  | some x =>
    obtain ⟨l, n⟩ := x
    obtain ⟨_, _, _, h2, _⟩ := hk l n ht
    show ((l.map fun s => (s, [])) ++ (othZ ((t ++ T).drop n)).1, (othZ ((t ++ T).drop n)).2) = ((l.map fun s => (s, [])) ++ (othZ (t.drop n)).1, (othZ (t.drop n)).2 ++ T)
    rw [List.drop_append_of_le_length h2, othZ_app h _ (t.drop n) (Nat.le_refl _)]
theorem othZ_suf : ∀ (m : Nat) (t : List V), t.length ≤ m → ∃ a, t = a ++ (othZ t).2
  | m, t, hm => by
    cases ho : otherR t with
    | none => exact ⟨[], by rw [othZ_none ho]; rfl⟩
    | some x =>
      obtain ⟨l, n⟩ := x
      obtain ⟨_, _, h1, h2, _⟩ := otherR_ok t l n ho
      cases m with
      | zero => omega
      | succ m =>
        obtain ⟨a, e⟩ := othZ_suf m (t.drop n) (by rw [List.length_drop]; omega)
        refine ⟨t.take n ++ a, ?_⟩
        rw [othZ_some ho, List.append_assoc]
        simp only []
        rw [← e, List.take_append_drop]
theorem compR_suf (t : List V) : ∃ a, t = a ++ (compR t).2 := by
  unfold compR
  cases ht : tagR t with
  | none => exact othZ_suf _ t (Nat.le_refl _)
  | some x =>
    obtain ⟨l, n⟩ := x
    obtain ⟨a, e⟩ := othZ_suf _ (t.drop n) (Nat.le_refl _)
    refine ⟨t.take n ++ a, ?_⟩
    show t = _ ++ (othZ (t.drop n)).2
    rw [List.append_assoc, ← e, List.take_append_drop]
/-- The way in which one stands between; 0: it does not. -/
def cmbV (v : V) : Int := if (v.tok.k == 9) = true then numZ 0 v.tok.tx else 0
theorem cbN_cons (v : V) (r : List V) : cbN (v :: r) = cmbV v := rfl
def stopB (r : List V) : Bool := match r with
  | [] => true
  | v :: _ => spB v || decide (cmbV v ≠ 0)
def pre (p : List Sv) (k : Int) : Option Cv → Option Cv
  | none => none
  | some (qs, ks) => some (p :: qs, k :: ks)
/-- What stands behind a compound selector, as the document reads it. -/
def cxW (f : List V → Option Cv) (p : List Sv) (sp : Bool) : List V → Option Cv
  | [] => none
  | u :: us => if cmbV u ≠ 0 then pre p (cmbV u) (f (trm us)) else if sp = true then pre p 1 (f (u :: us)) else none
def cxV (f : List V → Option Cv) (p : List Sv) (r : List V) : Option Cv := match r with
  | [] => some ([p], [])
  | v :: _ => cxW f p (spB v) (trm r)
/-- A complex selector, as the document reads it. -/
def cxU : Nat → List V → Option Cv
  | 0, _ => none
  | n + 1, l => match compR l with
    | ([], _) => none
    | (p :: ps, r) => if stopB r = false then none else cxV (cxU n) (p :: ps) r
/-- Behind a list: the end or a Comma. -/
def Zt (Z : List V) : Prop := ∀ v r, Z = v :: r → v.tok.k = 18
theorem Zt.spc {Z : List V} (h : Zt Z) : spc Z = Z := by
  cases Z with
  | nil => rfl
  | cons v r =>
    have e : spB v = false := by unfold spB; rw [h v r rfl]; rfl
    rw [spc_def, List.dropWhile_cons, e]
    rfl
theorem st_tail {S Z : List V} (hS : ∀ v ∈ S, spB v = true) (hZ : Zt Z) : St (S ++ Z) := by
  intro v r e
  cases S with
  | nil => exact .inr (hZ v r e)
  | cons s S =>
    cases e
    exact .inl (by simpa [spB] using hS v (by simp))
/-- What cxZ says where the document refuses. -/
def Bad (o : Option (Cv × List V)) : Prop := o = none ∨ ∃ c r, o = some (c, r) ∧ r ≠ [] ∧ ahd r 0 18 = false
def Rel (o : Option Cv) (q : Option (Cv × List V)) (Z : List V) : Prop := match o with
  | some c => q = some (c, Z)
  | none => Bad q
def preZ (p : List Sv) (k : Int) : Option (Cv × List V) → Option (Cv × List V)
  | none => none
  | some ((qs, ks), r') => some ((p :: qs, k :: ks), r')
theorem rel_pre {p : List Sv} {k : Int} {o : Option Cv} {q : Option (Cv × List V)} {Z : List V} (h : Rel o q Z) : Rel (pre p k o) (preZ p k q) Z := by
  cases o with
  | some c =>
    obtain ⟨qs, ks⟩ := c
    have h : q = some ((qs, ks), Z) := h
    subst h
    rfl
  | none =>
    rcases h with rfl | ⟨c, r, rfl, h1, h2⟩
    · exact .inl rfl
    · exact .inr ⟨_, r, rfl, h1, h2⟩
theorem cx_main : ∀ (n : Nat) (t S Z : List V), t.length < n → NE t → (∀ v ∈ t, v.tok.k ≠ 18) → (∀ v ∈ S, spB v = true) → Zt Z → Rel (cxU n t) (cxZ (t ++ (S ++ Z))) Z
  | 0, t, S, Z, h, _, _, _, _ => by omega
  | n + 1, t, S, Z, hn, hne, hnc, hS, hZ => by
    have hst := st_tail hS hZ
    have hco := compR_app hst t
    have hok := compR_ok t
    obtain ⟨pre', hsuf⟩ := compR_suf t
    rw [cxZ_step]
    unfold cxStep cxU
    rw [hco]
    rcases hcr : compR t with ⟨l, r⟩
    rw [hcr] at hok hsuf
    simp only [] at hok hsuf ⊢
    cases l with
    | nil => exact .inl rfl
    | cons p ps =>
      have hlt := hok.2.1 (by simp)
      have hrne : NE r := by rw [hsuf] at hne; exact hne.suf
      have hrc : ∀ v ∈ r, v.tok.k ≠ 18 := fun v hv => hnc v (by rw [hsuf]; simp [hv])
      simp only []
      cases r with
      | nil =>
        have e1 : spc ([] ++ (S ++ Z)) = Z := by rw [List.nil_append, spc_all hS, hZ.spc]
        have e2 : cbN Z = 0 := by
          cases Z with
          | nil => rfl
          | cons v r =>
            rw [cbN_cons]
            unfold cmbV
            rw [hZ v r rfl]
            rfl
        have e3 : ∀ was, cbE was Z = 0 := fun was => by
          unfold cbE
          rw [if_neg]
          rintro ⟨_, h1, h2⟩
          cases Z with
          | nil => exact h1 rfl
          | cons v r =>
            have : (v.tok.k == 18) = false := h2
            rw [hZ v r rfl] at this
            cases this
        have e4 : combR ([] ++ (S ++ Z)) = (0, Z) := by
          unfold combR
          rw [e1, e2, e3]
          simp
        rw [e4]
        rfl
      | cons v r =>
        have hs0 : spc (v :: r) ≠ [] := hrne.some (by simp)
        have e1 : spc ((v :: r) ++ (S ++ Z)) = spc (v :: r) ++ (S ++ Z) := spc_app_ne hrne (by simp) _
        have htr : trm (v :: r) = spc (v :: r) := trm_ne hrne
        show Rel (if stopB (v :: r) = false then none else cxW (cxU n) (p :: ps) (spB v) (trm (v :: r))) _ _
        rw [htr]
        cases hsp : spc (v :: r) with
        | nil => exact absurd hsp hs0
        | cons u us =>
          have hus : NE (u :: us) := by rw [← hsp]; exact hrne.sp
          have hul : (u :: us).length ≤ (v :: r).length := by rw [← hsp]; exact (spc_ok _).1
          have huc : ∀ x ∈ u :: us, x.tok.k ≠ 18 := fun x hx => hrc x (by rw [← hsp] at hx; exact (spc_ok _).2 x hx)
          rw [hsp] at e1
          have ea : ahd ((v :: r) ++ (S ++ Z)) 0 13 = spB v := rfl
          have hcb : combR ((v :: r) ++ (S ++ Z)) = if cmbV u ≠ 0 then (cmbV u, spc (us ++ (S ++ Z))) else (cbE (spB v) ((u :: us) ++ (S ++ Z)), (u :: us) ++ (S ++ Z)) := by
            unfold combR
            rw [e1, ea]
            rfl
          rw [hcb]
          have hstop : stopB (v :: r) = (spB v || decide (cmbV v ≠ 0)) := rfl
          by_cases hcu : cmbV u ≠ 0
          · rw [if_pos hcu]
            have hs1 : stopB (v :: r) = true := by
              rw [hstop]
              cases hv : spB v with
              | true => rfl
              | false =>
                have : spc (v :: r) = v :: r := by rw [spc_def, List.dropWhile_cons, hv]; rfl
                rw [this] at hsp
                cases hsp
                simp [hcu]
            rw [hs1, if_neg (by decide)]
            show Rel (if cmbV u ≠ 0 then _ else _) (if cmbV u = 0 then _ else _) _
            rw [if_pos hcu, if_neg hcu]
            show Rel _ (preZ (p :: ps) (cmbV u) (cxZ (spc (us ++ (S ++ Z))))) _
            refine rel_pre ?_
            rw [trm_ne (show NE us from NE.suf (a := [u]) hus)]
            have hune : NE us := NE.suf (a := [u]) hus
            have hul2 : us.length + 1 ≤ (v :: r).length := hul
            by_cases hu0 : us = []
            · subst hu0
              have e5 : spc ([] ++ (S ++ Z)) = [] ++ ([] ++ Z) := by rw [List.nil_append, spc_all hS, hZ.spc]; rfl
              rw [e5]
              exact cx_main n [] [] Z (by simp only [List.length_nil]; omega) NE.nil (by simp) (by simp) hZ
            · rw [spc_app_ne hune hu0]
              exact cx_main n (spc us) S Z (by have := (spc_ok us).1; omega) hune.sp (fun x hx => huc x (by simp [(spc_ok us).2 x hx])) hS hZ
          · have hcu' : cmbV u = 0 := by simpa using hcu
            rw [if_neg hcu]
            have hu18 : ahd ((u :: us) ++ (S ++ Z)) 0 18 = false := by
              show (u.tok.k == 18) = false
              simpa using huc u (by simp)
            cases hv : spB v with
            | true =>
              have hs1 : stopB (v :: r) = true := by rw [hstop, hv]; rfl
              have e6 : cbE true ((u :: us) ++ (S ++ Z)) = 1 := by
                unfold cbE
                rw [if_pos ⟨rfl, by simp, hu18⟩]
              rw [hs1, e6, if_neg (by decide)]
              show Rel (if cmbV u ≠ 0 then _ else if true = true then _ else _) (if (1 : Int) = 0 then _ else _) _
              rw [if_neg hcu, if_pos rfl, if_neg (by decide)]
              show Rel _ (preZ (p :: ps) 1 (cxZ ((u :: us) ++ (S ++ Z)))) _
              refine rel_pre (k := 1) ?_
              exact cx_main n (u :: us) S Z (by omega) hus huc hS hZ
            | false =>
              have hvu : v = u ∧ r = us := by
                have : spc (v :: r) = v :: r := by rw [spc_def, List.dropWhile_cons, hv]; rfl
                rw [this] at hsp
                cases hsp
                exact ⟨rfl, rfl⟩
              obtain ⟨rfl, rfl⟩ := hvu
              have hs1 : stopB (v :: r) = false := by rw [hstop, hv, hcu']; rfl
              have e6 : cbE false ((v :: r) ++ (S ++ Z)) = 0 := by
                unfold cbE
                rw [if_neg (by simp)]
              rw [hs1, e6, if_pos rfl]
              exact .inr ⟨_, _, rfl, by simp, hu18⟩
/-- Lists between Commas. -/
def splt : List V → List (List V)
  | [] => [[]]
  | v :: r => if cmB v = true then [] :: splt r else match splt r with
    | [] => [[v]]
    | p :: ps => (v :: p) :: ps
theorem splt_ne : ∀ l : List V, splt l ≠ []
  | [] => by simp [splt]
  | v :: r => by
    unfold splt
    split
    · simp
    · split <;> simp
theorem splt_spec : ∀ vs : List V, ∃ p Z, vs = p ++ Z ∧ (∀ v ∈ p, v.tok.k ≠ 18) ∧ ((Z = [] ∧ splt vs = [p]) ∨ ∃ c q, Z = c :: q ∧ c.tok.k = 18 ∧ splt vs = p :: splt q)
  | [] => ⟨[], [], rfl, by simp, .inl ⟨rfl, rfl⟩⟩
  | v :: r => by
    by_cases hv : v.tok.k = 18
    · refine ⟨[], v :: r, rfl, by simp, .inr ⟨v, r, rfl, hv, ?_⟩⟩
      rw [splt, if_pos (by simp [cmB, hv])]
    · obtain ⟨p, Z, e, h1, h2⟩ := splt_spec r
      have hs : ∀ q ps, splt r = q :: ps → splt (v :: r) = (v :: q) :: ps := fun q ps e => by
        rw [splt, if_neg (by simpa [cmB] using hv), e]
      refine ⟨v :: p, Z, by rw [e]; rfl, fun x hx => ?_, ?_⟩
      · rcases List.mem_cons.1 hx with rfl | hx
        · exact hv
        · exact h1 x hx
      · rcases h2 with ⟨rfl, h2⟩ | ⟨c, q, rfl, h3, h4⟩
        · exact .inl ⟨rfl, hs _ _ h2⟩
        · exact .inr ⟨c, q, rfl, h3, hs _ _ h4⟩
def cxP (p : List V) : Option Cv := cxU (p.length + 1) (trm p)
theorem trm_len (p : List V) : (trm p).length ≤ p.length := by
  obtain ⟨S, e, _⟩ := trm_split p
  have h1 := congrArg List.length e
  rw [List.length_append] at h1
  have := (spc_ok p).1
  omega
theorem trm_mem (p : List V) : ∀ v ∈ trm p, v ∈ p := fun v hv => by
  obtain ⟨S, e, _⟩ := trm_split p
  exact (spc_ok p).2 v (by rw [e]; simp [hv])
theorem cx_part {p Z : List V} (hp : ∀ v ∈ p, v.tok.k ≠ 18) (hZ : Zt Z) : Rel (cxP p) (cxZ (spc (p ++ Z))) Z := by
  obtain ⟨S, e, hS, hne⟩ := trm_split p
  have hl := trm_len p
  by_cases h0 : spc p = []
  · have ht : trm p = [] := by rw [h0] at e; exact (List.append_eq_nil_iff.1 e.symm).1
    have e2 : spc (p ++ Z) = [] ++ ([] ++ Z) := by rw [spc_app, if_pos (by rw [h0]; rfl), hZ.spc]; rfl
    unfold cxP
    rw [ht, e2]
    exact cx_main _ [] [] Z (by simp) NE.nil (by simp) (by simp) hZ
  · have e2 : spc (p ++ Z) = trm p ++ (S ++ Z) := by rw [spc_app, if_neg (by rw [List.isEmpty_iff]; exact h0), e, List.append_assoc]
    rw [e2]
    exact cx_main _ (trm p) S Z (by omega) hne (fun v hv => hp v (trm_mem p v hv)) hS hZ
theorem ls_main : ∀ (m : Nat) (vs : List V), vs.length ≤ m → lsZ vs = allO cxP (splt vs)
  | m, vs, hm => by
    obtain ⟨p, Z, e, hp, hz⟩ := splt_spec vs
    rw [lsZ_step]
    unfold lsStep
    rcases hz with ⟨rfl, hs⟩ | ⟨c, q, rfl, hc, hs⟩
    · have h := cx_part (Z := []) hp (fun v r h => by cases h)
      rw [hs, e]
      unfold allO
      cases hx : cxP p with
      | none =>
        rw [hx] at h
        rcases h with h | ⟨c, r, h, h1, h2⟩
        · rw [h]
        · rw [h]
          simp only []
          rw [if_neg (by rw [List.isEmpty_iff]; exact h1), if_neg (by rw [h2]; decide)]
      | some x =>
        rw [hx] at h
        have h : cxZ _ = some (x, []) := h
        rw [h]
        rfl
    · have hZt : Zt (c :: q) := fun v r e => by cases e; exact hc
      have h := cx_part hp hZt
      rw [hs, e]
      unfold allO
      cases hx : cxP p with
      | none =>
        rw [hx] at h
        rcases h with h | ⟨c, r, h, h1, h2⟩
        · rw [h]
        · rw [h]
          simp only []
          rw [if_neg (by rw [List.isEmpty_iff]; exact h1), if_neg (by rw [h2]; decide)]
      | some x =>
        rw [hx] at h
        have h : cxZ _ = some (x, c :: q) := h
        cases m with
        | zero =>
          rw [e] at hm
          simp at hm
        | succ m =>
          have ih := ls_main m q (by rw [e] at hm; simp at hm; omega)
          rw [h]
          simp only []
          rw [if_neg (by simp), if_pos (by show (c.tok.k == 18) = true; rw [hc]; rfl)]
          show (match lsZ q with | none => none | some l => some (x :: l)) = _
          rw [ih]
          cases allO cxP (splt q) <;> rfl
end Go.Proofs.YtdibldcnklgcjaaGreatDoor.L
namespace Go.Proofs.YtdibldcnklgcjaaGreatDoor.L
open Go.RowKit
set_option maxRecDepth 100000

theorem splt_join {c : V} (hc : cmB c = true) (y : List V) : ∀ x : List V, splt (x ++ c :: y) = splt x ++ splt y
  | [] => by
    show splt (c :: y) = [] :: splt y
    rw [splt, if_pos hc]
  | v :: r => by
    have ih := splt_join hc y r
    rw [List.cons_append, splt, splt, ih]
    split
    · rfl
    · cases h : splt r with
      | nil => exact absurd h (splt_ne r)
      | cons p ps => rfl
/-- Both, or none. -/
def bothO {α : Type} (a b : Option (List α)) : Option (List α) := match a with
  | none => none
  | some x => match b with
    | none => none
    | some y => some (x ++ y)
theorem allO_cons {α β : Type} (f : α → Option β) (a : α) (r : List α) : allO f (a :: r) = match f a with
    | none => none
    | some b => match allO f r with
      | none => none
      | some l => some (b :: l) := rfl
theorem allO_app {α β : Type} {f : α → Option β} : ∀ (a b : List α), allO f (a ++ b) = match allO f a with
    | none => none
    | some x => match allO f b with
      | none => none
      | some y => some (x ++ y)
  | [], b => by
    rw [List.nil_append, show allO f [] = some [] from rfl]
    simp only []
    cases allO f b <;> rfl
  | c :: a, b => by
    have ih := allO_app (f := f) a b
    rw [List.cons_append, allO_cons, allO_cons]
    cases f c with
    | none => rfl
    | some d =>
      simp only []
      rw [ih]
      cases allO f a with
      | none => rfl
      | some x =>
        simp only []
        cases allO f b with
        | none => rfl
        | some y => rfl
/-- The Parts with their Lists, where the document goes on. -/
theorem parse_join {c : V} (hc : cmB c = true) (x y : List V) : parseZ (x ++ c :: y) = bothO (parseZ x) (parseZ y) := by
  rw [parseZ_step, parseZ_step x, parseZ_step y, ls_main _ _ (Nat.le_refl _), ls_main _ x (Nat.le_refl _), ls_main _ y (Nat.le_refl _), splt_join hc, allO_app]
  cases allO cxP (splt x) with
  | none => rfl
  | some l =>
    cases allO cxP (splt y) with
    | none =>
      show none = bothO (allO (fC parseZ) l) none
      cases allO (fC parseZ) l <;> rfl
    | some m =>
      show allO (fC parseZ) (l ++ m) = bothO (allO (fC parseZ) l) (allO (fC parseZ) m)
      rw [allO_app]
      rfl
theorem some_flat : ∀ (f : Nat) (ts : List T5) (n : Int), ts.length ≤ f → (∀ t ∈ ts, Y.closeZ t.k = 0) → (Y.someZ f ts 0 n).1 = ts.map fun t => V.mk t []
  | 0, [], _, _, _ => rfl
  | 0, _ :: _, _, h, _ => absurd h (by simp)
  | _ + 1, [], _, _, _ => rfl
  | f + 1, t :: r, n, h, hf => by
    have ih := some_flat f r n (by simpa using h) fun t ht => hf t (List.mem_cons_of_mem _ ht)
    rw [Y.someZ, if_neg (fun h => h.1 rfl), if_pos (hf t (by simp)), List.map_cons, ih]
theorem vals_flat {ts : List T5} (hf : ∀ t ∈ ts, Y.closeZ t.k = 0) : Y.valsZ ts = ts.map fun t => V.mk t [] := some_flat _ ts 0 (Nat.le_refl _) hf
theorem vals_join {ts us : List T5} {c : T5} (hc : c.k = 18) (h1 : ∀ t ∈ ts, Y.closeZ t.k = 0) (h2 : ∀ t ∈ us, Y.closeZ t.k = 0) : Y.valsZ (ts ++ c :: us) = Y.valsZ ts ++ V.mk c [] :: Y.valsZ us := by
  rw [vals_flat h1, vals_flat h2, vals_flat, List.map_append, List.map_cons]
  intro t ht
  rcases List.mem_append.1 ht with h | h
  · exact h1 t h
  · rcases List.mem_cons.1 h with rfl | h
    · rw [hc]; decide
    · exact h2 t h
theorem close_flat {t : Tok} (h : Flat t) : Y.closeZ t.kind = 0 := by
  unfold Y.closeZ
  rw [if_neg h.2.1, if_neg (fun e => e.elim h.2.2.1 h.1), if_neg h.2.2.2]
end Go.Proofs.YtdibldcnklgcjaaGreatDoor.L
namespace Go.Proofs.YtdibldcnklgcjaaGreatDoor.L
open Go.RowKit
set_option maxRecDepth 100000

theorem allO_mem {α β : Type} {f : α → Option β} : ∀ {l : List α} {r : List β}, allO f l = some r → ∀ b ∈ r, ∃ a ∈ l, f a = some b
  | [], r, h, b, hb => by
    obtain rfl := Option.some.inj h
    cases hb
  | a :: l, r, h, b, hb => by
    rw [allO] at h
    cases e : f a with
    | none => rw [e] at h; cases h
    | some x =>
      rw [e] at h
      cases e2 : allO f l with
      | none => rw [e2] at h; cases h
      | some y =>
        rw [e2] at h
        obtain rfl := Option.some.inj h
        rcases List.mem_cons.1 hb with rfl | hb
        · exact ⟨a, by simp, e⟩
        · obtain ⟨c, hc, h2⟩ := allO_mem e2 b hb
          exact ⟨c, List.mem_cons_of_mem _ hc, h2⟩
theorem parse_nil : parseZ [] = none := by rfl
/-- No Lists. -/
def NoL (L : List Cx) : Prop := ∀ c ∈ L, ∀ p ∈ c.parts, ∀ s ∈ p, s.2 = []
theorem flat_lists {vs : List V} (h : ∀ v ∈ vs, v.kids = []) {L : List Cx} (hp : parseZ vs = some L) : NoL L := by
  intro c hc p hpp s hs
  rw [parseZ_step] at hp
  cases hl : lsZ vs with
  | none => rw [hl] at hp; cases hp
  | some l =>
    rw [hl] at hp
    have hsub := lsZ_sub _ vs (Nat.le_refl _) l hl
    obtain ⟨cv, hcv, e⟩ := allO_mem hp c hc
    rw [fC] at e
    cases e2 : allO (allO (fS parseZ)) cv.1 with
    | none => rw [e2] at e; cases e
    | some ps =>
      rw [e2] at e
      obtain rfl := Option.some.inj e
      obtain ⟨q, hq, e3⟩ := allO_mem e2 p hpp
      obtain ⟨sv, hsv, e4⟩ := allO_mem e3 s hs
      rw [fS] at e4
      split at e4
      · rename_i hk
        have hm : sv.2 ∈ kidsL l := List.mem_flatMap.2 ⟨cv, hcv, List.mem_flatMap.2 ⟨q, hq, List.mem_map.2 ⟨sv, List.mem_filter.2 ⟨hsv, hk⟩, rfl⟩⟩⟩
        obtain ⟨v, hv, e5⟩ := List.mem_map.1 (hsub.subset hm)
        rw [← e5, h v hv, parse_nil] at e4
        cases e4
      · obtain rfl := Option.some.inj e4
        rfl
end Go.Proofs.YtdibldcnklgcjaaGreatDoor.L
namespace Go.Proofs.YtdibldcnklgcjaaGreatDoor.L
open Go.RowKit
set_option maxRecDepth 100000

def nums (s : ByteArray) : List Int := s.data.toList.map fun x => (x.toNat : Int)
theorem nums_byt (s : ByteArray) : Byt (nums s) := by
  intro n hn
  obtain ⟨x, _, rfl⟩ := List.mem_map.1 hn
  have := x.toNat_lt
  omega
theorem nums_join (a b : ByteArray) : a ++ ⟨#[44]⟩ ++ b = strOfNums (nums a ++ 44 :: nums b) := by
  have h1 : a ++ ⟨#[44]⟩ = strOfNums (nums a ++ [44]) := by
    rw [show a ++ (⟨#[44]⟩ : ByteArray) = strOfNums (nums a) ++ ⟨#[44]⟩ by rw [nums, strOf], str_append]
    rfl
  rw [h1, str_append, List.append_assoc]
  rfl
theorem toks_flat {s : ByteArray} (h : Bars (nums s)) : ∀ t ∈ (toks (runesZ s)).map toT5, Y.closeZ t.k = 0 := by
  intro t ht
  obtain ⟨u, hu, rfl⟩ := List.mem_map.1 ht
  have hc := runes_cl (nums_byt s) h
  rw [nums, strOf] at hc
  exact close_flat (flat_toks _ _ (Nat.le_refl _) hc u hu)
theorem vals_text {a b : ByteArray} (ha : Bars (nums a)) (hb : Bars (nums b)) : parseZ (valsS (a ++ ⟨#[44]⟩ ++ b)) = bothO (parseZ (valsS a)) (parseZ (valsS b)) := by
  have hr := runes_join (nums_byt a) (nums_byt b) ha hb
  have hc := runes_cl (nums_byt a) ha
  rw [← nums_join, nums, nums, strOf, strOf] at hr
  rw [nums, strOf] at hc
  unfold valsS
  rw [hr, toks_Q _ _ _ (Nat.le_refl _) hc, List.map_append, List.map_cons, vals_join (c := toT5 (plainTok 18 [])) rfl (toks_flat ha) (toks_flat hb)]
  exact parse_join rfl _ _
theorem text_nol {s : ByteArray} (h : Bars (nums s)) {L : List Cx} (hp : parseZ (valsS s) = some L) : NoL L := by
  refine flat_lists (vs := valsS s) (fun v hv => ?_) hp
  unfold valsS at hv
  rw [vals_flat (toks_flat h)] at hv
  obtain ⟨t, _, rfl⟩ := List.mem_map.1 hv
  rfl
/-- What a byte is barred for. -/
def barB (c : UInt8) : Bool := c == 34 || c == 39 || c == 92 || c == 47 || c == 40 || c == 41 || c == 91 || c == 93 || c == 123 || c == 125 || c == 60 || c == 45 || c == 13
end Go.Proofs.YtdibldcnklgcjaaGreatDoor.L
namespace Go.Proofs.YtdibldcnklgcjaaGreatDoor.L
open Go.RowKit
set_option maxRecDepth 100000

set_option maxHeartbeats 1000000 in
theorem simples_yes (p : Option Addr) (s : S6) (a1 a2 : Option Addr) (c1 c2 : Nat) (w : World) : Calls Tryz.prog 90 #[.pointer p, .agg #[.int .i64 s.k, .string s.nm, .int .i64 s.op, .string s.v, .int .i64 s.a, .int .i64 s.b, .slice a1 0 c1], .agg #[.int .i64 s.k, .string s.nm, .int .i64 s.op, .string s.v, .int .i64 s.a, .int .i64 s.b, .slice a2 0 c2]] w fun e w' => e = .returned (.bool true) ∧ Below w.heap.size w w' := by
  obtain ⟨k, nm, op, v, a, b⟩ := s
  go_enter Tryz.func90, Tryz.ntmps90
  go_wp2
  go_ret
  exact ⟨rfl, ((Below.refl _ _).alloc (Nat.le_refl _) _).alloc (by simp) _⟩
/-- Ints in a slice. -/
def IsAt (w : World) (v : Value) (ks : List Int) : Prop := ∃ b off, Sl w v ks.length b off ∧ ∀ t (h : t < ks.length), w.cell? ⟨b, off + t, none⟩ = some (.int .i64 (ks[t]'h))
set_option maxHeartbeats 1000000 in
theorem ints_yes {w : World} {v1 v2 : Value} {ks : List Int} (h1 : IsAt w v1 ks) (h2 : IsAt w v2 ks) : Calls Tryz.prog 64 #[v1, v2] w fun e w' => e = .returned (.bool true) ∧ Below w.heap.size w w' := by
  obtain ⟨b1, o1, ⟨a1, c1, rfl, hb1, hm1, ha1⟩, g1⟩ := h1
  obtain ⟨b2, o2, ⟨a2, c2, rfl, hb2, hm2, ha2⟩, g2⟩ := h2
  have HC : Hid (∀ w', Below w.heap.size w w' → ∀ t (ht : t < ks.length), a1 = some ⟨b1, o1, none⟩ ∧ a2 = some ⟨b2, o2, none⟩ ∧ w'.cell? ⟨b1, o1 + t, none⟩ = some (.int .i64 ks[t]) ∧ w'.cell? ⟨b2, o2 + t, none⟩ = some (.int .i64 ks[t])) := fun w' hw' t ht => by
    obtain ⟨e1, l1⟩ := ha1 (by omega)
    obtain ⟨e2, l2⟩ := ha2 (by omega)
    exact ⟨e1, e2, (hw'.cell (p := ⟨b1, o1 + t, none⟩) l1).trans (g1 t ht), (hw'.cell (p := ⟨b2, o2 + t, none⟩) l2).trans (g2 t ht)⟩
  have hln : ks.length ≤ 9223372036854775807 := by omega
  clear ha1 ha2 g1 g2
  go_enter Tryz.func64, Tryz.ntmps64
  go_wp2
  go_loopw [13] (fun a13 wq => ∃ t : Nat, t ≤ ks.length ∧ a13 = .int .i64 (t : Int) ∧ Hid (Below w.heap.size w wq)) (fun a13 _ => ks.length + 1 - (intOf a13).toNat)
  case atStart => exact ⟨0, Nat.zero_le _, rfl, hid_mk (Below.refl _ _)⟩
  case round =>
    obtain ⟨t, ht, rfl, HB⟩ := hrel
    by_cases htl : t < ks.length
    · obtain ⟨rfl, rfl, q1, q2⟩ := HC.out wr HB.out t htl
      generalize ks[t] = v at *
      have hne : (v != v) = false := by simp
      clear HC
      go_upto_region 6 with (fail)
      go_quiet (fail)
      go_wp2
      exact ⟨⟨t + 1, htl, by go_num, hid_mk ⟨HB.out.os, HB.out.tape, HB.out.output, HB.out.size, HB.out.block⟩⟩, by simp only [intOf]; omega⟩
    · go_wp2
      go_ret
      exact ⟨rfl, HB.out⟩
/-- A compound selector without Lists in a slice. -/
def PtF (w : World) (v : Value) (p : List (S6 × List Cx)) : Prop := ∃ b off, Sl w v p.length b off ∧ ∃ lv : Nat → Value, (∀ t (h : t < p.length), ∀ y u, (s7 (p[t]'h).1 (lv t))[y]? = some u → w.cell? ⟨b, off + t * 7 + y, none⟩ = some u) ∧ ∀ t, t < p.length → ∃ a c, lv t = .slice a 0 c
theorem PtF.keep {W w : World} {v : Value} {p : List (S6 × List Cx)} (h : PtF W v p) (hb : Below W.heap.size W w) : PtF w v p := by
  obtain ⟨b, off, h1, lv, h2, h3⟩ := h
  exact ⟨b, off, h1.keep hb, lv, fun t ht y u hu => (h1.cell hb (by omega) _).trans (h2 t ht y u hu), h3⟩
set_option maxHeartbeats 2000000 in
theorem eqs_yes {w : World} {v1 v2 : Value} {p : List (S6 × List Cx)} (h1 : PtF w v1 p) (h2 : PtF w v2 p) (q : Option Addr) :
    Calls Tryz.prog 89 #[v1, v2, .func (.func 90) #[.pointer q] #[]] w fun e w' => e = .returned (.bool true) ∧ Below w.heap.size w w' := by
  obtain ⟨b1, o1, ⟨a1, c1, rfl, hb1, hm1, ha1⟩, l1, g1, r1⟩ := h1
  obtain ⟨b2, o2, ⟨a2, c2, rfl, hb2, hm2, ha2⟩, l2, g2, r2⟩ := h2
  have HC : Hid (∀ w', Below w.heap.size w w' → ∀ t (ht : t < p.length), a1 = some ⟨b1, o1, none⟩ ∧ a2 = some ⟨b2, o2, none⟩ ∧ (∀ y u, (s7 (p[t]'ht).1 (l1 t))[y]? = some u → w'.cell? ⟨b1, o1 + t * 7 + y, none⟩ = some u) ∧ (∀ y u, (s7 (p[t]'ht).1 (l2 t))[y]? = some u → w'.cell? ⟨b2, o2 + t * 7 + y, none⟩ = some u) ∧ (∃ a c, l1 t = .slice a 0 c) ∧ ∃ a c, l2 t = .slice a 0 c) := fun w' hw' t ht => by
    obtain ⟨e1, m1⟩ := ha1 (by omega)
    obtain ⟨e2, m2⟩ := ha2 (by omega)
    exact ⟨e1, e2, fun y u hu => (hw'.cell (p := ⟨b1, o1 + t * 7 + y, none⟩) m1).trans (g1 t ht y u hu), fun y u hu => (hw'.cell (p := ⟨b2, o2 + t * 7 + y, none⟩) m2).trans (g2 t ht y u hu), r1 t ht, r2 t ht⟩
  have hln : p.length ≤ 9223372036854775807 := by omega
  clear ha1 ha2 g1 g2 r1 r2
  go_enter Tryz.func89, Tryz.ntmps89
  go_wp2
  go_loopw [17] (fun a17 wq => ∃ t : Nat, t ≤ p.length ∧ a17 = .int .i64 (t : Int) ∧ Hid (Below w.heap.size w wq)) (fun a17 _ => p.length + 1 - (intOf a17).toNat)
  case atStart => exact ⟨0, Nat.zero_le _, rfl, hid_mk (Below.refl _ _)⟩
  case round =>
    obtain ⟨t, ht, rfl, HB⟩ := hrel
    by_cases htl : t < p.length
    · obtain ⟨rfl, rfl, q1, q2, ⟨la, lc, e1⟩, ma, mc, e2⟩ := HC.out wr HB.out t htl
      rw [e1] at q1
      rw [e2] at q2
      obtain ⟨s, hse⟩ : ∃ s, s = (p[t]'htl).1 := ⟨_, rfl⟩
      rw [← hse] at q1 q2
      clear e1 e2 hse HC
      have y0 := q1 0 _ rfl
      have y1 := q1 1 _ rfl
      have y2 := q1 2 _ rfl
      have y3 := q1 3 _ rfl
      have y4 := q1 4 _ rfl
      have y5 := q1 5 _ rfl
      have y6 := q1 6 _ rfl
      have z0 := q2 0 _ rfl
      have z1 := q2 1 _ rfl
      have z2 := q2 2 _ rfl
      have z3 := q2 3 _ rfl
      have z4 := q2 4 _ rfl
      have z5 := q2 5 _ rfl
      have z6 := q2 6 _ rfl
      rw [Nat.add_zero] at y0 z0
      obtain ⟨sk, snm, sop, sv, sa, sb⟩ := s
      dsimp only at y0 y1 y2 y3 y4 y5 y6 z0 z1 z2 z3 z4 z5 z6
      obtain ⟨w1, hw1⟩ : ∃ w1, w1 = wr.alloc (.cells #[.int .i64 sk, .string snm, .int .i64 sop, .string sv, .int .i64 sa, .int .i64 sb, .slice la 0 lc] 40) := ⟨_, rfl⟩
      have hB1 : Below wr.heap.size wr w1 := by rw [hw1]; exact (Below.refl _ _).alloc (Nat.le_refl _) _
      have hx1 : w1.heap[wr.heap.size]? = some (.cells #[.int .i64 sk, .string snm, .int .i64 sop, .string sv, .int .i64 sa, .int .i64 sb, .slice la 0 lc] 40 (0, 0)) := by rw [hw1]; exact heap_alloc_last wr _
      have hl1 : wr.heap.size < w1.heap.size := (Array.getElem?_eq_some_iff.1 hx1).1
      obtain ⟨w2, hw2⟩ : ∃ w2, w2 = w1.alloc (.cells #[.int .i64 sk, .string snm, .int .i64 sop, .string sv, .int .i64 sa, .int .i64 sb, .slice ma 0 mc] 40) := ⟨_, rfl⟩
      have hB2 : Below w1.heap.size w1 w2 := by rw [hw2]; exact (Below.refl _ _).alloc (Nat.le_refl _) _
      have hx2 : w2.heap[w1.heap.size]? = some (.cells #[.int .i64 sk, .string snm, .int .i64 sop, .string sv, .int .i64 sa, .int .i64 sb, .slice ma 0 mc] 40 (0, 0)) := by rw [hw2]; exact heap_alloc_last w1 _
      have hx1' : w2.heap[wr.heap.size]? = some (.cells #[.int .i64 sk, .string snm, .int .i64 sop, .string sv, .int .i64 sa, .int .i64 sb, .slice la 0 lc] 40 (0, 0)) := (hB2.block _ hl1).trans hx1
      have hlow : ∀ (bb oo : Nat) (u : Value), wr.cell? ⟨bb, oo, none⟩ = some u → w1.cell? ⟨bb, oo, none⟩ = some u := fun bb oo u h => (hB1.cell (p := ⟨bb, oo, none⟩) (World.block_lt_of_cell? wr _ h)).trans h
      have x0 := hlow _ _ _ z0
      have x1 := hlow _ _ _ z1
      have x2 := hlow _ _ _ z2
      have x3 := hlow _ _ _ z3
      have x4 := hlow _ _ _ z4
      have x5 := hlow _ _ _ z5
      have x6 := hlow _ _ _ z6
      have u0 : w2.cell? ⟨wr.heap.size, 0, none⟩ = _ := cellAt hx1' 0
      have u1 : w2.cell? ⟨wr.heap.size, 1, none⟩ = _ := cellAt hx1' 1
      have u2 : w2.cell? ⟨wr.heap.size, 2, none⟩ = _ := cellAt hx1' 2
      have u3 : w2.cell? ⟨wr.heap.size, 3, none⟩ = _ := cellAt hx1' 3
      have u4 : w2.cell? ⟨wr.heap.size, 4, none⟩ = _ := cellAt hx1' 4
      have u5 : w2.cell? ⟨wr.heap.size, 5, none⟩ = _ := cellAt hx1' 5
      have u6 : w2.cell? ⟨wr.heap.size, 6, none⟩ = _ := cellAt hx1' 6
      have v0 : w2.cell? ⟨w1.heap.size, 0, none⟩ = _ := cellAt hx2 0
      have v1 : w2.cell? ⟨w1.heap.size, 1, none⟩ = _ := cellAt hx2 1
      have v2 : w2.cell? ⟨w1.heap.size, 2, none⟩ = _ := cellAt hx2 2
      have v3 : w2.cell? ⟨w1.heap.size, 3, none⟩ = _ := cellAt hx2 3
      have v4 : w2.cell? ⟨w1.heap.size, 4, none⟩ = _ := cellAt hx2 4
      have v5 : w2.cell? ⟨w1.heap.size, 5, none⟩ = _ := cellAt hx2 5
      have v6 : w2.cell? ⟨w1.heap.size, 6, none⟩ = _ := cellAt hx2 6
      simp only [List.getElem?_toArray, List.getElem?_cons_zero, List.getElem?_cons_succ] at u0 u1 u2 u3 u4 u5 u6 v0 v1 v2 v3 v4 v5 v6
      have hBw2 : Below w.heap.size w w2 := HB.out.trans ((hB1.trans (hB2.mono hB1.size)).mono HB.out.size)
      have hrec := simples_yes q ⟨sk, snm, sop, sv, sa, sb⟩ la ma lc mc w2
      dsimp only at hrec
      have HBW2 := hid_mk hBw2
      have HW1 := hid_mk hw1
      have HW2 := hid_mk hw2
      clear q1 q2 hB1 hB2 hx1 hx2 hx1' hl1 hw1 hw2 hlow hBw2 z0 z1 z2 z3 z4 z5 z6
      go_upto_region 6 with (fail)
      rw [← HW1.out]
      clear y0 y1 y2 y3 y4 y5 y6 HW1
      go_upto_region 7 with (fail)
      rw [← HW2.out]
      clear x0 x1 x2 x3 x4 x5 x6 HW2
      go_wp2_with (go_at_call 90; fail)
      refine hrec.mono ?_
      rintro e w3 ⟨rfl, hb3⟩
      have HB3 := hid_mk (HBW2.out.trans (hb3.mono HBW2.out.size))
      clear hrec hb3 HBW2 u0 u1 u2 u3 u4 u5 u6 v0 v1 v2 v3 v4 v5 v6
      go_wp2
      exact ⟨⟨t + 1, htl, by go_num, HB3⟩, by simp only [intOf]; omega⟩
    · clear HC
      go_wp2
      go_ret
      exact ⟨rfl, HB.out⟩
end Go.Proofs.YtdibldcnklgcjaaGreatDoor.L
