/- nth.Parse, whatever the values. The reader of selectors, plainly. The reader of selectors, plainly: what follows. The reader of selectors, with the values of Lists that it keeps. -/
import Derived.Test.YtdibldcnklgcjaaGreatDoorNCutN
import Derived.Test.YtdibldcnklgcjaaGreatDoorNWrittenWalk
import Derived.Test.YtdibldcnklgcjaaGreatDoorNSignAhead
namespace Go.Proofs.YtdibldcnklgcjaaGreatDoor.N
open Go.RowKit

def evenS : ByteArray := ⟨#[101, 118, 101, 110]⟩
def oddS : ByteArray := ⟨#[111, 100, 100]⟩
/-- What a trimmed text in small letters says. -/
def readT (s : ByteArray) : Int × Int × Bool := if s = evenS then (2, 0, true) else if s = oddS then (2, 1, true) else cutT s
def parseT (g : Option (List Int)) : Int × Int × Bool := match g with
  | none => (0, 0, false)
  | some p => readT (foldS (strOfNums (leftL (rightL p))))
theorem str_eqs (a c : ByteArray) (l : List UInt8) (hc : c.toList = l) : (a = c → (a == c) = true ∧ (a.toList == l) = true) ∧ (a ≠ c → (a == c) = false ∧ (a.toList == l) = false) := by
  refine ⟨fun e => ?_, fun e => ?_⟩
  · subst e
    exact ⟨by rw [beq_toListBytes]; simp, by rw [hc]; simp⟩
  · have h : (a.toList == c.toList) = false := by
      rw [Bool.eq_false_iff]
      intro h
      rw [beq_iff_eq, ByteArray.toList_eq, ByteArray.toList_eq] at h
      exact e (ByteArray.ext (Array.toList_inj.1 h))
    exact ⟨by rw [beq_toListBytes]; exact h, by rw [← hc]; exact h⟩
theorem gathered_byte : ∀ (ts : List Tk) (p : List Int), gathered ts = some p → (∀ n ∈ p, 0 ≤ n ∧ n < 256)
  | [], p, h => by
    cases h
    intro n hn
    cases hn
  | t :: r, p, h => by
    rw [gathered] at h
    cases ht : toldT t with
    | none => rw [ht] at h; cases h
    | some a =>
      cases hr : gathered r with
      | none => rw [ht, hr] at h; cases h
      | some c =>
        rw [ht, hr] at h
        cases h
        have hc := gathered_byte r c hr
        have ha : ∀ n ∈ a, 0 ≤ n ∧ n < 256 := by
          unfold toldT toldZ at ht
          repeat' split at ht
          all_goals first | (cases ht; done) | (cases ht; exact bytesL_byte _) | (cases ht; intro n hn; simp at hn; omega) | (cases ht; exact fun n hn => (List.mem_append.1 hn).elim (bytesL_byte _ n) (bytesL_byte _ n))
        intro n hn
        rcases List.mem_append.1 hn with h | h
        · exact ha n h
        · exact hc n h
theorem gathered_len : ∀ (ts : List Tk) (p : List Int), gathered ts = some p → (∀ t ∈ ts, t.tx.size + t.un.size ≤ 2000000) → p.length ≤ 2000001 * ts.length
  | [], p, h, _ => by
    cases h
    simp
  | t :: r, p, h, hs => by
    rw [gathered] at h
    cases ht : toldT t with
    | none => rw [ht] at h; cases h
    | some a =>
      cases hr : gathered r with
      | none => rw [ht, hr] at h; cases h
      | some c =>
        rw [ht, hr] at h
        cases h
        have h1 := gathered_len r c hr (fun x hx => hs x (by simp [hx]))
        have h2 := told_len ht (hs t (by simp))
        rw [List.length_append, List.length_cons]
        omega

set_option maxHeartbeats 1000000 in
set_option maxRecDepth 100000 in
theorem parse_any (W : World) (v : Value) (ts : List Tk) (hv : ValsAt W v ts) (hn : ts.length ≤ 100000) (hsz : ∀ t ∈ ts, t.tx.size + t.un.size ≤ 2000000) :
    Calls Tryz.prog 112 #[v] W fun e w' => e = .returned (.tuple #[.int .i64 (parseT (gathered ts)).1, .int .i64 (parseT (gathered ts)).2.1, .bool (parseT (gathered ts)).2.2]) ∧ Below W.heap.size W w' := by
  have hw := written_any W v ts hv hn hsz
  have hb := gathered_byte ts
  have hl := fun p h => gathered_len ts p h hsz
  obtain ⟨a, cap, rfl, _⟩ := hv
  cases hg : gathered ts with
  | none =>
    rw [hg] at hw
    have e1 : wrt none = (⟨#[]⟩, false) := rfl
    have e2 : parseT none = (0, 0, false) := rfl
    rw [e1] at hw
    rw [e2]
    simp only at hw ⊢
    clear e1 e2 hb hl hg hsz
    go_enter Tryz.func112, Tryz.ntmps112
    go_wp2_with (go_at_call 114; fail)
    refine (hw).mono ?_
    rintro e w1 ⟨rfl, b1⟩
    go_wp2
    go_ret3
    exact ⟨rfl, b1⟩
  | some p =>
    rw [hg] at hw
    have hpb := hb p hg
    have hpl := hl p hg
    have hlen : p.length ≤ 1000000000000 := by omega
    have ht := fun w => trim_any p hpb hlen w
    have hts : (strOfNums (leftL (rightL p))).size ≤ 1000000000000 := by
      rw [strOf_size]
      exact Nat.le_trans (leftL_len _) (Nat.le_trans (rightL_len _) hlen)
    have hf := fun w => fold_any (strOfNums (leftL (rightL p))) w (by omega)
    have hfs : (foldS (strOfNums (leftL (rightL p)))).size ≤ 1000000000000 := by rw [foldS_size]; exact hts
    have hcut := fun w => cut_any (foldS (strOfNums (leftL (rightL p)))) hfs w
    have HR : Hid (parseT (some p) = readT (foldS (strOfNums (leftL (rightL p))))) := rfl
    have e1 : wrt (some p) = (strOfNums p, true) := rfl
    rw [e1] at hw
    simp only at hw
    generalize strOfNums p = s0 at *
    generalize strOfNums (leftL (rightL p)) = s1 at *
    generalize foldS s1 = s2 at *
    generalize parseT (some p) = pv at *
    clear e1 hb hl hg hsz hpb hpl hlen hts
    by_cases he : s2 = evenS
    · have HV : Hid (pv = (2, 0, true)) := by show _ = _; rw [HR.out, readT, if_pos he]
      unfold evenS at he
      subst he
      clear HR hcut
      go_enter Tryz.func112, Tryz.ntmps112
      go_wp2_with (go_at_call 114; fail)
      refine (hw).mono ?_
      rintro e w1 ⟨rfl, b1⟩
      go_wp2_with (go_at_call 115; fail)
      refine (ht _).mono ?_
      rintro e w2 ⟨rfl, b2⟩
      have B2 := b1.trans (b2.mono b1.size)
      go_wp2_with (go_at_call 59; fail)
      refine (hf _).mono ?_
      rintro e w3 ⟨rfl, b3⟩
      have B3 := B2.trans (b3.mono B2.size)
      go_wp2
      go_ret3
      exact ⟨ret3_p HV.out, B3⟩
    obtain ⟨y1, y2⟩ := (str_eqs s2 ⟨#[101, 118, 101, 110]⟩ [101, 118, 101, 110] (by rw [ByteArray.toList_eq])).2 he
    by_cases ho : s2 = oddS
    · have HV : Hid (pv = (2, 1, true)) := by show _ = _; rw [HR.out, readT, if_neg he, if_pos ho]
      unfold oddS at ho
      subst ho
      clear HR hcut y1 y2 he
      go_enter Tryz.func112, Tryz.ntmps112
      go_wp2_with (go_at_call 114; fail)
      refine (hw).mono ?_
      rintro e w1 ⟨rfl, b1⟩
      go_wp2_with (go_at_call 115; fail)
      refine (ht _).mono ?_
      rintro e w2 ⟨rfl, b2⟩
      have B2 := b1.trans (b2.mono b1.size)
      go_wp2_with (go_at_call 59; fail)
      refine (hf _).mono ?_
      rintro e w3 ⟨rfl, b3⟩
      have B3 := B2.trans (b3.mono B2.size)
      go_wp2
      go_ret3
      exact ⟨ret3_p HV.out, B3⟩
    obtain ⟨z1, z2⟩ := (str_eqs s2 ⟨#[111, 100, 100]⟩ [111, 100, 100] (by rw [ByteArray.toList_eq])).2 ho
    have HV : Hid (pv = cutT s2) := by show _ = _; rw [HR.out, readT, if_neg he, if_neg ho]
    generalize cutT s2 = cv at *
    clear HR he ho
    go_enter Tryz.func112, Tryz.ntmps112
    go_wp2_with (go_at_call 114; fail)
    refine (hw).mono ?_
    rintro e w1 ⟨rfl, b1⟩
    go_wp2_with (go_at_call 115; fail)
    refine (ht _).mono ?_
    rintro e w2 ⟨rfl, b2⟩
    have B2 := b1.trans (b2.mono b1.size)
    go_wp2_with (go_at_call 59; fail)
    refine (hf _).mono ?_
    rintro e w3 ⟨rfl, b3⟩
    have B3 := B2.trans (b3.mono B2.size)
    go_wp2_with (go_at_call 116; fail)
    refine (hcut _).mono ?_
    rintro e w4 ⟨rfl, b4⟩
    have B4 := B3.trans (b4.mono B3.size)
    go_wp2
    go_ret3
    exact ⟨ret3_p (HV.out.trans rfl), B4⟩

end Go.Proofs.YtdibldcnklgcjaaGreatDoor.N
namespace Go.Proofs.YtdibldcnklgcjaaGreatDoor.L
open Go.RowKit
set_option maxRecDepth 100000

/-- A simple selector, and the values of its List. -/
abbrev Sv := S6 × List V
/-- Does a kind have a List? -/
def lstB (k : Int) : Bool := k == 5 || k == 6 || k == 7
def toTk (v : V) : N.Tk := ⟨v.tok.k, v.tok.tx, v.tok.un, v.tok.wh, v.tok.fl, .slice none 0 0⟩
def nthR (vs : List V) : Int × Int × Bool := N.parseT (N.gathered (vs.map toTk))
/-- Within [ and ]. -/
def sqV (nm : ByteArray) (op : Int) (us : List V) : Option S6 := match us with
  | v :: r => if (op != 0 && (v.tok.k == 1 || v.tok.k == 5) && (spc r).isEmpty) = true then some ⟨4, nm, op, v.tok.tx, 0, 0⟩ else none
  | [] => none
def sqO (nm : ByteArray) (us : List V) : Option S6 := match us with
  | [] => some ⟨4, nm, 0, ⟨#[]⟩, 0, 0⟩
  | v :: r => sqV nm (opR (v :: r)).1 (spc ((v :: r).drop (opR (v :: r)).2))
def inSqR (vs : List V) : Option S6 := match spc vs with
  | v :: r => if (v.tok.k == 1) = true then sqO (foldS v.tok.tx) (spc r) else none
  | [] => none
def attrR (vs : List V) : Option (List S6 × Nat) := match vs with
  | v :: _ => if (v.tok.k == 19) = true then (match inSqR v.kids with | some s => some ([s], 1) | none => none) else none
  | [] => none
def plcB (z : Int) : Bool := z == 8 || z == 9
def placeR (vs : List V) : Option (List S6 × Nat) := match vs[1]? with
  | some u => if (plcB (fnR vs) && (nthR u.kids).2.2) = true then some ([⟨fnR vs, ⟨#[]⟩, 0, ⟨#[]⟩, (nthR u.kids).1, (nthR u.kids).2.1⟩], 2) else none
  | none => none
def choiceR (vs : List V) : Option (List Sv × Nat) := match vs[1]? with
  | some u => if lstB (fnR vs) = true then some ([(⟨fnR vs, ⟨#[]⟩, 0, ⟨#[]⟩, 0, 0⟩, u.kids)], 2) else none
  | none => none
def bare (r : Option (List S6 × Nat)) : Option (List Sv × Nat) := match r with
  | some (l, n) => some (l.map fun s => (s, []), n)
  | none => none
def orR (a b : Option (List Sv × Nat)) : Option (List Sv × Nat) := match a with
  | some x => some x
  | none => b
def otherR (vs : List V) : Option (List Sv × Nat) := orR (bare (idR vs)) (orR (bare (classR vs)) (orR (bare (attrR vs)) (orR (bare (stateR vs)) (orR (bare (placeR vs)) (choiceR vs)))))
def othF : Nat → List V → List Sv × List V
  | 0, vs => ([], vs)
  | f + 1, vs => match otherR vs with
    | none => ([], vs)
    | some (l, n) => (l ++ (othF f (vs.drop n)).1, (othF f (vs.drop n)).2)
def othZ (vs : List V) : List Sv × List V := othF vs.length vs
def compR (vs : List V) : List Sv × List V := match bare (tagR vs) with
  | none => othZ vs
  | some (l, n) => (l ++ (othZ (vs.drop n)).1, (othZ (vs.drop n)).2)
/-- A complex selector whose Lists are not read yet. -/
abbrev Cv := List (List Sv) × List Int
def cxF : Nat → List V → Option (Cv × List V)
  | 0, _ => none
  | f + 1, vs => match compR vs with
    | ([], _) => none
    | (p :: ps, r) => if (combR r).1 = 0 then some (([p :: ps], []), (combR r).2) else match cxF f (combR r).2 with
      | none => none
      | some ((qs, ks), r') => some (((p :: ps) :: qs, (combR r).1 :: ks), r')
def cxZ (vs : List V) : Option (Cv × List V) := cxF (vs.length + 1) vs
def lsF : Nat → List V → Option (List Cv)
  | 0, _ => none
  | f + 1, vs => match cxZ (spc vs) with
    | none => none
    | some (c, r) => if r.isEmpty = true then some [c] else if ahd r 0 18 = true then (match lsF f (r.drop 1) with | none => none | some l => some (c :: l)) else none
def lsZ (vs : List V) : Option (List Cv) := lsF (vs.length + 1) vs
/-- A list with all Lists within. -/
def allO {α β : Type} (f : α → Option β) : List α → Option (List β)
  | [] => some []
  | a :: r => match f a with
    | none => none
    | some b => match allO f r with
      | none => none
      | some l => some (b :: l)
def fS (f : List V → Option (List Cx)) (s : Sv) : Option (S6 × List Cx) := if lstB s.1.k = true then (match f s.2 with | none => none | some l => some (s.1, l)) else some (s.1, [])
def fC (f : List V → Option (List Cx)) (c : Cv) : Option Cx := match allO (allO (fS f)) c.1 with
  | none => none
  | some ps => some (.mk ps c.2)
def parseD : Nat → List V → Option (List Cx)
  | 0, _ => none
  | d + 1, vs => match lsZ vs with
    | none => none
    | some l => allO (fC (parseD d)) l
mutual
def V.dep : V → Nat
  | .mk _ l => depL l + 1
def depL : List V → Nat
  | [] => 0
  | v :: r => max v.dep (depL r)
end
def parseZ (vs : List V) : Option (List Cx) := parseD (depL vs + 1) vs
end Go.Proofs.YtdibldcnklgcjaaGreatDoor.L
namespace Go.Proofs.YtdibldcnklgcjaaGreatDoor.L
open Go.RowKit
set_option maxRecDepth 100000

/-- A simple selector that was read out of these values: it has no List, or the List is one of their Kids. -/
def SvOk (vs : List V) (s : Sv) : Prop := lstB s.1.k = false ∨ (lstB s.1.k = true ∧ ∃ u ∈ vs, s.2 = u.kids)
theorem SvOk.more {vs us : List V} (h : ∀ u ∈ vs, u ∈ us) {s : Sv} (k : SvOk vs s) : SvOk us s := k.imp id fun ⟨a, u, hu, e⟩ => ⟨a, u, h u hu, e⟩
/-- The values of the Lists that are still to be read. -/
def kidsOf (l : List Sv) : List (List V) := (l.filter fun s => lstB s.1.k).map Prod.snd
theorem kidsOf_append (a b : List Sv) : kidsOf (a ++ b) = kidsOf a ++ kidsOf b := by simp [kidsOf]
def WayOk (vs : List V) (r : Option (List S6 × Nat)) : Prop := ∀ l n, r = some (l, n) → l ≠ [] ∧ l.length ≤ 10 ∧ 1 ≤ n ∧ n ≤ vs.length ∧ ∀ s ∈ l, lstB s.k = false
theorem idR_ok (vs : List V) : WayOk vs (idR vs) := by
  intro l n h
  unfold idR at h
  repeat' split at h
  all_goals first | (cases h; done) | skip
  cases h
  simp [lstB]
theorem classR_ok (vs : List V) : WayOk vs (classR vs) := by
  intro l n h
  unfold classR at h
  repeat' split at h
  all_goals first | (cases h; done) | skip
  cases h
  simp [lstB]
theorem tagR_ok (vs : List V) : WayOk vs (tagR vs) := by
  intro l n h
  unfold tagR at h
  repeat' split at h
  all_goals first | (cases h; done) | skip
  cases h
  simp [lstB]
theorem sqV_k {nm : ByteArray} {op : Int} {us : List V} {s : S6} (h : sqV nm op us = some s) : s.k = 4 := by
  unfold sqV at h
  repeat' split at h
  all_goals first | (cases h; done) | skip
  cases h
  rfl
theorem inSqR_k {vs : List V} {s : S6} (h : inSqR vs = some s) : s.k = 4 := by
  unfold inSqR at h
  split at h
  · split at h
    · unfold sqO at h
      split at h
      · cases h; rfl
      · exact sqV_k h
    · cases h
  · cases h
theorem attrR_ok (vs : List V) : WayOk vs (attrR vs) := by
  intro l n h
  unfold attrR at h
  split at h
  · split at h
    · split at h
      · rename_i s hs
        cases h
        have := inSqR_k hs
        simp [lstB, this]
      · cases h
    · cases h
  · cases h
theorem stL_ok {nm : ByteArray} {l : List S6} {n : Nat} (h : stL nm = some (l, n)) : l ≠ [] ∧ l.length ≤ 10 ∧ n = 2 ∧ ∀ s ∈ l, lstB s.k = false := by
  unfold stL at h
  repeat' split at h
  all_goals first | (cases h; done) | skip
  · cases h; simp [lstB, nthS]
  · cases h; simp [lstB, nthS]
  · cases h; simp [lstB, nthS]
  · rename_i hz
    cases h
    rcases hz with hz | hz <;> simp [lstB, hz]
theorem stateR_ok (vs : List V) : WayOk vs (stateR vs) := by
  intro l n h
  unfold stateR at h
  split at h
  · rename_i u hu
    have hl := (List.getElem?_eq_some_iff.1 hu).1
    split at h
    · obtain ⟨h1, h2, rfl, h4⟩ := stL_ok h
      exact ⟨h1, h2, by omega, hl, h4⟩
    · cases h
  · cases h
theorem placeR_ok (vs : List V) : WayOk vs (placeR vs) := by
  intro l n h
  unfold placeR at h
  split at h
  · rename_i u hu
    have hl := (List.getElem?_eq_some_iff.1 hu).1
    split at h
    · rename_i hc
      rw [Bool.and_eq_true] at hc
      cases h
      refine ⟨by simp, by simp, by omega, hl, fun s hs => ?_⟩
      rw [List.mem_singleton.1 hs]
      have := hc.1
      simp only [plcB, Bool.or_eq_true, beq_iff_eq] at this
      rcases this with e | e <;> simp [lstB, e]
    · cases h
  · cases h
def OthOk (vs : List V) (r : Option (List Sv × Nat)) : Prop := ∀ l n, r = some (l, n) → l ≠ [] ∧ l.length ≤ 10 ∧ 1 ≤ n ∧ n ≤ vs.length ∧ ∀ s ∈ l, SvOk vs s
theorem choiceR_ok (vs : List V) : OthOk vs (choiceR vs) := by
  intro l n h
  unfold choiceR at h
  split at h
  · rename_i u hu
    have hl := (List.getElem?_eq_some_iff.1 hu).1
    split at h
    · rename_i hc
      cases h
      refine ⟨by simp, by simp, by omega, hl, fun s hs => ?_⟩
      rw [List.mem_singleton.1 hs]
      exact .inr ⟨hc, u, List.mem_of_getElem? hu, rfl⟩
    · cases h
  · cases h
theorem bare_ok {vs : List V} {r : Option (List S6 × Nat)} (h : WayOk vs r) : OthOk vs (bare r) := by
  intro l n e
  cases r with
  | none => cases e
  | some x =>
    obtain ⟨l', n'⟩ := x
    obtain ⟨h1, h2, h3, h4, h5⟩ := h l' n' rfl
    cases e
    refine ⟨by simpa using h1, by simpa using h2, h3, h4, fun s hs => ?_⟩
    obtain ⟨x, hx, rfl⟩ := List.mem_map.1 hs
    exact .inl (h5 x hx)
theorem orR_ok {vs : List V} {a b : Option (List Sv × Nat)} (ha : OthOk vs a) (hb : OthOk vs b) : OthOk vs (orR a b) := by
  unfold orR
  split
  · exact ha
  · exact hb
theorem otherR_ok (vs : List V) : OthOk vs (otherR vs) :=
  orR_ok (bare_ok (idR_ok vs)) (orR_ok (bare_ok (classR_ok vs)) (orR_ok (bare_ok (attrR_ok vs)) (orR_ok (bare_ok (stateR_ok vs)) (orR_ok (bare_ok (placeR_ok vs)) (choiceR_ok vs)))))
theorem otherR_nil : otherR [] = none := rfl
theorem othF_same : ∀ (f g : Nat) (vs : List V), vs.length ≤ f → vs.length ≤ g → othF f vs = othF g vs
  | 0, 0, _, _, _ => rfl
  | 0, g + 1, vs, h, _ => by
    have e : vs = [] := List.length_eq_zero_iff.1 (by omega)
    subst e
    rfl
  | f + 1, 0, vs, _, h => by
    have e : vs = [] := List.length_eq_zero_iff.1 (by omega)
    subst e
    rfl
  | f + 1, g + 1, vs, hf, hg => by
    unfold othF
    cases ho : otherR vs with
    | none => rfl
    | some x =>
      obtain ⟨l, n⟩ := x
      obtain ⟨_, _, h1, h2, _⟩ := otherR_ok vs l n ho
      have hl : (vs.drop n).length = vs.length - n := List.length_drop
      simp only []
      rw [othF_same f g (vs.drop n) (by omega) (by omega)]
theorem othZ_none {vs : List V} (h : otherR vs = none) : othZ vs = ([], vs) := by
  unfold othZ
  cases hl : vs.length with
  | zero => rfl
  | succ f => unfold othF; rw [h]
theorem othZ_some {vs : List V} {l : List Sv} {n : Nat} (h : otherR vs = some (l, n)) : othZ vs = (l ++ (othZ (vs.drop n)).1, (othZ (vs.drop n)).2) := by
  obtain ⟨_, _, h1, h2, _⟩ := otherR_ok vs l n h
  have hl : (vs.drop n).length = vs.length - n := List.length_drop
  unfold othZ
  obtain ⟨f, hf⟩ : ∃ f, vs.length = f + 1 := ⟨vs.length - 1, by omega⟩
  rw [hf]
  conv => lhs; unfold othF
  rw [h]
  simp only []
  rw [othF_same f (vs.drop n).length (vs.drop n) (by omega) (Nat.le_refl _)]
theorem othZ_ok : ∀ (m : Nat) (vs : List V), vs.length ≤ m → (othZ vs).2.length ≤ vs.length ∧ ((othZ vs).1 ≠ [] → (othZ vs).2.length < vs.length) ∧ (∀ s ∈ (othZ vs).1, SvOk vs s) ∧ ∀ u ∈ (othZ vs).2, u ∈ vs
  | m, vs, hm => by
    cases ho : otherR vs with
    | none =>
      rw [othZ_none ho]
      exact ⟨Nat.le_refl _, fun h => absurd rfl h, (fun s hs => by cases hs), fun u hu => hu⟩
    | some x =>
      obtain ⟨l, n⟩ := x
      obtain ⟨h0, _, h1, h2, h3⟩ := otherR_ok vs l n ho
      have hl : (vs.drop n).length = vs.length - n := List.length_drop
      cases m with
      | zero => omega
      | succ m =>
        obtain ⟨q1, q2, q3, q4⟩ := othZ_ok m (vs.drop n) (by omega)
        rw [othZ_some ho]
        refine ⟨by simp only []; omega, fun _ => by simp only []; omega, fun s hs => ?_, fun u hu => List.mem_of_mem_drop (q4 u hu)⟩
        rcases List.mem_append.1 hs with h | h
        · exact h3 s h
        · exact (q3 s h).more fun _ hu => List.mem_of_mem_drop hu
theorem compR_ok (vs : List V) : (compR vs).2.length ≤ vs.length ∧ ((compR vs).1 ≠ [] → (compR vs).2.length < vs.length) ∧ (∀ s ∈ (compR vs).1, SvOk vs s) ∧ ∀ u ∈ (compR vs).2, u ∈ vs := by
  unfold compR
  split
  · exact othZ_ok _ vs (Nat.le_refl _)
  · rename_i l n h
    obtain ⟨h0, _, h1, h2, h3⟩ := bare_ok (tagR_ok vs) l n h
    have hl : (vs.drop n).length = vs.length - n := List.length_drop
    obtain ⟨q1, q2, q3, q4⟩ := othZ_ok _ (vs.drop n) (Nat.le_refl _)
    refine ⟨by simp only []; omega, fun _ => by simp only []; omega, fun s hs => ?_, fun u hu => List.mem_of_mem_drop (q4 u hu)⟩
    rcases List.mem_append.1 hs with h | h
    · exact h3 s h
    · exact (q3 s h).more fun _ hu => List.mem_of_mem_drop hu
theorem spc_ok (vs : List V) : (spc vs).length ≤ vs.length ∧ ∀ u ∈ spc vs, u ∈ vs :=
  ⟨(List.dropWhile_suffix _).length_le, fun _ hu => (List.dropWhile_suffix _).subset hu⟩
theorem combR_ok (vs : List V) : (combR vs).2.length ≤ vs.length ∧ ∀ u ∈ (combR vs).2, u ∈ vs := by
  unfold combR
  obtain ⟨h1, h2⟩ := spc_ok vs
  split
  · obtain ⟨h3, h4⟩ := spc_ok ((spc vs).drop 1)
    exact ⟨by simp only [List.length_drop] at h3 ⊢; omega, fun u hu => h2 u (List.mem_of_mem_drop (h4 u hu))⟩
  · exact ⟨h1, h2⟩
theorem cxF_same : ∀ (f g : Nat) (vs : List V), vs.length < f → vs.length < g → cxF f vs = cxF g vs
  | 0, _, _, h, _ => by omega
  | _ + 1, 0, _, _, h => by omega
  | f + 1, g + 1, vs, hf, hg => by
    have hc := compR_ok vs
    unfold cxF
    split
    · rfl
    · rename_i p ps r hcr
      rw [hcr] at hc
      have h1 := hc.2.1 (by simp)
      have h2 := (combR_ok r).1
      simp only [] at h1
      rw [cxF_same f g (combR r).2 (by omega) (by omega)]
/-- One compound selector, and what follows it. -/
def cxStep (vs : List V) : Option (Cv × List V) := match compR vs with
  | ([], _) => none
  | (p :: ps, r) => if (combR r).1 = 0 then some (([p :: ps], []), (combR r).2) else match cxZ (combR r).2 with
    | none => none
    | some ((qs, ks), r') => some (((p :: ps) :: qs, (combR r).1 :: ks), r')
theorem cxZ_step (vs : List V) : cxZ vs = cxStep vs := by
  have hc := compR_ok vs
  unfold cxStep
  conv => lhs; unfold cxZ cxF
  rcases hx : compR vs with ⟨p0, r⟩
  cases p0 with
  | nil => rfl
  | cons p ps =>
    rw [hx] at hc
    have h1 := hc.2.1 (by simp)
    have h2 := (combR_ok r).1
    simp only [] at h1
    unfold cxZ
    simp only []
    rw [cxF_same vs.length ((combR r).2.length + 1) (combR r).2 (by omega) (by omega)]
    all_goals rfl
def CvOk (vs : List V) (c : Cv) : Prop := c.1 ≠ [] ∧ ∀ p ∈ c.1, p ≠ [] ∧ ∀ s ∈ p, SvOk vs s
theorem cxZ_ok : ∀ (m : Nat) (vs : List V), vs.length ≤ m → ∀ c r, cxZ vs = some (c, r) → r.length < vs.length ∧ (∀ u ∈ r, u ∈ vs) ∧ CvOk vs c
  | m, vs, hm, c, r, h => by
    have hc := compR_ok vs
    rw [cxZ_step] at h
    unfold cxStep at h
    split at h
    · cases h
    · rename_i p ps q hcr
      rw [hcr] at hc
      obtain ⟨_, h1, h2, h3⟩ := hc
      have h1 := h1 (by simp)
      simp only [] at h1 h2 h3
      obtain ⟨k1, k2⟩ := combR_ok q
      split at h
      · cases h
        refine ⟨by omega, fun u hu => h3 u (k2 u hu), by simp, fun p' hp => ?_⟩
        rw [List.mem_singleton.1 hp]
        exact ⟨by simp, h2⟩
      · cases hx : cxZ (combR q).2 with
        | none => rw [hx] at h; cases h
        | some x =>
          obtain ⟨⟨qs, ks⟩, r'⟩ := x
          rw [hx] at h
          cases h
          cases m with
          | zero => omega
          | succ m =>
            obtain ⟨g1, g2, g3, g4⟩ := cxZ_ok m (combR q).2 (by omega) _ _ hx
            refine ⟨by omega, fun u hu => h3 u (k2 u (g2 u hu)), by simp, fun p' hp => ?_⟩
            rcases List.mem_cons.1 hp with rfl | hp
            · exact ⟨by simp, h2⟩
            · obtain ⟨e1, e2⟩ := g4 p' hp
              exact ⟨e1, fun s hs => (e2 s hs).more fun u hu => h3 u (k2 u hu)⟩
theorem lsF_same : ∀ (f g : Nat) (vs : List V), vs.length < f → vs.length < g → lsF f vs = lsF g vs
  | 0, _, _, h, _ => by omega
  | _ + 1, 0, _, _, h => by omega
  | f + 1, g + 1, vs, hf, hg => by
    unfold lsF
    cases hc : cxZ (spc vs) with
    | none => rfl
    | some x =>
      obtain ⟨c, r⟩ := x
      obtain ⟨h1, _, _⟩ := cxZ_ok _ _ (Nat.le_refl _) _ _ hc
      have h2 := (spc_ok vs).1
      simp only []
      rw [lsF_same f g (r.drop 1) (by rw [List.length_drop]; omega) (by rw [List.length_drop]; omega)]
def lsStep (vs : List V) : Option (List Cv) := match cxZ (spc vs) with
  | none => none
  | some (c, r) => if r.isEmpty = true then some [c] else if ahd r 0 18 = true then (match lsZ (r.drop 1) with | none => none | some l => some (c :: l)) else none
theorem lsZ_step (vs : List V) : lsZ vs = lsStep vs := by
  unfold lsStep
  conv => lhs; unfold lsZ lsF
  cases hc : cxZ (spc vs) with
  | none => rfl
  | some x =>
    obtain ⟨c, r⟩ := x
    obtain ⟨h1, _, _⟩ := cxZ_ok _ _ (Nat.le_refl _) _ _ hc
    have h2 := (spc_ok vs).1
    simp only []
    unfold lsZ
    rw [lsF_same vs.length ((r.drop 1).length + 1) (r.drop 1) (by rw [List.length_drop]; omega) (by omega)]
    all_goals rfl
theorem CvOk.more {vs us : List V} (h : ∀ u ∈ vs, u ∈ us) {c : Cv} (k : CvOk vs c) : CvOk us c := ⟨k.1, fun p hp => ⟨(k.2 p hp).1, fun s hs => ((k.2 p hp).2 s hs).more h⟩⟩
theorem lsZ_ok : ∀ (m : Nat) (vs : List V), vs.length ≤ m → ∀ l, lsZ vs = some l → l ≠ [] ∧ ∀ c ∈ l, CvOk vs c
  | m, vs, hm, l, h => by
    rw [lsZ_step] at h
    unfold lsStep at h
    cases hc : cxZ (spc vs) with
    | none => rw [hc] at h; cases h
    | some x =>
      obtain ⟨c, r⟩ := x
      rw [hc] at h
      obtain ⟨h1, h2, h3⟩ := cxZ_ok _ _ (Nat.le_refl _) _ _ hc
      obtain ⟨k1, k2⟩ := spc_ok vs
      simp only [] at h
      split at h
      · cases h
        refine ⟨by simp, fun c' hc' => ?_⟩
        rw [List.mem_singleton.1 hc']
        exact h3.more k2
      · split at h
        · cases hx : lsZ (r.drop 1) with
          | none => rw [hx] at h; cases h
          | some l' =>
            rw [hx] at h
            cases h
            cases m with
            | zero => omega
            | succ m =>
              obtain ⟨g1, g2⟩ := lsZ_ok m (r.drop 1) (by rw [List.length_drop]; omega) _ hx
              refine ⟨by simp, fun c' hc' => ?_⟩
              rcases List.mem_cons.1 hc' with rfl | hc'
              · exact h3.more k2
              · exact (g2 c' hc').more fun u hu => k2 u (h2 u (List.mem_of_mem_drop hu))
        · cases h
theorem depL_mem : ∀ {l : List V} {v : V}, v ∈ l → v.dep ≤ depL l
  | a :: r, v, h => by
    rw [depL]
    rcases List.mem_cons.1 h with rfl | h
    · omega
    · have := depL_mem h
      omega
theorem dep_kids (v : V) : v.dep = depL v.kids + 1 := by
  cases v with
  | mk t l => rw [V.dep]; rfl
theorem allO_congr {α β : Type} {f g : α → Option β} : ∀ {l : List α}, (∀ a ∈ l, f a = g a) → allO f l = allO g l
  | [], _ => rfl
  | a :: r, h => by
    unfold allO
    rw [h a (by simp), allO_congr (l := r) fun x hx => h x (by simp [hx])]
theorem fC_congr {f g : List V → Option (List Cx)} {vs : List V} {c : Cv} (hc : CvOk vs c) (h : ∀ u ∈ vs, f u.kids = g u.kids) : fC f c = fC g c := by
  unfold fC
  rw [allO_congr (f := allO (fS f)) (g := allO (fS g)) fun p hp => allO_congr fun s hs => ?_]
  unfold fS
  rcases (hc.2 p hp).2 s hs with h1 | ⟨h1, u, hu, e⟩
  · simp [h1]
  · simp only [h1, if_true, e, h u hu]
theorem parseD_same : ∀ (d e : Nat) (vs : List V), depL vs < d → depL vs < e → parseD d vs = parseD e vs
  | 0, _, _, h, _ => by omega
  | _ + 1, 0, _, _, h => by omega
  | d + 1, e + 1, vs, hd, he => by
    unfold parseD
    cases hl : lsZ vs with
    | none => rfl
    | some l =>
      obtain ⟨_, h2⟩ := lsZ_ok _ vs (Nat.le_refl _) l hl
      exact allO_congr fun c hc => fC_congr (h2 c hc) fun u hu => by
        have h3 := depL_mem hu
        have h4 := dep_kids u
        exact parseD_same d e u.kids (by omega) (by omega)
/-- A list by its Lists. -/
theorem parseZ_step (vs : List V) : parseZ vs = match lsZ vs with
    | none => none
    | some l => allO (fC parseZ) l := by
  conv => lhs; unfold parseZ parseD
  cases hl : lsZ vs with
  | none => rfl
  | some l =>
    obtain ⟨_, h2⟩ := lsZ_ok _ vs (Nat.le_refl _) l hl
    exact allO_congr fun c hc => fC_congr (h2 c hc) fun u hu => by
      have h3 := depL_mem hu
      have h4 := dep_kids u
      unfold parseZ
      exact parseD_same _ _ u.kids (by omega) (by omega)
end Go.Proofs.YtdibldcnklgcjaaGreatDoor.L
namespace Go.Proofs.YtdibldcnklgcjaaGreatDoor.L
open Go.RowKit
set_option maxRecDepth 100000

/-- All blocks but that one, and but rows of slices of values that were made behind it, are as they were. -/
structure KeepT (b : Nat) (w w' : World) : Prop where
  os : w'.os = w.os
  tape : w'.tape = w.tape
  output : w'.output = w.output
  size : w.heap.size ≤ w'.heap.size
  typ : ∀ j, j < w.heap.size → j ≠ b → (j < b ∨ ∀ c fr, w.heap[j]? ≠ some (.cells c 44 fr)) → w'.heap[j]? = w.heap[j]?
theorem KeepT.ofX {b : Nat} {w w' : World} (h : KeepX b w w') : KeepT b w w' := ⟨h.os, h.tape, h.output, h.size, fun j hj hn _ => h.block j hj hn⟩
theorem KeepT.of {b : Nat} {w w' : World} (h : Below w.heap.size w w') : KeepT b w w' := .ofX (KeepX.of h)
theorem KeepT.refl (b : Nat) (w : World) : KeepT b w w := .of (Below.refl _ _)
theorem KeepT.trans {b : Nat} {w w1 w2 : World} (h : KeepT b w w1) (k : KeepT b w1 w2) : KeepT b w w2 :=
  ⟨k.os.trans h.os, k.tape.trans h.tape, k.output.trans h.output, Nat.le_trans h.size k.size, fun j hj hn ht => by
    have e := h.typ j hj hn ht
    rw [k.typ j (Nat.lt_of_lt_of_le hj h.size) hn (by rw [e]; exact ht), e]⟩
theorem KeepT.low {b : Nat} {w w' : World} (h : KeepT b w w') (hb : b ≤ w.heap.size) : Below b w w' := ⟨h.os, h.tape, h.output, h.size, fun k hk => h.typ k (by omega) (by omega) (.inl hk)⟩
theorem KeepT.own {b B : Nat} {w w' : World} {T : TypeId} {s n : Nat} {v : Value} {xs : List Value} (h : KeepT b w w') (hb : b < B) (hT : T ≠ 44) (ho : w.ownsRow B T s v n xs) : w'.ownsRow B T s v n xs := by
  refine ⟨ho.1, ho.2.imp id ?_⟩
  rintro ⟨g, cap, cur, e, h1, h2, h3⟩
  refine ⟨g, cap, cur, e, h1, ?_, h3⟩
  rw [h.typ g (Array.getElem?_eq_some_iff.1 h2).1 (by omega) (.inr fun c fr hh => ?_), h2]
  rw [h2] at hh
  cases hh
  exact hT rfl
/-- The reader keeps the values of Lists in a row of its own. -/
structure Rk (lo : Nat) (W0 : World) (b : Nat) (ks : List (List V)) (vs : List V) (W : World) : Prop where
  rd : ∃ kids cs, Rd lo W b kids vs W ∧ W.ownsRow (b + 1) 44 1 kids ks.length cs ∧ ∀ i (h : i < ks.length), ∃ v, cs[i]? = some v ∧ VsAt (· < min lo b) W v (ks[i]'h)
  keep : KeepT b W0 W
theorem own_stay {W W' : World} {B : Nat} {T : TypeId} {s n : Nat} {v : Value} {xs : List Value} (ho : W.ownsRow B T s v n xs) (h : ∀ g, g < W.heap.size → B ≤ g → v.ownBlock = some g → W'.heap[g]? = W.heap[g]?) : W'.ownsRow B T s v n xs := by
  refine ⟨ho.1, ho.2.imp id ?_⟩
  rintro ⟨g, cap, cur, rfl, h1, h2, h3⟩
  exact ⟨g, cap, cur, rfl, h1, (h g (Array.getElem?_eq_some_iff.1 h2).1 h1 rfl).trans h2, h3⟩
theorem own_from {W : World} {B B' : Nat} {T : TypeId} {s n : Nat} {v : Value} {xs : List Value} (ho : W.ownsRow B T s v n xs) (h : B' ≤ B) : W.ownsRow B' T s v n xs :=
  ⟨ho.1, ho.2.imp id fun ⟨g, cap, cur, e, h1, h2⟩ => ⟨g, cap, cur, e, Nat.le_trans h h1, h2⟩⟩
theorem Rk.open {W0 W : World} {lo b : Nat} {ks : List (List V)} {vs : List V} (h : Rk lo W0 b ks vs W) : ∃ kids, Rd lo W b kids vs W ∧ ∀ us W', Rd lo W b kids us W' → Rk lo W0 b ks us W' := by
  obtain ⟨kids, cs, h1, h2, h3⟩ := h.rd
  refine ⟨kids, h1, fun us W' hr => ⟨⟨kids, cs, hr.self, own_stay h2 fun g hg hB _ => hr.keep.block g hg (by omega), fun i hi => ?_⟩, h.keep.trans (.ofX hr.keep)⟩⟩
  obtain ⟨v, e, hv⟩ := h3 i hi
  exact ⟨v, e, hv.stay hr.keep.size fun g hg hl => hr.keep.block g hl (by omega)⟩
theorem Rk.then {W0 W W' : World} {lo b : Nat} {ks : List (List V)} {vs : List V} (h : Rk lo W0 b ks vs W) (hb : Below W.heap.size W W') : Rk lo W0 b ks vs W' := by
  obtain ⟨kids, h1, h2⟩ := h.open
  exact h2 vs W' (h1.then hb)
theorem Rk.self {W0 W : World} {lo b : Nat} {ks : List (List V)} {vs : List V} (h : Rk lo W0 b ks vs W) : Rk lo W b ks vs W := ⟨h.rd, .refl _ _⟩
theorem Rk.from {W0 W W' : World} {lo b : Nat} {ks js : List (List V)} {vs us : List V} (h : Rk lo W0 b ks vs W) (k : Rk lo W b js us W') : Rk lo W0 b js us W' := ⟨k.rd, h.keep.trans k.keep⟩
theorem Rk.lt {W0 W : World} {lo b : Nat} {ks : List (List V)} {vs : List V} (h : Rk lo W0 b ks vs W) : b < W.heap.size := by
  obtain ⟨_, _, h1, _⟩ := h.rd
  exact h1.lt
theorem Signs.keepT {W W' : World} {b : Nat} (h : Signs W) (hb : KeepT b W W') (hn : sgB < b) : Signs W' := fun j v hv => by
  have h1 := h j v hv
  have hl := h.lt (v := v) hv
  exact (cell_of_heap (hb.typ sgB hl (by omega) (.inl hn))).trans h1
/-- Not too many values, none too long, however deep. -/
inductive Fit : List V → Prop
  | mk (vs : List V) (hl : vs.length ≤ 100000) (h : ∀ v ∈ vs, v.tok.tx.size + v.tok.un.size ≤ 2000000) (hk : ∀ v ∈ vs, Fit v.kids) : Fit vs
theorem Fit.len {vs : List V} (h : Fit vs) : vs.length ≤ 100000 := by cases h; assumption
theorem Fit.tx {vs : List V} (h : Fit vs) : ∀ v ∈ vs, v.tok.tx.size + v.tok.un.size ≤ 2000000 := by cases h; assumption
theorem Fit.kids {vs : List V} (h : Fit vs) : ∀ v ∈ vs, Fit v.kids := by cases h; assumption
theorem Fit.sub {vs us : List V} (h : Fit vs) (hl : us.length ≤ vs.length) (hm : ∀ u ∈ us, u ∈ vs) : Fit us := .mk us (Nat.le_trans hl h.len) (fun v hv => h.tx v (hm v hv)) (fun v hv => h.kids v (hm v hv))
theorem Fit.drop {vs : List V} (h : Fit vs) (n : Nat) : Fit (vs.drop n) := h.sub (by rw [List.length_drop]; omega) fun _ hu => List.mem_of_mem_drop hu
theorem Fit.spc {vs : List V} (h : Fit vs) : Fit (L.spc vs) := h.sub (spc_ok vs).1 (spc_ok vs).2
theorem Fit.tx' {vs : List V} (h : Fit vs) : ∀ v ∈ vs, v.tok.tx.size ≤ 1000000000000 := fun v hv => by have := h.tx v hv; omega
end Go.Proofs.YtdibldcnklgcjaaGreatDoor.L
