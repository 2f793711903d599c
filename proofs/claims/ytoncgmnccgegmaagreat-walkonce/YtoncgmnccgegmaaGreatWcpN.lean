/- Where elements stand: mathematics. walk's line, Depth, Up. Two elements alike: gouacheref01.Ints, gouacheref07.Same; two trees alike: equal. walk's among, beside, Place, Before, After. walk's Compare. walk's shared and Compare. -/
import Derived.Test.YtoncgmnccgegmaaGreatPakN
import Derived.Lib.Small
import Derived.Test.YtoncgmnccgegmaaGreatRfB
import Derived.Test.YtoncgmnccgegmaaGreatRfS
import Derived.Deep.CutBlock
import Derived.Test.YtoncgmnccgegmaaGreatPlcN
import Derived.Deep.RegionHeld3
import Derived.Shelf.Slices.Reverse
import Derived.Shelf.Small.Wraps
namespace Go.Proofs.YtoncgmnccgegmaaGreat.N
open Go.RowKit
set_option maxRecDepth 100000

variable {uok : List (ByteArray × ByteArray) → Prop} {m : M} {nx : Int} {d : Int → Nat}
/-- An element's Parent's number; 0 of none. -/
def parOf (m : M) (id : Int) : Int := ((m id).getD zeroEl).par
/-- The Kids of its Parent, and where it stands among them. -/
def amongZ (m : M) (id : Int) : List Int × Int := match m id with
  | none => ([], -1)
  | some e => match m e.par with
    | none => ([id], 0)
    | some p => (p.ks, Lib.idxOf p.ks id)
/-- How many two lists have alike from their beginning on. -/
def sharedL : List Int → List Int → Nat
  | x :: xs, y :: ys => if x = y then sharedL xs ys + 1 else 0
  | _, _ => 0
/-- The one so many places behind it. -/
def besideZ (m : M) (id k : Int) : Int := if (amongZ m id).2 + k < 0 ∨ ((amongZ m id).1.length : Int) ≤ (amongZ m id).2 + k then 0 else (amongZ m id).1.getD ((amongZ m id).2 + k).toNat 0
/-- Which of two is ahead. -/
def cmpL (m : M) (x y : List Int) : Int :=
  if x.length = 0 ∨ y.length = 0 then 0
  else if sharedL x y = x.length ∨ sharedL x y = y.length then Lib.compareInt x.length y.length
  else Lib.compareInt (amongZ m (x.getD (sharedL x y) 0)).2 (amongZ m (y.getD (sharedL x y) 0)).2
def cmpZ (m : M) (a b : Int) : Int := cmpL m (ups m a).reverse (ups m b).reverse

theorem idxOf_at {l : List Int} (hn : l.Nodup) {k : Nat} (hk : k < l.length) : Lib.idxOf l l[k] = (k : Nat) := by
  have hg : l[k]? = some l[k] := List.getElem?_eq_getElem hk
  have := Lib.idxOf_hit l l.length k l[k] hk (Nat.le_refl _) (by rw [List.getD_eq_getElem?_getD, hg]; rfl) (fun j hj hjx => by
    have hjl : j < l.length := by omega
    rw [List.getD_eq_getElem?_getD, List.getElem?_eq_getElem hjl] at hjx
    exact (List.pairwise_iff_getElem.1 hn) j k hjl hk hj hjx)
  rwa [List.take_length] at this
theorem among_none {a : Int} (h : m a = none) : amongZ m a = ([], -1) := by unfold amongZ; rw [h]
/-- Where an element stands among its Parent's Kids. -/
theorem among_some (I : Inv uok m nx d) {a : Int} {e : El} (h : m a = some e) : ∃ (l : List Int) (i : Nat) (hi : i < l.length), amongZ m a = (l, (i : Int)) ∧ l[i] = a ∧ l.Nodup ∧ l.length ≤ 100000 ∧ ∀ j (hj : j < l.length), amongZ m l[j] = (l, (j : Int)) ∧ ∃ e', m l[j] = some e' ∧ e'.par = e.par := by
  by_cases h1 : a = 1
  · subst h1
    have hp : e.par = 0 := (I.parRoot h).2 rfl
    have hz := I.zero
    have ha : amongZ m 1 = ([1], 0) := by
      unfold amongZ
      rw [h]
      dsimp only
      rw [hp, hz]
    refine ⟨[1], 0, by simp, ha, rfl, by simp, by simp, fun j hj => ?_⟩
    have : j = 0 := by simpa using hj
    subst this
    exact ⟨ha, e, h, rfl⟩
  · obtain ⟨p, hp, hk⟩ := I.par h h1
    have hnd := I.nd hp
    have key : ∀ j (hj : j < p.ks.length), amongZ m p.ks[j] = (p.ks, (j : Int)) ∧ ∃ e', m p.ks[j] = some e' ∧ e'.par = e.par := fun j hj => by
      obtain ⟨c, hc, hcp⟩ := I.kid hp (List.getElem_mem hj)
      refine ⟨?_, c, hc, hcp⟩
      unfold amongZ
      rw [hc]
      dsimp only
      rw [hcp, hp]
      dsimp only
      rw [idxOf_at hnd hj]
    obtain ⟨i, hi, he⟩ := List.getElem_of_mem hk
    have hl := I.ksLen hp
    have hb := I.nxb
    refine ⟨p.ks, i, hi, ?_, he, hnd, by omega, key⟩
    rw [← he]
    exact (key i hi).1
theorem beside_some {a : Int} {l : List Int} {i : Nat} (ha : amongZ m a = (l, (i : Int))) (k : Int) : besideZ m a k = if (i : Int) + k < 0 ∨ (l.length : Int) ≤ i + k then 0 else l.getD ((i : Int) + k).toNat 0 := by
  unfold besideZ
  rw [ha]
theorem beside_none {a : Int} (h : m a = none) (k : Int) : besideZ m a k = 0 := by
  unfold besideZ
  rw [among_none h]
  split
  · rfl
  · rfl

/-- Two lists, what they have alike, and where they part. -/
theorem shared_le (x y : List Int) : sharedL x y ≤ x.length ∧ sharedL x y ≤ y.length := by
  induction x generalizing y with
  | nil => cases y <;> simp [sharedL]
  | cons a x ih =>
    cases y with
    | nil => simp [sharedL]
    | cons b y =>
      unfold sharedL
      split
      · have := ih y
        simp
        omega
      · simp
theorem shared_comm (x y : List Int) : sharedL x y = sharedL y x := by
  induction x generalizing y with
  | nil => cases y <;> simp [sharedL]
  | cons a x ih =>
    cases y with
    | nil => simp [sharedL]
    | cons b y =>
      unfold sharedL
      by_cases h : a = b
      · rw [if_pos h, if_pos h.symm, ih]
      · rw [if_neg h, if_neg (fun e => h e.symm)]
theorem shared_take (x y : List Int) : x.take (sharedL x y) = y.take (sharedL x y) := by
  induction x generalizing y with
  | nil => cases y <;> simp [sharedL]
  | cons a x ih =>
    cases y with
    | nil => simp [sharedL]
    | cons b y =>
      unfold sharedL
      by_cases h : a = b
      · rw [if_pos h, List.take_succ_cons, List.take_succ_cons, ih, h]
      · rw [if_neg h]
        simp
theorem shared_ne {x y : List Int} (h1 : sharedL x y < x.length) (h2 : sharedL x y < y.length) : x[sharedL x y] ≠ y[sharedL x y] := by
  induction x generalizing y with
  | nil => simp [sharedL] at h1
  | cons a x ih =>
    cases y with
    | nil => simp [sharedL] at h2
    | cons b y =>
      by_cases h : a = b
      · have e : sharedL (a :: x) (b :: y) = sharedL x y + 1 := by rw [sharedL, if_pos h]
        have h1' : sharedL x y < x.length := by rw [e] at h1; simpa using h1
        have h2' : sharedL x y < y.length := by rw [e] at h2; simpa using h2
        have := ih h1' h2'
        simpa [e] using this
      · have e : sharedL (a :: x) (b :: y) = 0 := by rw [sharedL, if_neg h]
        simpa [e] using h
theorem shared_self (x : List Int) : sharedL x x = x.length := by
  induction x with
  | nil => rfl
  | cons a x ih => rw [sharedL, if_pos rfl, ih]; rfl
theorem shared_app (r x y : List Int) : sharedL (r ++ x) (r ++ y) = r.length + sharedL x y := by
  induction r with
  | nil => simp
  | cons a r ih => rw [List.cons_append, List.cons_append, sharedL, if_pos rfl, ih, List.length_cons]; omega
theorem cmpI_anti (x y : Int) : Lib.compareInt x y = - Lib.compareInt y x := by
  unfold Lib.compareInt
  (repeat' split) <;> omega
theorem cmpI_zero {x y : Int} : Lib.compareInt x y = 0 ↔ x = y := by
  unfold Lib.compareInt
  (repeat' split) <;> omega
theorem cmpI_lt {x y : Int} (h : x < y) : Lib.compareInt x y = -1 := by
  unfold Lib.compareInt
  (repeat' split) <;> omega
theorem cmpL_anti (x y : List Int) : cmpL m x y = - cmpL m y x := by
  have e1 : (y.length = 0 ∨ x.length = 0) = (x.length = 0 ∨ y.length = 0) := by rw [or_comm]
  have e2 : (sharedL x y = y.length ∨ sharedL x y = x.length) = (sharedL x y = x.length ∨ sharedL x y = y.length) := by rw [or_comm]
  unfold cmpL
  rw [shared_comm y x]
  simp only [e1, e2]
  split
  · rfl
  · split
    · exact cmpI_anti _ _
    · exact cmpI_anti _ _
theorem cmpZ_anti (a b : Int) : cmpZ m a b = - cmpZ m b a := cmpL_anti _ _
theorem cmpZ_none {a b : Int} (h : m a = none ∨ m b = none) : cmpZ m a b = 0 := by
  unfold cmpZ cmpL
  rw [if_pos]
  rcases h with h | h <;> simp [ups_none h]
theorem cmpZ_self (a : Int) : cmpZ m a a = 0 := by
  unfold cmpZ cmpL
  split
  · rfl
  · rw [if_pos (.inl (shared_self _))]
    exact cmpI_zero.2 rfl
theorem ups_head (I : Inv uok m nx d) {a : Int} {e : El} (h : m a = some e) : ups m a = a :: ups m e.par := ups_some I h
/-- From the root down: each one's Parent stands ahead of it. -/
theorem down_chain (I : Inv uok m nx d) : ∀ (n : Nat) (a : Int) (e : El), m a = some e → d a = n → ∀ X, X = (ups m a).reverse → X[0]? = some 1 ∧ ∀ (s : Nat) (c1 : Int), X[s + 1]? = some c1 → ∃ c, m c1 = some c ∧ X[s]? = some c.par := by
  intro n
  induction n with
  | zero => intro a e h hd; have := I.pos h; omega
  | succ n ih =>
    intro a e h hd X hX
    have hu := ups_some I h
    by_cases h1 : a = 1
    · have hp : e.par = 0 := (I.parRoot h).2 h1
      rw [hp, ups_none I.zero] at hu
      rw [hu, h1] at hX
      rw [hX]
      exact ⟨rfl, fun s c hs => by simp at hs⟩
    · obtain ⟨p, hp, _⟩ := I.par h h1
      have hdp := I.dep h h1
      obtain ⟨Y, hY⟩ : ∃ Y, Y = (ups m e.par).reverse := ⟨_, rfl⟩
      obtain ⟨i1, i2⟩ := ih e.par p hp (by omega) Y hY
      have hr : X = Y ++ [a] := by rw [hX, hu, List.reverse_cons, hY]
      have hrr : Y = (ups m p.par).reverse ++ [e.par] := by rw [hY, ups_some I hp, List.reverse_cons]
      have hpl : 0 < Y.length := by rw [hrr]; simp
      rw [hr]
      refine ⟨by rw [List.getElem?_append_left hpl]; exact i1, fun s c1 hs => ?_⟩
      by_cases hlt : s + 1 < Y.length
      · rw [List.getElem?_append_left hlt] at hs
        rw [List.getElem?_append_left (by omega)]
        exact i2 s c1 hs
      · rw [List.getElem?_append_right (by omega)] at hs
        have hse : s + 1 - Y.length = 0 := by
          have := (List.getElem?_eq_some_iff.1 hs).1
          simpa using this
        rw [hse] at hs
        have hc : a = c1 := by simpa using hs
        subst hc
        refine ⟨e, h, ?_⟩
        have hl : s = (ups m p.par).reverse.length := by
          have := congrArg List.length hrr
          rw [List.length_append, List.length_singleton] at this
          omega
        rw [List.getElem?_append_left (by omega), hrr, List.getElem?_append_right (by omega), hl]
        simp
/-- Two elements stand at one place only if they are one. -/
theorem cmpZ_zero (I : Inv uok m nx d) {a b : Int} {e f : El} (ha : m a = some e) (hb : m b = some f) : cmpZ m a b = 0 ↔ a = b := by
  constructor
  · intro h
    unfold cmpZ at h
    obtain ⟨X, hX⟩ : ∃ X, X = (ups m a).reverse := ⟨_, rfl⟩
    obtain ⟨Y, hY⟩ : ∃ Y, Y = (ups m b).reverse := ⟨_, rfl⟩
    obtain ⟨a0, ac⟩ := down_chain I _ a e ha rfl X hX
    obtain ⟨b0, bc⟩ := down_chain I _ b f hb rfl Y hY
    have hxa : X = (ups m e.par).reverse ++ [a] := by rw [hX, ups_some I ha, List.reverse_cons]
    have hxb : Y = (ups m f.par).reverse ++ [b] := by rw [hY, ups_some I hb, List.reverse_cons]
    rw [← hX, ← hY] at h
    have hlX : X.length ≠ 0 := by rw [hxa]; simp
    have hlY : Y.length ≠ 0 := by rw [hxb]; simp
    unfold cmpL at h
    rw [if_neg (by omega)] at h
    obtain ⟨s1, s2⟩ := shared_le X Y
    have htk := shared_take X Y
    split at h
    · rename_i hs
      rw [cmpI_zero] at h
      have hlen : X.length = Y.length := by omega
      have hs' : sharedL X Y = X.length := by omega
      have hXY : X = Y := by
        rw [hs', List.take_length, hlen, List.take_length] at htk
        exact htk
      have : X.getLast? = Y.getLast? := by rw [hXY]
      rw [hxa, hxb] at this
      simpa using this
    · rename_i hs
      rw [cmpI_zero] at h
      have l1 : sharedL X Y < X.length := by omega
      have l2 : sharedL X Y < Y.length := by omega
      have hne := shared_ne l1 l2
      have x1 : X[sharedL X Y]? = some X[sharedL X Y] := List.getElem?_eq_getElem l1
      have y1 : Y[sharedL X Y]? = some Y[sharedL X Y] := List.getElem?_eq_getElem l2
      have hg1 : X.getD (sharedL X Y) 0 = X[sharedL X Y] := by rw [List.getD_eq_getElem?_getD, x1]; rfl
      have hg2 : Y.getD (sharedL X Y) 0 = Y[sharedL X Y] := by rw [List.getD_eq_getElem?_getD, y1]; rfl
      rw [hg1, hg2] at h
      generalize X[sharedL X Y] = xs at *
      generalize Y[sharedL X Y] = ys at *
      have hpos : sharedL X Y ≠ 0 := fun h0 => by
        rw [h0] at x1 y1
        rw [a0] at x1
        rw [b0] at y1
        exact hne ((Option.some.inj x1).symm.trans (Option.some.inj y1))
      obtain ⟨s, hs1⟩ : ∃ s, sharedL X Y = s + 1 := ⟨sharedL X Y - 1, by omega⟩
      rw [hs1] at x1 y1 htk
      obtain ⟨c1, m1, p1⟩ := ac s _ x1
      obtain ⟨c2, m2, p2⟩ := bc s _ y1
      have hpar : c1.par = c2.par := by
        have h1 : (X.take (s + 1))[s]? = (Y.take (s + 1))[s]? := by rw [htk]
        rw [List.getElem?_take_of_lt (by omega), List.getElem?_take_of_lt (by omega), p1, p2] at h1
        exact Option.some.inj h1
      obtain ⟨q1, i1, hi1, e1, g1, nd1, _, _⟩ := among_some I m1
      obtain ⟨q2, i2, hi2, e2, g2, nd2, _, _⟩ := among_some I m2
      obtain ⟨P, hP⟩ : ∃ P, m c1.par = some P := by
        cases s with
        | zero =>
          rw [a0] at p1
          rw [← Option.some.inj p1]
          obtain ⟨r, hr, _⟩ := I.root
          exact ⟨r, hr⟩
        | succ s =>
          obtain ⟨c, hc, _⟩ := ac s _ p1
          exact ⟨c, hc⟩
      have a1 : (amongZ m xs).1 = P.ks := by
        unfold amongZ
        rw [m1]
        dsimp only
        rw [hP]
      have a2 : (amongZ m ys).1 = P.ks := by
        unfold amongZ
        rw [m2]
        dsimp only
        rw [← hpar, hP]
      rw [e1] at a1
      rw [e2] at a2
      have hq : q1 = q2 := a1.trans a2.symm
      subst hq
      rw [e1, e2] at h
      have : i1 = i2 := by
        have h' : (i1 : Int) = (i2 : Int) := h
        omega
      subst this
      exact absurd (g1.symm.trans g2) hne
  · rintro rfl
    exact cmpZ_self a
/-- A later sibling is behind. -/
theorem cmpZ_sib (I : Inv uok m nx d) {a b : Int} {e f : El} (ha : m a = some e) (hb : m b = some f) (hp : e.par = f.par) {l : List Int} {i j : Int} (h1 : amongZ m a = (l, i)) (h2 : amongZ m b = (l, j)) (hij : i < j) : cmpZ m a b = -1 := by
  have hne : a ≠ b := fun h => by
    rw [h, h2] at h1
    injection h1 with _ h1
    omega
  have hx : (ups m a).reverse = (ups m e.par).reverse ++ [a] := by rw [ups_some I ha, List.reverse_cons]
  have hy : (ups m b).reverse = (ups m e.par).reverse ++ [b] := by rw [ups_some I hb, List.reverse_cons, hp]
  unfold cmpZ cmpL
  rw [hx, hy, shared_app]
  have hs : sharedL [a] [b] = 0 := by rw [sharedL, if_neg hne]
  rw [hs, Nat.add_zero, if_neg (by simp), if_neg (by simp)]
  have g1 : ((ups m e.par).reverse ++ [a]).getD (ups m e.par).reverse.length 0 = a := by
    rw [List.getD_eq_getElem?_getD, List.getElem?_append_right (Nat.le_refl _), Nat.sub_self]
    rfl
  have g2 : ((ups m e.par).reverse ++ [b]).getD (ups m e.par).reverse.length 0 = b := by
    rw [List.getD_eq_getElem?_getD, List.getElem?_append_right (Nat.le_refl _), Nat.sub_self]
    rfl
  rw [g1, g2, h1, h2]
  exact cmpI_lt hij
/-- Who is above is ahead. -/
theorem ups_suf (I : Inv uok m nx d) : ∀ (n : Nat) (a : Int) (e : El), m a = some e → d a = n → ∀ k ∈ ups m a, ∃ t, ups m a = t ++ ups m k ∧ (k ≠ a → t ≠ []) := by
  intro n
  induction n with
  | zero => intro a e h hd; have := I.pos h; omega
  | succ n ih =>
    intro a e h hd k hk
    have hu := ups_some I h
    rw [hu] at hk
    rcases List.mem_cons.1 hk with rfl | hk
    · exact ⟨[], rfl, fun h => absurd rfl h⟩
    · by_cases h1 : a = 1
      · have hp : e.par = 0 := (I.parRoot h).2 h1
        rw [hp, ups_none I.zero] at hk
        cases hk
      · obtain ⟨p, hp, _⟩ := I.par h h1
        have hdp := I.dep h h1
        obtain ⟨t, ht, _⟩ := ih e.par p hp (by omega) k hk
        exact ⟨a :: t, by rw [hu, ht]; rfl, fun _ => by simp⟩
theorem cmpZ_up (I : Inv uok m nx d) {a k : Int} {e : El} (ha : m a = some e) (hk : k ∈ ups m e.par) : cmpZ m k a = -1 := by
  have hu := ups_some I ha
  have hka : k ∈ ups m a := by rw [hu]; exact List.mem_cons_of_mem _ hk
  obtain ⟨v, hv⟩ := ups_mem I _ _ hk
  have hne : k ≠ a := fun h => by
    have h1 := ups_dep I _ _ hk
    by_cases ha1 : a = 1
    · have hp : e.par = 0 := (I.parRoot ha).2 ha1
      rw [hp, ups_none I.zero] at hk
      cases hk
    · have := I.dep ha ha1
      rw [h] at h1
      omega
  obtain ⟨t, ht, htn⟩ := ups_suf I _ a e ha rfl k hka
  have htn := htn hne
  have hx : (ups m a).reverse = (ups m k).reverse ++ t.reverse := by rw [ht, List.reverse_append]
  have hkl : (ups m k).reverse.length ≠ 0 := by rw [ups_some I hv]; simp
  have htl : t.length ≠ 0 := by simpa using htn
  unfold cmpZ cmpL
  rw [hx]
  have hs : sharedL (ups m k).reverse ((ups m k).reverse ++ t.reverse) = (ups m k).reverse.length := by
    have := shared_app (ups m k).reverse [] t.reverse
    rw [List.append_nil] at this
    rw [this]
    simp [sharedL]
  rw [hs, if_neg (by rw [List.length_append]; omega), if_pos (.inl rfl)]
  apply cmpI_lt
  rw [List.length_append, List.length_reverse, List.length_reverse]
  omega

end Go.Proofs.YtoncgmnccgegmaaGreat.N
namespace Go.Proofs.YtoncgmnccgegmaaGreat.N
open Go.RowKit
set_option maxRecDepth 100000

def lenV : Value → Nat
  | .slice _ n _ => n
  | _ => 0
theorem ups_le {uok : List (ByteArray × ByteArray) → Prop} {m : M} {nx : Int} {d : Int → Nat} (I : Inv uok m nx d) (id : Int) : (ups m id).length ≤ 512 := by
  cases e : m id with
  | none => rw [ups_none e]; simp
  | some q => rw [ups_len I e]; exact I.top e
theorem ownsRow_mono {w : World} {B B' n sz : Nat} {e : TypeId} {v : Value} {xs : List Value} (h : w.ownsRow B e sz v n xs) (hb : B' ≤ B) : w.ownsRow B' e sz v n xs := by
  obtain ⟨hl, hc⟩ := h
  refine ⟨hl, ?_⟩
  rcases hc with hc | ⟨g, cap, cur, e1, h1, h2⟩
  · exact .inl hc
  · exact .inr ⟨g, cap, cur, e1, Nat.le_trans hb h1, h2⟩
theorem node_store {W : World} {g : Nat} {s s' : N5} (h : NodeAt W g s) : NodeAt (((((W.setCell ⟨g, 0, none⟩ (.int .i64 s'.id)).setCell ⟨g, 1, none⟩ (.string s'.tag)).setCell ⟨g, 2, none⟩ (.int .i64 s'.par)).setCell ⟨g, 3, none⟩ (.slice s'.ka s'.kn s'.kc)).setCell ⟨g, 4, none⟩ (.slice s'.aa s'.an s'.ac)) g s' := by
  have h0 := heap_setCell_same W g 0 s.cells 47 (.int .i64 s'.id) h
  have h1 := heap_setCell_same _ g 1 _ 47 (.string s'.tag) h0
  have h2 := heap_setCell_same _ g 2 _ 47 (.int .i64 s'.par) h1
  have h3 := heap_setCell_same _ g 3 _ 47 (.slice s'.ka s'.kn s'.kc) h2
  exact heap_setCell_same _ g 4 _ 47 (.slice s'.aa s'.an s'.ac) h3
theorem five_other (W : World) {g k : Nat} (h : k ≠ g) (a0 a1 a2 a3 a4 : Value) : (((((W.setCell ⟨g, 0, none⟩ a0).setCell ⟨g, 1, none⟩ a1).setCell ⟨g, 2, none⟩ a2).setCell ⟨g, 3, none⟩ a3).setCell ⟨g, 4, none⟩ a4).heap[k]? = W.heap[k]? := by
  rw [Below.heap_setCell _ ⟨g, 4, none⟩ _ k h, Below.heap_setCell _ ⟨g, 3, none⟩ _ k h, Below.heap_setCell _ ⟨g, 2, none⟩ _ k h, Below.heap_setCell _ ⟨g, 1, none⟩ _ k h, Below.heap_setCell _ ⟨g, 0, none⟩ _ k h]
set_option maxHeartbeats 4000000 in
theorem line_any {w : World} {dp : Value} {m : M} {nx : Int} (h : Tree w dp m nx) (id : Int) : Calls Tryz.prog 37 #[dp, .int .i64 id] w fun x w' => ∃ v, x = .returned v ∧ w'.ownsRow w.heap.size 3 1 v (ups m id).length (intsV (ups m id)) ∧ Below w.heap.size w w' := by
  have HND : Hid (∀ w' (n : Int), Below w.heap.size w w' → _) := fun w' n hw' => tree_node (h.keep hw') n
  obtain ⟨d, I⟩ := h.2
  have HI := hid_mk I
  have hup := ups_le I id
  have hnd := tree_node h id
  obtain ⟨i3, z3, hi0, hz0, hz1, hz2, rfl⟩ := info3r
  have HI3 := hid_mk hi0
  have HZ0 := hid_mk hz0
  have HZ1 := hid_mk hz1
  have HZ2 := hid_mk hz2
  clear I h hi0 hz0 hz1 hz2
  go_enter Tryz.func37, Tryz.ntmps37
  go_wp2_with (go_at_call 26; fail)
  refine hnd.mono ?_
  rintro x w1 ⟨s, rfl, hE, hB1⟩
  obtain ⟨w2, hw2⟩ : ∃ w2, w2 = w1.alloc (.cells #[.int .i64 s.id, .string s.tag, .int .i64 s.par, .slice s.ka s.kn s.kc, .slice s.aa s.an s.ac] 47) := ⟨_, rfl⟩
  have HB2 : Hid (Below w.heap.size w w2) := by rw [hw2]; exact hB1.alloc hB1.size _
  have HN2 : Hid (NodeAt w2 w1.heap.size s) := by rw [hw2]; exact heap_alloc_last w1 _
  have HS0 : Hid (s.id = ((m id).getD zeroEl).id ∧ s.par = ((m id).getD zeroEl).par) := ⟨hE.1, hE.2.2.1⟩
  have HW2 := hid_mk hw2
  clear hnd hE hB1 hw2
  go_upto_block 0 with (fail)
  rw [← HW2.out]
  go_wp2
  go_loopw [5, 6, 7] (fun a5 a6 a7 wq => ∃ (n : Int) (told : List Int) (g : Nat) (s : N5), a6 = .pointer (some ⟨g, 0, none⟩) ∧ a7 = .bool (m n).isSome ∧ Hid (told ++ ups m n = ups m id) ∧ Hid (wq.ownsRow w.heap.size 3 1 a5 told.length (intsV told)) ∧ Hid (NodeAt wq g s) ∧ Hid (s.id = ((m n).getD zeroEl).id ∧ s.par = ((m n).getD zeroEl).par) ∧ Hid (Below w.heap.size w wq)) (fun a5 _ _ _ => 513 - lenV a5)
  case atStart => exact ⟨id, [], w1.heap.size, s, rfl, rfl, List.nil_append _, ⟨rfl, .inl ⟨rfl, rfl⟩⟩, HN2, HS0, HB2⟩
  case round =>
    clear HN2 HS0 HB2 HW2
    obtain ⟨n, told, g, s1, rfl, rfl, HT, HO, HN, HS, HB⟩ := hrel
    cases he : m n with
    | none =>
      have HO2 : Hid (wr.ownsRow w.heap.size 3 1 u5 (ups m id).length (intsV (ups m id))) := by
        have := HT.out
        rw [ups_none he, List.append_nil] at this
        rw [Hid, ← this]
        exact HO.out
      clear he HT HO HN HS HND HI
      go_wp2
      go_ret
      exact ⟨u5, rfl, HO2.out, HB.out⟩
    | some el =>
      have hu := ups_some HI.out he
      have HT2 : Hid ((told ++ [n]) ++ ups m el.par = ups m id) := by
        have := HT.out
        rw [hu] at this
        rw [Hid, ← this]
        simp
      have hlen : told.length + 1 ≤ 512 := by
        have := congrArg List.length HT2.out
        simp only [List.length_append, List.length_singleton] at this
        omega
      have hs1 : s1.id = n := by
        have := HS.out.1
        rw [he] at this
        exact this.trans (HI.out.id he)
      have HS2 : Hid (s1.par = el.par) := by
        have := HS.out.2
        rw [he] at this
        exact this
      obtain ⟨av, cv, rfl⟩ := own_slice HO.out
      have hA : Below wr.heap.size wr (wr.alloc (.cells #[.int .i64 n] 3)) := (Below.refl _ _).alloc (Nat.le_refl _) _
      have hown := ownsRow_below HO.out hA
      have hrow : RowAt (wr.alloc (.cells #[.int .i64 n] 3)) 1 (some ⟨wr.heap.size, 0, none⟩) 1 1 (intsV [n]) := row_one (heap_alloc_last wr _) rfl
      have hBs : w.heap.size ≤ (wr.alloc (.cells #[.int .i64 n] 3)).heap.size := Nat.le_trans HB.out.size hA.size
      have HBA := hid_mk (HB.out.trans (hA.mono HB.out.size))
      have hgl : g < wr.heap.size := (Array.getElem?_eq_some_iff.1 HN.out).1
      have HNA : Hid (∀ w3, (wr.alloc (.cells #[.int .i64 n] 3)).grownBy w3 (Value.slice av told.length cv).ownBlock → NodeAt w3 g s1) := fun w3 hg => by
        refine (hg.block _ (Nat.lt_of_lt_of_le hgl hA.size) (fun e => ?_)).trans ((hA.block _ hgl).trans HN.out)
        rcases hown.2 with ⟨e1, _⟩ | ⟨k, cap, cur, e1, _, hk, _⟩
        · rw [e1] at e
          cases e
        · rw [e1] at e
          cases e
          rw [(hA.block _ hgl).trans HN.out] at hk
          injection hk with hk
          injection hk with _ hk
          cases hk
      obtain ⟨⟨n0, _, _, _, _⟩, _⟩ := HN.out.cells
      rw [hs1] at n0
      have hi0 := HI3.out
      have hz0 := HZ0.out
      have hz1 := HZ1.out
      have hz2 := HZ2.out
      clear hu HT HO hA HN HS hs1
      go_upto_region 6 with (at_builtin; go_must (refine wpList_append_rowAt rfl _ _ 29 rfl (B := w.heap.size) Tryz.underlying29 hi0 hz0 hz1 hz2 rfl (by decide) (by decide) rfl rfl hown hrow (by omega) hBs ?_); intro v' w3 hown3 hgrow3 _; have HO3 := hid_mk hown3; have HN3 := hid_mk (HNA.out w3 hgrow3); have HB3 : Hid (Below w.heap.size w w3) := HBA.out.grown hgrow3 HBA.out.size (fun k hk => (hown.lt k hk).1); clear hown3 hgrow3)
      obtain ⟨⟨m0, m1, m2, m3, m4⟩, _⟩ := HN3.out.cells
      obtain ⟨w4, hw4⟩ : ∃ w4, w4 = w3.alloc (.cells #[.int .i64 s1.id, .string s1.tag, .int .i64 s1.par, .slice s1.ka s1.kn s1.kc, .slice s1.aa s1.an s1.ac] 47) := ⟨_, rfl⟩
      have hB34 : Below w3.heap.size w3 w4 := by rw [hw4]; exact (Below.refl _ _).alloc (Nat.le_refl _) _
      have hN4 : NodeAt w4 w3.heap.size s1 := by rw [hw4]; exact heap_alloc_last w3 _
      obtain ⟨⟨_, _, p2, _, _⟩, _, _, _, _, _, hgl4⟩ := hN4.cells
      rw [HS2.out] at p2
      have HB4 : Hid (Below w.heap.size w w4) := HB3.out.trans (hB34.mono HB3.out.size)
      have HO4 := hid_mk (ownsRow_below HO3.out hB34)
      have HN4 := hid_mk hN4
      have HW4 := hid_mk hw4
      have HL3 : Hid (∀ k, v'.ownBlock = some k → k < w3.heap.size) := fun k hk => (HO3.out.lt k hk).2
      have hnd := HND.out w4 el.par HB4.out
      clear hown hrow hBs HBA HNA hB34 hN4 hw4 n0 HND
      go_upto_region 4 with (fail)
      rw [← HW4.out]
      clear m0 m1 m2 m3 m4
      go_wp2_with (go_at_call 26; fail)
      refine hnd.mono ?_
      rintro x w5 ⟨s5, rfl, hE5, hB5⟩
      have hN5 : NodeAt w5 w3.heap.size s1 := (hB5.block _ hgl4).trans HN4.out
      obtain ⟨⟨c0, c1, c2, c3, c4⟩, f0, f1, f2, f3, f4, _⟩ := hN5.cells
      have HN5 := hid_mk hN5
      have HB5 := hid_mk (HB4.out.trans (hB5.mono HB4.out.size))
      have HO5 := hid_mk (ownsRow_below HO4.out hB5)
      have HS5 : Hid (s5.id = ((m el.par).getD zeroEl).id ∧ s5.par = ((m el.par).getD zeroEl).par) := ⟨hE5.1, hE5.2.2.1⟩
      have HW3 : Hid (w.heap.size ≤ w3.heap.size) := HB3.out.size
      obtain ⟨W, hW⟩ : ∃ W, W = ((((w5.setCell ⟨w3.heap.size, 0, none⟩ (.int .i64 s5.id)).setCell ⟨w3.heap.size, 1, none⟩ (.string s5.tag)).setCell ⟨w3.heap.size, 2, none⟩ (.int .i64 s5.par)).setCell ⟨w3.heap.size, 3, none⟩ (.slice s5.ka s5.kn s5.kc)).setCell ⟨w3.heap.size, 4, none⟩ (.slice s5.aa s5.an s5.ac) := ⟨_, rfl⟩
      have HNW : Hid (NodeAt W w3.heap.size s5) := by rw [Hid, hW]; exact node_store HN5.out
      have HBW : Hid (Below w.heap.size w W) := by rw [Hid, hW]; exact ((((HB5.out.setCell (p := ⟨w3.heap.size, 0, none⟩) HW3.out _).setCell (p := ⟨w3.heap.size, 1, none⟩) HW3.out _).setCell (p := ⟨w3.heap.size, 2, none⟩) HW3.out _).setCell (p := ⟨w3.heap.size, 3, none⟩) HW3.out _).setCell (p := ⟨w3.heap.size, 4, none⟩) HW3.out _
      have HOW : Hid (W.ownsRow w.heap.size 3 1 v' (told.length + 1) (intsV told ++ intsV [n])) := by
        refine ownsRow_keep HO5.out (fun k hk hv => ?_)
        have := HL3.out k hv
        rw [hW]
        exact five_other w5 (by omega) _ _ _ _ _
      obtain ⟨av', cv', rfl⟩ := own_slice HO3.out
      have HW := hid_mk hW
      clear hnd hE5 hB5 hN5 hW HB5 HO5 HN5 HO4 HN4 HB4 HO3 HN3 HB3
      go_wp2
      refine ⟨⟨el.par, told ++ [n], w3.heap.size, s5, rfl, rfl, HT2, ?_, ?_, HS5, ?_⟩, by simp only [lenV]; omega⟩
      · rw [Hid, ← HW.out, List.length_append, intsV_app]
        exact HOW.out
      · rw [Hid, ← HW.out]
        exact HNW.out
      · rw [Hid, ← HW.out]
        exact HBW.out

set_option maxHeartbeats 1000000 in
theorem wdepth_any {w : World} {dp : Value} {m : M} {nx : Int} (h : Tree w dp m nx) (id : Int) : Calls Tryz.prog 15 #[dp, .int .i64 id] w fun x w' => x = .returned (.int .i64 (ups m id).length) ∧ Below w.heap.size w w' := by
  have hl := line_any h id
  clear h
  go_enter Tryz.func15, Tryz.ntmps15
  go_wp2_with (go_at_call 37; fail)
  refine hl.mono ?_
  rintro x w1 ⟨v, rfl, ho, hB⟩
  obtain ⟨a, c, rfl⟩ := own_slice ho
  clear hl ho
  go_wp2
  go_ret
  exact ⟨rfl, hB⟩
set_option maxHeartbeats 1000000 in
theorem wup_any {w : World} {dp : Value} {m : M} {nx : Int} (h : Tree w dp m nx) (id : Int) : Calls Tryz.prog 13 #[dp, .int .i64 id] w fun x w' => ∃ v, x = .returned v ∧ w'.ownsRow w.heap.size 3 1 v (ups m (parOf m id)).length (intsV (ups m (parOf m id))) ∧ Below w.heap.size w w' := by
  have hnd := tree_node h id
  have HL : Hid (∀ w' n, Below w.heap.size w w' → _) := fun w' n hw' => line_any (h.keep hw') n
  clear h
  go_enter Tryz.func13, Tryz.ntmps13
  go_wp2_with (go_at_call 26; fail)
  refine hnd.mono ?_
  rintro x w1 ⟨s, rfl, hE, hB1⟩
  have hpar : s.par = parOf m id := hE.2.2.1
  obtain ⟨w2, hw2⟩ : ∃ w2, w2 = w1.alloc (.cells #[.int .i64 s.id, .string s.tag, .int .i64 s.par, .slice s.ka s.kn s.kc, .slice s.aa s.an s.ac] 47) := ⟨_, rfl⟩
  have HB2 : Hid (Below w.heap.size w w2) := by rw [hw2]; exact hB1.alloc hB1.size _
  have hN2 : NodeAt w2 w1.heap.size s := by rw [hw2]; exact heap_alloc_last w1 _
  obtain ⟨⟨_, _, n2, _, _⟩, _⟩ := hN2.cells
  rw [hpar] at n2
  have HW2 := hid_mk hw2
  have hl := HL.out w2 (parOf m id) HB2.out
  clear hnd hE hB1 hw2 hN2 hpar HL
  go_upto_region 2 with (fail)
  rw [← HW2.out]
  go_wp2_with (go_at_call 37; refine hl.mono ?_; clear hl; rintro e w3 ⟨v, rfl, ho, hB3⟩)
  go_ret
  exact ⟨v, rfl, ownsRow_mono ho HB2.out.size, HB2.out.trans (hB3.mono HB2.out.size)⟩

end Go.Proofs.YtoncgmnccgegmaaGreat.N
namespace Go.Proofs.YtoncgmnccgegmaaGreat.N
open Go.RowKit
set_option maxRecDepth 100000

theorem RowAt.intAt {w : World} {a : Option Addr} {n c : Nat} {ks : List Int} (h : RowAt w 1 a n c (intsV ks)) {t : Nat} (ht : t < ks.length) : ∃ ab ao, a = some ⟨ab, ao, none⟩ ∧ ab < w.heap.size ∧ w.cell? ⟨ab, ao + t, none⟩ = some (.int .i64 ks[t]) := by
  have hl : (intsV ks).length = ks.length := by simp [intsV]
  rcases h.2.2.2.2 with ⟨_, h0⟩ | ⟨ab, ao, e1, l1, g1⟩
  · have := h.1
    have := h.2.1
    omega
  · exact ⟨ab, ao, e1, l1, g1 t _ (intsV_at ht)⟩
theorem RowAt.attAt {w : World} {a : Option Addr} {n c : Nat} {us : Us} (h : RowAt w 2 a n c (attrsV us)) {t : Nat} (ht : t < us.length) : ∃ ab ao, a = some ⟨ab, ao, none⟩ ∧ ab < w.heap.size ∧ w.cell? ⟨ab, ao + t * 2, none⟩ = some (.string us[t].1) ∧ w.cell? ⟨ab, ao + t * 2 + 1, none⟩ = some (.string us[t].2) := by
  have hl := attrsV_len us
  rcases h.2.2.2.2 with ⟨_, h0⟩ | ⟨ab, ao, e1, l1, g1⟩
  · have := h.1
    have := h.2.1
    omega
  · obtain ⟨q1, q2⟩ := attrsV_at ht
    refine ⟨ab, ao, e1, l1, g1 _ _ q1, ?_⟩
    have := g1 _ _ q2
    rwa [← Nat.add_assoc] at this

set_option maxHeartbeats 4000000 in
theorem ints_yes {w : World} {a1 a2 : Option Addr} {n1 n2 c1 c2 : Nat} {ks : List Int} (h1 : RowAt w 1 a1 n1 c1 (intsV ks)) (h2 : RowAt w 1 a2 n2 c2 (intsV ks)) : Calls Tryz.prog 10 #[.slice a1 n1 c1, .slice a2 n2 c2] w fun e w' => e = .returned (.bool true) ∧ Below w.heap.size w w' := by
  have hl : (intsV ks).length = ks.length := by simp [intsV]
  have hb1 := h1.2.1
  have hb2 := h2.2.1
  have hm1 := h1.2.2.1
  have hm2 := h2.2.2.1
  unfold maxLen at hm1 hm2
  obtain rfl : n1 = ks.length := by have := h1.1; omega
  obtain rfl : n2 = ks.length := by have := h2.1; omega
  have HC : Hid (∀ w', Below w.heap.size w w' → ∀ t (ht : t < ks.length), ∃ ab ao bb bo, a1 = some ⟨ab, ao, none⟩ ∧ a2 = some ⟨bb, bo, none⟩ ∧ w'.cell? ⟨ab, ao + t, none⟩ = some (.int .i64 ks[t]) ∧ w'.cell? ⟨bb, bo + t, none⟩ = some (.int .i64 ks[t])) := fun w' hw' t ht => by
    obtain ⟨ab, ao, e1, l1, g1⟩ := h1.intAt ht
    obtain ⟨bb, bo, e2, l2, g2⟩ := h2.intAt ht
    exact ⟨ab, ao, bb, bo, e1, e2, (hw'.cell (p := ⟨ab, ao + t, none⟩) l1).trans g1, (hw'.cell (p := ⟨bb, bo + t, none⟩) l2).trans g2⟩
  clear h1 h2 hl
  go_enter Tryz.func10, Tryz.ntmps10
  go_wp2
  go_loopw [13] (fun a13 wq => ∃ t : Nat, t ≤ ks.length ∧ a13 = .int .i64 (t : Int) ∧ Hid (Below w.heap.size w wq)) (fun a13 _ => ks.length + 1 - (intOf a13).toNat)
  case atStart => exact ⟨0, Nat.zero_le _, rfl, hid_mk (Below.refl _ _)⟩
  case round =>
    obtain ⟨t, ht, rfl, HB⟩ := hrel
    by_cases htl : t < ks.length
    · obtain ⟨ab, ao, bb, bo, rfl, rfl, q1, q2⟩ := HC.out wr HB.out t htl
      generalize ks[t] = v at *
      have hne : (v != v) = false := by simp
      clear HC
      go_upto_region 6 with (fail)
      go_quiet (fail)
      go_wp2
      exact ⟨⟨t + 1, htl, by go_num, hid_mk ⟨HB.out.os, HB.out.tape, HB.out.output, HB.out.size, HB.out.block⟩⟩, by simp only [intOf]; omega⟩
    · go_wp2
      go_ret
      exact ⟨rfl, HB.out⟩

theorem str_eq (w : World) (d : Nat) (x : ByteArray) : (Op.equalIn (d + 1) 9 (.string x) (.string x)).run Tryz.prog w = .ok true w := by
  have hx : (x == x) = true := by rw [beq_toListBytes]; simp
  simp [Op.equalIn, run_underlying Tryz.underlying9, hx]
theorem fields71 : Tryz.prog.underlying 80 = some (.struct (Tryz.prog.fieldsOf 80)) := by kernel_rfl
theorem attr_eq (w : World) (d : Nat) (x y : ByteArray) : (Op.equalIn (d + 2) 80 (.agg #[.string x, .string y]) (.agg #[.string x, .string y])).run Tryz.prog w = .ok true w := by
  have a1 := Tryz.isAgg9
  have q1 := str_eq
  rw [run_equalIn_struct w (d + 1) 80 _ _ fields71 (by kernel_rfl)]
  simp only [Program.fieldsOf, Tryz.underlying80]
  simp [Op.eqFields, part, a1, q1]
theorem attr_neq (w : World) (x y : ByteArray) : (binOp .neq 80 (.agg #[.string x, .string y]) (.agg #[.string x, .string y])).run Tryz.prog w = .ok (.bool false) w := by
  have h := attr_eq w 9998 x y
  simp only [binOp]
  simp [Op.equal, Op.maxDepth, h]

end Go.Proofs.YtoncgmnccgegmaaGreat.N
namespace Go.Proofs.YtoncgmnccgegmaaGreat.N
open Go.RowKit
set_option maxRecDepth 100000

theorem among_len {uok : List (ByteArray × ByteArray) → Prop} {m : M} {nx : Int} {d : Int → Nat} (I : Inv uok m nx d) (id : Int) : (amongZ m id).1.length ≤ 100000 ∧ -1 ≤ (amongZ m id).2 ∧ (amongZ m id).2 ≤ 100000 := by
  cases h : m id with
  | none => rw [among_none h]; simp
  | some e =>
    obtain ⟨l, i, hi, e1, _, _, hl, _⟩ := among_some I h
    rw [e1]
    dsimp only
    omega
theorem ret2si {a a' : Option Addr} {n n' c c' : Nat} {i i' : Int} (h1 : a = a') (h2 : n = n') (h3 : c = c') (h4 : i = i') : Ending.returned (.tuple #[.slice a n c, .int .i64 i]) = .returned (.tuple #[.slice a' n' c', .int .i64 i']) := by rw [h1, h2, h3, h4]
set_option maxHeartbeats 4000000 in
theorem among_any {w : World} {dp : Value} {m : M} {nx : Int} (h : Tree w dp m nx) (id : Int) : Calls Tryz.prog 38 #[dp, .int .i64 id] w fun x w' => ∃ a c, x = .returned (.tuple #[.slice a (amongZ m id).1.length c, .int .i64 (amongZ m id).2]) ∧ RowAt w' 1 a (amongZ m id).1.length c (intsV (amongZ m id).1) ∧ Below w.heap.size w w' := by
  have hn1 := tree_node h id
  have HND : Hid (∀ w' (n : Int), Below w.heap.size w w' → _) := fun w' n hw' => tree_node (h.keep hw') n
  obtain ⟨d, I⟩ := h.2
  have HI := hid_mk I
  clear I h
  cases he : m id with
  | none =>
    rw [he] at hn1
    rw [among_none he]
    clear he HND HI
    go_enter Tryz.func38, Tryz.ntmps38
    go_wp2_with (go_at_call 26; fail)
    refine hn1.mono ?_
    rintro x w1 ⟨s, rfl, _, hB1⟩
    have HB2 : Hid (Below w.heap.size w (w1.alloc (.cells #[.int .i64 s.id, .string s.tag, .int .i64 s.par, .slice s.ka s.kn s.kc, .slice s.aa s.an s.ac] 47))) := hB1.alloc hB1.size _
    clear hn1 hB1
    go_wp2
    refine bodyPost_ret (v := .tuple #[.slice none 0 0, .int .i64 (-1)]) (by simp [results, Tryz.results38, go_sem]) rfl ⟨none, 0, rfl, RowAt.nil _ 1, HB2.out⟩
  | some el =>
    rw [he] at hn1
    cases hp : m el.par with
    | none =>
      have hz : amongZ m id = ([id], 0) := by
        unfold amongZ
        rw [he]
        dsimp only
        rw [hp]
      rw [hz]
      have HN2 : Hid (∀ w', Below w.heap.size w w' → _) := fun w' hw' => HND.out w' el.par hw'
      rw [hp] at HN2
      clear he hp hz HND HI
      go_enter Tryz.func38, Tryz.ntmps38
      go_wp2_with (go_at_call 26; fail)
      refine hn1.mono ?_
      rintro x w1 ⟨s, rfl, hE, hB1⟩
      have hpar : s.par = el.par := hE.2.2.1
      obtain ⟨w2, hw2⟩ : ∃ w2, w2 = w1.alloc (.cells #[.int .i64 s.id, .string s.tag, .int .i64 s.par, .slice s.ka s.kn s.kc, .slice s.aa s.an s.ac] 47) := ⟨_, rfl⟩
      have HB2 : Hid (Below w.heap.size w w2) := by rw [hw2]; exact hB1.alloc hB1.size _
      have hN2 : NodeAt w2 w1.heap.size s := by rw [hw2]; exact heap_alloc_last w1 _
      obtain ⟨⟨_, _, n2, _, _⟩, _⟩ := hN2.cells
      rw [hpar] at n2
      have HW2 := hid_mk hw2
      have hnd := HN2.out w2 HB2.out
      clear hn1 hE hB1 hw2 hN2 hpar HN2
      go_upto_region 4 with (fail)
      rw [← HW2.out]
      go_wp2_with (go_at_call 26; fail)
      refine hnd.mono ?_
      rintro x w3 ⟨s3, rfl, _, hB3⟩
      obtain ⟨w4, hw4⟩ : ∃ w4, w4 = w3.alloc (.cells #[.int .i64 s3.id, .string s3.tag, .int .i64 s3.par, .slice s3.ka s3.kn s3.kc, .slice s3.aa s3.an s3.ac] 47) := ⟨_, rfl⟩
      have HB4 : Hid (Below w.heap.size w w4) := by rw [hw4]; exact (HB2.out.trans (hB3.mono HB2.out.size)).alloc (HB2.out.trans (hB3.mono HB2.out.size)).size _
      have HW4 := hid_mk hw4
      clear hnd hB3 hw4 n2
      go_upto_region 6 with (fail)
      rw [← HW4.out]
      have HR : Hid (RowAt (w4.alloc (.cells #[.int .i64 id] 3)) 1 (some ⟨w4.heap.size, 0, none⟩) 1 1 (intsV [id])) := row_one (heap_alloc_last w4 _) rfl
      have HB5 : Hid (Below w.heap.size w (w4.alloc (.cells #[.int .i64 id] 3))) := HB4.out.alloc HB4.out.size _
      go_wp2
      refine bodyPost_ret (v := .tuple #[.slice (some ⟨w4.heap.size, 0, none⟩) 1 1, .int .i64 0]) (by simp [results, Tryz.results38, go_sem]) rfl ⟨_, 1, rfl, HR.out, HB5.out⟩
    | some p =>
      have hz : amongZ m id = (p.ks, Lib.idxOf p.ks id) := by
        unfold amongZ
        rw [he]
        dsimp only
        rw [hp]
      rw [hz]
      have hkl : p.ks.length ≤ 100000 := by
        have := HI.out.ksLen hp
        have := HI.out.nxb
        omega
      have HN2 : Hid (∀ w', Below w.heap.size w w' → _) := fun w' hw' => HND.out w' el.par hw'
      rw [hp] at HN2
      clear he hp hz HND HI
      go_enter Tryz.func38, Tryz.ntmps38
      go_wp2_with (go_at_call 26; fail)
      refine hn1.mono ?_
      rintro x w1 ⟨s, rfl, hE, hB1⟩
      have hpar : s.par = el.par := hE.2.2.1
      obtain ⟨w2, hw2⟩ : ∃ w2, w2 = w1.alloc (.cells #[.int .i64 s.id, .string s.tag, .int .i64 s.par, .slice s.ka s.kn s.kc, .slice s.aa s.an s.ac] 47) := ⟨_, rfl⟩
      have HB2 : Hid (Below w.heap.size w w2) := by rw [hw2]; exact hB1.alloc hB1.size _
      have hN2 : NodeAt w2 w1.heap.size s := by rw [hw2]; exact heap_alloc_last w1 _
      obtain ⟨⟨_, _, n2, _, _⟩, _⟩ := hN2.cells
      rw [hpar] at n2
      have HW2 := hid_mk hw2
      have hnd := HN2.out w2 HB2.out
      clear hn1 hE hB1 hw2 hN2 hpar HN2
      go_upto_region 4 with (fail)
      rw [← HW2.out]
      go_wp2_with (go_at_call 26; fail)
      refine hnd.mono ?_
      rintro x w3 ⟨s3, rfl, hE3, hB3⟩
      have hkn : s3.kn = p.ks.length := ElAt.kn (e := p) hE3
      have hrow3 : RowAt w3 1 s3.ka s3.kn s3.kc (intsV p.ks) := hE3.2.2.2.1
      obtain ⟨w4, hw4⟩ : ∃ w4, w4 = w3.alloc (.cells #[.int .i64 s3.id, .string s3.tag, .int .i64 s3.par, .slice s3.ka s3.kn s3.kc, .slice s3.aa s3.an s3.ac] 47) := ⟨_, rfl⟩
      have hB34 : Below w3.heap.size w3 w4 := by rw [hw4]; exact (Below.refl _ _).alloc (Nat.le_refl _) _
      have HB4 : Hid (Below w.heap.size w w4) := (HB2.out.trans (hB3.mono HB2.out.size)).trans (hB34.mono (HB2.out.trans (hB3.mono HB2.out.size)).size)
      have hN4 : NodeAt w4 w3.heap.size s3 := by rw [hw4]; exact heap_alloc_last w3 _
      obtain ⟨⟨_, _, _, k3, _⟩, _⟩ := hN4.cells
      have HR4 := hid_mk (hrow3.keep hB34)
      obtain ⟨id3, tag3, par3, ka, kn, kc, aa, an, ac⟩ := s3
      dsimp only at *
      subst hkn
      have hix : ∀ w', RowAt w' 1 ka p.ks.length kc (intsV p.ks) → _ := fun w' hr => idxI hr (by omega) id
      have hdr : RowAt w4.drew 1 ka p.ks.length kc (intsV p.ks) := HR4.out.keep ((Below.refl _ _).drew)
      have h2 := hix w4.drew hdr
      have HW4 := hid_mk hw4
      have HBd : Hid (Below w.heap.size w w4.drew) := HB4.out.drew
      have HRd := hid_mk hdr
      clear hnd hE3 hB3 hw4 n2 hN4 hB34 hrow3 hix hdr
      go_upto_region 7 with (fail)
      rw [← HW4.out]
      have k3d : w4.drew.cell? ⟨w3.heap.size, 3, none⟩ = some (.slice ka p.ks.length kc) := k3
      go_region_held3 (fun w' => w'.cell? ⟨w3.heap.size, 3, none⟩ = some (.slice ka p.ks.length kc))
        (first | with_reducible exact k3d)
        (first | (go_at_call 72; with_reducible refine h2.mono ?_; rintro e wx ⟨rfl, rfl⟩))
      go_wp2
      refine bodyPost_ret (v := .tuple #[.slice ka p.ks.length kc, .int .i64 (Lib.idxOf p.ks id)]) (by simp [results, Tryz.results38, go_sem]) rfl ⟨ka, kc, rfl, HRd.out, HBd.out⟩

set_option maxHeartbeats 2000000 in
theorem wplace_any {w : World} {dp : Value} {m : M} {nx : Int} (h : Tree w dp m nx) (id : Int) : Calls Tryz.prog 17 #[dp, .int .i64 id] w fun x w' => x = .returned (if (amongZ m id).2 < 0 then .tuple #[.int .i64 0, .int .i64 0] else .tuple #[.int .i64 ((amongZ m id).2 + 1), .int .i64 ((amongZ m id).1.length - (amongZ m id).2)]) ∧ Below w.heap.size w w' := by
  have ha := among_any h id
  obtain ⟨d, I⟩ := h.2
  obtain ⟨b1, b2, b3⟩ := among_len I id
  generalize (amongZ m id).1 = l at *
  generalize (amongZ m id).2 = ix at *
  clear h I
  by_cases hlt : ix < 0
  · rw [if_pos hlt]
    go_enter Tryz.func17, Tryz.ntmps17
    go_wp2_with (go_at_call 38; refine ha.mono ?_; clear ha; rintro e w1 ⟨a, c, rfl, _, hB⟩; have HB := hid_mk hB; clear hB)
    refine bodyPost_ret (v := .tuple #[.int .i64 0, .int .i64 0]) (by simp [results, Tryz.results17, go_sem]) rfl ⟨rfl, HB.out⟩
  · rw [if_neg hlt]
    have h0 : 0 ≤ ix := by omega
    go_enter Tryz.func17, Tryz.ntmps17
    go_wp2_with (go_at_call 38; refine ha.mono ?_; clear ha; rintro e w1 ⟨a, c, rfl, _, hB⟩; have HB := hid_mk hB; clear hB)
    refine bodyPost_ret (v := .tuple #[.int .i64 (ix + 1), .int .i64 (l.length - ix)]) (by simp [results, Tryz.results17, go_sem]) rfl ⟨rfl, HB.out⟩
set_option maxHeartbeats 2000000 in
theorem beside_any {w : World} {dp : Value} {m : M} {nx : Int} (h : Tree w dp m nx) (id k : Int) (hk : k = 1 ∨ k = -1) : Calls Tryz.prog 41 #[dp, .int .i64 id, .int .i64 k] w fun x w' => x = .returned (.int .i64 (besideZ m id k)) ∧ Below w.heap.size w w' := by
  have ha := among_any h id
  obtain ⟨d, I⟩ := h.2
  obtain ⟨b1, b2, b3⟩ := among_len I id
  have HE : Hid (besideZ m id k = if (amongZ m id).2 + k < 0 ∨ ((amongZ m id).1.length : Int) ≤ (amongZ m id).2 + k then 0 else (amongZ m id).1.getD ((amongZ m id).2 + k).toNat 0) := rfl
  rw [HE.out]
  generalize (amongZ m id).1 = l at *
  generalize (amongZ m id).2 = ix at *
  have hk2 : -1 ≤ k ∧ k ≤ 1 := by omega
  clear h I HE hk
  by_cases hlt : ix + k < 0
  · rw [if_pos (.inl hlt)]
    go_enter Tryz.func41, Tryz.ntmps41
    go_wp2_with (go_at_call 38; refine ha.mono ?_; clear ha; rintro e w1 ⟨a, c, rfl, _, hB⟩; have HB := hid_mk hB; clear hB)
    go_ret
    exact ⟨rfl, HB.out⟩
  · by_cases hge : (l.length : Int) ≤ ix + k
    · rw [if_pos (.inr hge)]
      go_enter Tryz.func41, Tryz.ntmps41
      go_wp2_with (go_at_call 38; refine ha.mono ?_; clear ha; rintro e w1 ⟨a, c, rfl, _, hB⟩; have HB := hid_mk hB; clear hB)
      go_ret
      exact ⟨rfl, HB.out⟩
    · rw [if_neg (by omega)]
      obtain ⟨t, ht⟩ : ∃ t : Nat, ix + k = t := ⟨(ix + k).toNat, by omega⟩
      have HT := hid_mk ht
      have htl : t < l.length := by omega
      have hw1 : IntKind.i64.wrap (ix + k) = (t : Int) := by rw [IntKind.wrap_i64]; omega
      rw [ht, Int.toNat_natCast, List.getD_eq_getElem?_getD, List.getElem?_eq_getElem htl]
      have hlt2 : (t : Int) < (l.length : Int) := by omega
      clear ht hlt hge
      go_enter Tryz.func41, Tryz.ntmps41
      go_wp2_with (go_at_call 38; fail)
      refine ha.mono ?_
      rintro e w1 ⟨a, c, rfl, hr, hB⟩
      obtain ⟨ab, ao, rfl, _, hcl⟩ := hr.intAt htl
      have HB := hid_mk hB
      have hcap := hr.2.1
      have hcm := hr.2.2.1
      unfold maxLen at hcm
      clear ha hB hr
      go_wp2
      go_ret
      exact ⟨rfl, HB.out⟩

set_option maxHeartbeats 1000000 in
theorem after_any {w : World} {dp : Value} {m : M} {nx : Int} (h : Tree w dp m nx) (id : Int) : Calls Tryz.prog 21 #[dp, .int .i64 id] w fun x w' => x = .returned (.int .i64 (besideZ m id 1)) ∧ Below w.heap.size w w' := by
  have hb := beside_any h id 1 (.inl rfl)
  clear h
  go_enter Tryz.func21, Tryz.ntmps21
  go_wp2_with (go_at_call 41; refine hb.mono ?_; clear hb; rintro e w1 ⟨rfl, hB⟩)
  go_ret
  exact ⟨rfl, hB⟩
set_option maxHeartbeats 1000000 in
theorem before_any {w : World} {dp : Value} {m : M} {nx : Int} (h : Tree w dp m nx) (id : Int) : Calls Tryz.prog 19 #[dp, .int .i64 id] w fun x w' => x = .returned (.int .i64 (besideZ m id (-1))) ∧ Below w.heap.size w w' := by
  have hb := beside_any h id (-1) (.inr rfl)
  clear h
  go_enter Tryz.func19, Tryz.ntmps19
  go_wp2_with (go_at_call 41; refine hb.mono ?_; clear hb; rintro e w1 ⟨rfl, hB⟩)
  go_ret
  exact ⟨rfl, hB⟩

end Go.Proofs.YtoncgmnccgegmaaGreat.N
namespace Go.Proofs
open Go.Shelf
shelf_lay Lays.n112 Nm 112 at Tryz as Tryz.lays112
shelf_lay Lays.n122 Nm 122 at Tryz as Tryz.lays122
end Go.Proofs
namespace Go.Proofs.YtoncgmnccgegmaaGreat.N
open Go.RowKit
set_option maxRecDepth 100000

theorem cmp_any (x y : Int) (w : World) : Calls Tryz.prog 44 #[.int .i64 x, .int .i64 y] w fun e w' => e = .returned (.int .i64 (Lib.compareInt x y)) ∧ w' = w := Any.cmp_Compare_int Tryz.lays122 x y w
theorem put_other {w : World} {g k : Nat} (d : Array Int) (h : k ≠ g) : (Sort.putRow (Value.int .i64) w g 0 d).heap[k]? = w.heap[k]? := by
  have h' : g ≠ k := fun e => h e.symm
  simp [Sort.putRow, Sort.mapBlock, Array.getElem?_modify, h']
theorem put_same {w : World} {g : Nat} {cur : Array Value} {t : TypeId} (d : Array Int) (h : w.heap[g]? = some (.cells cur t (0, 0))) : (Sort.putRow (Value.int .i64) w g 0 d).heap[g]? = some (.cells (Sort.putCells (Value.int .i64) 0 d cur) t (0, 0)) := by
  simp [Sort.putRow, Sort.mapBlock, Array.getElem?_modify, h, Sort.onCells]
/-- What slices.Reverse leaves. -/
structure Turned (B : Nat) (w w' : World) (v : Value) (zs : List Int) : Prop where
  own : w'.ownsRow B 3 1 v zs.length (intsV zs.reverse)
  other : ∀ k, v.ownBlock ≠ some k → w'.heap[k]? = w.heap[k]?
  below : Below B w w'
theorem reverse_any {w : World} {B : Nat} {v : Value} {zs : List Int} (h : w.ownsRow B 3 1 v zs.length (intsV zs)) (hl : zs.length ≤ 100000) : Calls Tryz.prog 42 #[v] w fun e w' => e = .returned (.tuple #[]) ∧ Turned B w w' v zs := by
  obtain ⟨hlen, hc⟩ := id h
  rcases hc with ⟨rfl, h0⟩ | ⟨g, cap, cur, rfl, hBg, hg, hnc, hcm, hsz, hcur⟩
  · have hz : zs = [] := List.length_eq_zero_iff.1 h0
    subst hz
    refine (Any.slices_Reverse_int_empty Tryz.lays112 none 0 w).mono ?_
    rintro e w' ⟨rfl, rfl⟩
    exact ⟨rfl, h, fun k _ => rfl, Below.refl _ _⟩
  · have hcell : ∀ j, j < zs.length → cur[j]? = some (.int .i64 zs[j]!) := fun j hj => by
      have h1 : (cur.toList.take (zs.length * 1))[j]? = (intsV zs)[j]? := by rw [hcur]
      rw [List.getElem?_take_of_lt (by omega), Array.getElem?_toList, intsV_at hj] at h1
      rw [h1, getElem!_pos zs j hj]
    have hH : Sort.Holds (Value.int .i64) w g 0 zs.toArray := fun j hj => by
      have hj' : j < zs.length := by simpa using hj
      refine ⟨?_, by simp [World.frozen?, hg]⟩
      rw [Nat.zero_add]
      simp only [World.cell?, hg]
      rw [hcell j hj']
      simp
    refine (Any.slices_Reverse_int Tryz.lays112 g 0 cap zs w hH (by omega)).mono ?_
    rintro e w' ⟨rfl, n, rfl⟩
    have hga : (Sort.ahead w n).heap[g]? = some (.cells cur 3 (0, 0)) := hg
    refine ⟨rfl, ⟨by simp [intsV], .inr ⟨g, cap, _, rfl, hBg, put_same _ hga, hnc, hcm, ?_, ?_⟩⟩, fun k hk => ?_, ?_⟩
    · rw [← hsz]
      simp [Sort.putCells]
    · apply List.ext_getElem?
      intro j
      by_cases hj : j < zs.length
      · have hr : j < zs.reverse.length := by simpa using hj
        rw [List.getElem?_take_of_lt (by omega), Array.getElem?_toList, intsV_at hr]
        have hjc : j < cur.size := by omega
        simp only [Sort.putCells, Array.getElem?_mapIdx, Array.getElem?_eq_getElem hjc, Option.map_some]
        simp [hj]
      · rw [List.getElem?_eq_none (by simp; omega), List.getElem?_eq_none (by simp [intsV]; omega)]
    · have : k ≠ g := fun e => hk (by rw [e]; rfl)
      exact put_other _ this
    · exact ⟨rfl, rfl, rfl, by simp [Sort.putRow, Sort.mapBlock, Sort.ahead], fun k hk => put_other _ (by omega)⟩

end Go.Proofs.YtoncgmnccgegmaaGreat.N
namespace Go.Proofs.YtoncgmnccgegmaaGreat.N
open Go.RowKit
set_option maxRecDepth 100000

theorem shared_part {x y : List Int} {t : Nat} (h : ∀ j, j < t → x[j]? = y[j]?) (hx : t ≤ x.length) (hy : t ≤ y.length) (hn : (h1 : t < x.length) → (h2 : t < y.length) → x[t] ≠ y[t]) : sharedL x y = t := by
  induction t generalizing x y with
  | zero =>
    cases x with
    | nil => rfl
    | cons a x =>
      cases y with
      | nil => rfl
      | cons b y =>
        have hab : a ≠ b := hn (by simp) (by simp)
        rw [sharedL, if_neg hab]
  | succ t ih =>
    cases x with
    | nil => simp at hx
    | cons a x =>
      cases y with
      | nil => simp at hy
      | cons b y =>
        have h0 := h 0 (by omega)
        have hab : a = b := by simpa using h0
        rw [sharedL, if_pos hab, ih (fun j hj => by have := h (j + 1) (by omega); simpa using this) (by simpa using hx) (by simpa using hy) (fun h1 h2 => by
          have := hn (by simpa using h1) (by simpa using h2)
          simpa using this)]
set_option maxHeartbeats 4000000 in
theorem shared_any {w : World} {a1 a2 : Option Addr} {n1 n2 c1 c2 : Nat} {x y : List Int} (hx : RowAt w 1 a1 n1 c1 (intsV x)) (hy : RowAt w 1 a2 n2 c2 (intsV y)) (hlx : x.length ≤ 100000) (_hly : y.length ≤ 100000) : Calls Tryz.prog 43 #[.slice a1 n1 c1, .slice a2 n2 c2] w fun e w' => e = .returned (.int .i64 (sharedL x y)) ∧ Below w.heap.size w w' := by
  have hl1 : (intsV x).length = x.length := by simp [intsV]
  have hl2 : (intsV y).length = y.length := by simp [intsV]
  obtain rfl : n1 = x.length := by have := hx.1; omega
  obtain rfl : n2 = y.length := by have := hy.1; omega
  have hb1 := hx.2.1
  have hb2 := hy.2.1
  have hm1 := hx.2.2.1
  have hm2 := hy.2.2.1
  unfold maxLen at hm1 hm2
  have HC : Hid (∀ w', Below w.heap.size w w' → ∀ t (h1 : t < x.length) (h2 : t < y.length), ∃ ab ao bb bo, a1 = some ⟨ab, ao, none⟩ ∧ a2 = some ⟨bb, bo, none⟩ ∧ w'.cell? ⟨ab, ao + t, none⟩ = some (.int .i64 x[t]) ∧ w'.cell? ⟨bb, bo + t, none⟩ = some (.int .i64 y[t])) := fun w' hw' t h1 h2 => by
    obtain ⟨ab, ao, e1, l1, g1⟩ := hx.intAt h1
    obtain ⟨bb, bo, e2, l2, g2⟩ := hy.intAt h2
    exact ⟨ab, ao, bb, bo, e1, e2, (hw'.cell (p := ⟨ab, ao + t, none⟩) l1).trans g1, (hw'.cell (p := ⟨bb, bo + t, none⟩) l2).trans g2⟩
  obtain ⟨mn, hmn⟩ : ∃ mn, mn = min x.length y.length := ⟨_, rfl⟩
  have hmnI : min (x.length : Int) (y.length : Int) = (mn : Int) := by omega
  have hmx : mn ≤ x.length := by omega
  have hmy : mn ≤ y.length := by omega
  have hmo : mn = x.length ∨ mn = y.length := by omega
  clear hx hy hl1 hl2 hmn
  go_enter Tryz.func43, Tryz.ntmps43
  go_wp2
  go_loopw [13] (fun a13 wq => ∃ t : Nat, t ≤ mn ∧ a13 = .int .i64 (t : Int) ∧ Hid (∀ j, j < t → x[j]? = y[j]?) ∧ Hid (Below w.heap.size w wq)) (fun a13 _ => mn + 1 - (intOf a13).toNat)
  case atStart => exact ⟨0, Nat.zero_le _, rfl, fun j h => absurd h (by omega), hid_mk (Below.refl _ _)⟩
  case round =>
    obtain ⟨t, ht, rfl, HA, HB⟩ := hrel
    by_cases htl : t < mn
    · obtain ⟨ab, ao, bb, bo, rfl, rfl, q1, q2⟩ := HC.out wr HB.out t (by omega) (by omega)
      have HBd : Hid (Below w.heap.size w wr.drew) := HB.out.drew
      by_cases hq : x[t]'(by omega) = y[t]'(by omega)
      · have HA2 : Hid (∀ j, j < t + 1 → x[j]? = y[j]?) := fun j hj => by
          by_cases hjt : j < t
          · exact HA.out j hjt
          · have : j = t := by omega
            subst this
            rw [List.getElem?_eq_getElem (by omega), List.getElem?_eq_getElem (by omega), hq]
        rw [hq] at q1
        generalize y[t]'(by omega) = yv at *
        have hne : (yv != yv) = false := by simp
        have h1 : (t : Int) < (x.length : Int) := by omega
        have h2 : (t : Int) < (y.length : Int) := by omega
        clear HC hq HA
        go_upto_region 5 with (fail)
        go_quiet (fail)
        go_wp2
        exact ⟨⟨t + 1, htl, by go_num, HA2, hid_mk ⟨HB.out.os, HB.out.tape, HB.out.output, HB.out.size, HB.out.block⟩⟩, by simp only [intOf]; omega⟩
      · have HE := hid_mk (shared_part (x := x) (y := y) HA.out (by omega) (by omega) (fun _ _ => hq))
        have hne : (x[t]'(by omega) != y[t]'(by omega)) = true := by simpa using hq
        generalize y[t]'(by omega) = yv at *
        generalize x[t]'(by omega) = xv at *
        have h1 : (t : Int) < (x.length : Int) := by omega
        have h2 : (t : Int) < (y.length : Int) := by omega
        clear HC hq HA
        go_upto_region 5 with (fail)
        go_quiet (fail)
        go_wp2
        go_ret
        exact ⟨ret_int (by rw [HE.out]), ⟨HB.out.os, HB.out.tape, HB.out.output, HB.out.size, HB.out.block⟩⟩
    · have hte : t = mn := by omega
      subst hte
      have HE := hid_mk (shared_part (x := x) (y := y) HA.out hmx hmy (fun h1 h2 => by omega))
      clear HC HA
      go_wp2
      go_ret
      exact ⟨ret_int (by rw [HE.out]), HB.out⟩

theorem cmpL_zero {m : M} {x y : List Int} (h : x.length = 0 ∨ y.length = 0) : cmpL m x y = 0 := by unfold cmpL; rw [if_pos h]
set_option maxHeartbeats 1000000 in
theorem wcompare_any {w : World} {dp : Value} {m : M} {nx : Int} (h : Tree w dp m nx) (a b : Int) : Calls Tryz.prog 23 #[dp, .int .i64 a, .int .i64 b] w fun x w' => x = .returned (.int .i64 (cmpZ m a b)) ∧ Below w.heap.size w w' := by
  have hl1 := line_any h a
  have HL : Hid (∀ w', Below w.heap.size w w' → _) := fun w' hw' => line_any (h.keep hw') b
  have HAM : Hid (∀ w' n, Below w.heap.size w w' → _) := fun w' n hw' => among_any (h.keep hw') n
  obtain ⟨d, I⟩ := h.2
  have hx := ups_le I a
  have hy := ups_le I b
  have HCZ : Hid (cmpZ m a b = cmpL m (ups m a).reverse (ups m b).reverse) := rfl
  rw [HCZ.out]
  have hrx : (ups m a).reverse.length = (ups m a).length := by simp
  have hry : (ups m b).reverse.length = (ups m b).length := by simp
  obtain ⟨X, hX⟩ : ∃ X, X = (ups m a).reverse := ⟨_, rfl⟩
  obtain ⟨Y, hY⟩ : ∃ Y, Y = (ups m b).reverse := ⟨_, rfl⟩
  have hX0 : ups m a = X.reverse := by rw [hX, List.reverse_reverse]
  have hY0 : ups m b = Y.reverse := by rw [hY, List.reverse_reverse]
  rw [← hX, ← hY]
  obtain ⟨R, hR⟩ : ∃ R, R = cmpL m X Y := ⟨_, rfl⟩
  rw [← hR]
  have HR := hid_mk hR
  clear hR
  rw [hX0] at hl1 hx
  rw [hY0] at HL hy
  rw [List.length_reverse] at hl1 HL hx hy
  have hcI : (sharedL X Y ≤ X.length) ∧ (sharedL X Y ≤ Y.length) := shared_le X Y
  obtain ⟨hc1, hc2⟩ := hcI
  clear h I HCZ hrx hry hX hY hX0 hY0
  go_enter Tryz.func23, Tryz.ntmps23
  go_wp2_with (go_at_call 37; fail)
  refine hl1.mono ?_
  rintro x w1 ⟨vx, rfl, ho1, hB1⟩
  have HB1 := hid_mk hB1
  have HO1 := hid_mk ho1
  have hl2 := HL.out w1 hB1
  clear hl1 ho1 hB1 HL
  go_upto_region 2 with (go_at_call 37; refine hl2.mono ?_; clear hl2; rintro e w2 ⟨vy, rfl, ho2, hB2⟩; have HB12 := hid_mk hB2; have HO2 := hid_mk ho2; clear hB2 ho2)
  obtain ⟨ax, cx, rfl⟩ := own_slice HO1.out
  obtain ⟨ay, cy, rfl⟩ := own_slice HO2.out
  have HB2 := hid_mk (HB1.out.trans (HB12.out.mono HB1.out.size))
  have HX2 := hid_mk (ownsRow_below HO1.out HB12.out)
  have HXL : Hid (∀ k, (Value.slice ax X.length cx).ownBlock = some k → k < w1.heap.size) := fun k hk => (HO1.out.lt k hk).2
  have HYL : Hid (∀ k, (Value.slice ay Y.length cy).ownBlock = some k → w1.heap.size ≤ k) := fun k hk => (HO2.out.lt k hk).1
  by_cases h0 : X.length = 0 ∨ Y.length = 0
  · have HE : Hid (0 = R) := by rw [Hid, HR.out, cmpL_zero h0]
    clear HO1 HO2 HX2 HXL HYL HAM
    rcases h0 with h0 | h0
    · have hb0 : ((X.length : Int) == 0) = true := by simp [h0]
      generalize X.length = lx at *
      subst h0
      go_wp2
      go_ret
      exact ⟨ret_int HE.out, HB2.out⟩
    · by_cases hx0 : X.length = 0
      · generalize X.length = lx at *
        subst hx0
        go_wp2
        go_ret
        exact ⟨ret_int HE.out, HB2.out⟩
      · have hb1 : ((X.length : Int) == 0) = false := beq_false_of_ne (by omega)
        generalize Y.length = ly at *
        subst h0
        go_wp2
        go_ret
        exact ⟨ret_int HE.out, HB2.out⟩
  · have hb1 : ((X.length : Int) == 0) = false := beq_false_of_ne (by omega)
    have hb2 : ((Y.length : Int) == 0) = false := beq_false_of_ne (by omega)
    have hrv1 := reverse_any (zs := X.reverse) (by rw [List.length_reverse]; exact HX2.out) (by simp; omega)
    go_wp2_with (go_at_call 42; fail)
    refine hrv1.mono ?_
    rintro e w3 ⟨rfl, T3⟩
    have HY3 : Hid (w3.ownsRow w1.heap.size 3 1 (.slice ay Y.length cy) Y.length (intsV Y.reverse)) := ownsRow_keep HO2.out (fun k hk hv => T3.other k (fun e => by have h1 := HXL.out k e; have h2 := HYL.out k hv; omega))
    have HX3 : Hid (w3.ownsRow w.heap.size 3 1 (.slice ax X.length cx) X.length (intsV X)) := by
      have := T3.own
      rw [List.reverse_reverse, List.length_reverse] at this
      exact this
    have HB3 : Hid (Below w.heap.size w w3) := HB2.out.trans T3.below
    have hrv2 := reverse_any (w := w3) (zs := Y.reverse) (v := .slice ay Y.length cy) (B := w1.heap.size) (by rw [List.length_reverse]; exact HY3.out) (by simp; omega)
    have HBS := HB1.out.size
    clear hrv1 T3 HO1 HO2 HX2 HB2 HB12 HB1
    go_wp2_with (go_at_call 42; fail)
    refine hrv2.mono ?_
    rintro e w4 ⟨rfl, T4⟩
    have hX4 : w4.ownsRow w.heap.size 3 1 (.slice ax X.length cx) X.length (intsV X) := ownsRow_keep HX3.out (fun k hk hv => T4.other k (fun e => by have h1 := HXL.out k hv; have h2 := HYL.out k e; omega))
    have hY4 : w4.ownsRow w1.heap.size 3 1 (.slice ay Y.length cy) Y.length (intsV Y) := by
      have := T4.own
      rw [List.reverse_reverse, List.length_reverse] at this
      exact this
    have HB4 : Hid (Below w.heap.size w w4) := HB3.out.trans (T4.below.mono HBS)
    obtain ⟨ax', cx', e1, hrx, _⟩ := RowAt.of_owns hX4 (intsV_one _)
    obtain ⟨ay', cy', e2, hry, _⟩ := RowAt.of_owns hY4 (intsV_one _)
    cases e1
    cases e2
    have hsh := shared_any hrx hry (by omega) (by omega)
    have HRX := hid_mk hrx
    have HRY := hid_mk hry
    have HCM : Hid (∀ x y w', _) := fun x y w' => cmp_any x y w'
    clear hrv2 T4 HX3 HY3 HB3 hX4 hY4 hrx hry HXL HYL HBS
    have HSH : Hid (R = if sharedL X Y = X.length ∨ sharedL X Y = Y.length then Lib.compareInt X.length Y.length else Lib.compareInt (amongZ m (X.getD (sharedL X Y) 0)).2 (amongZ m (Y.getD (sharedL X Y) 0)).2) := by
      rw [Hid, HR.out]
      unfold cmpL
      rw [if_neg h0]
    generalize sharedL X Y = sh at *
    clear HR h0 hb1 hb2
    go_upto_region 7 with (go_at_call 43; refine hsh.mono ?_; clear hsh; rintro e w5 ⟨rfl, hB5⟩; have HB5 := hid_mk hB5; clear hB5)
    have HB05 := hid_mk (HB4.out.trans (HB5.out.mono HB4.out.size))
    by_cases hs : sh = X.length ∨ sh = Y.length
    · have HE : Hid (Lib.compareInt (X.length : Int) (Y.length : Int) = R) := by rw [Hid, HSH.out, if_pos hs]
      have hcm := HCM.out (X.length : Int) (Y.length : Int) w5
      clear HSH
      clear HAM HCM
      generalize Lib.compareInt (X.length : Int) (Y.length : Int) = R2 at *
      by_cases hs1 : sh = X.length
      · have hb : ((sh : Int) == (X.length : Int)) = true := by simp [hs1]
        clear hs hs1 hc1 hc2
        go_wp2_with (go_at_call 44; refine hcm.mono ?_; clear hcm; rintro e wx ⟨rfl, rfl⟩)
        go_ret
        exact ⟨ret_int HE.out, HB05.out⟩
      · have hb : ((sh : Int) == (X.length : Int)) = false := beq_false_of_ne (by omega)
        have hb' : ((sh : Int) == (Y.length : Int)) = true := by simp; omega
        clear hs hs1 hc1 hc2
        go_wp2_with (go_at_call 44; refine hcm.mono ?_; clear hcm; rintro e wx ⟨rfl, rfl⟩)
        go_ret
        exact ⟨ret_int HE.out, HB05.out⟩
    · have HE : Hid (Lib.compareInt (amongZ m (X.getD sh 0)).2 (amongZ m (Y.getD sh 0)).2 = R) := by rw [Hid, HSH.out, if_neg hs]
      clear HSH
      have l1 : sh < X.length := by omega
      have l2 : sh < Y.length := by omega
      have g1 : X.getD sh 0 = X[sh] := by rw [List.getD_eq_getElem?_getD, List.getElem?_eq_getElem l1]; rfl
      have g2 : Y.getD sh 0 = Y[sh] := by rw [List.getD_eq_getElem?_getD, List.getElem?_eq_getElem l2]; rfl
      rw [g1, g2] at HE
      have hb : ((sh : Int) == (X.length : Int)) = false := beq_false_of_ne (by omega)
      have hb' : ((sh : Int) == (Y.length : Int)) = false := beq_false_of_ne (by omega)
      obtain ⟨ab, ao, rfl, hl1, q1⟩ := (HRX.out.keep HB5.out).intAt l1
      have HYc : Hid (∀ W, Below w5.heap.size w5 W → ∃ bb bo, ay = some ⟨bb, bo, none⟩ ∧ W.cell? ⟨bb, bo + sh, none⟩ = some (.int .i64 Y[sh])) := fun W hW => by
        obtain ⟨bb, bo, e, hl, q⟩ := (HRY.out.keep HB5.out).intAt l2
        exact ⟨bb, bo, e, (hW.cell (p := ⟨bb, bo + sh, none⟩) hl).trans q⟩
      have hcx := HRX.out.2.1
      have hcy := HRY.out.2.1
      have hmx := HRX.out.2.2.1
      have hmy := HRY.out.2.2.1
      unfold maxLen at hmx hmy
      generalize X[sh] = xs at *
      generalize Y[sh] = ys at *
      have ha1 := HAM.out w5 xs HB05.out
      have h1 : (sh : Int) < (X.length : Int) := by omega
      have h2 : (sh : Int) < (Y.length : Int) := by omega
      clear HRX HRY g1 g2
      go_wp2_with (go_at_call 38; fail)
      refine ha1.mono ?_
      rintro e w6 ⟨a6, c6, rfl, _, hB6⟩
      obtain ⟨bb, bo, rfl, q2⟩ := HYc.out w6 hB6
      have HB6 := hid_mk (HB05.out.trans (hB6.mono HB05.out.size))
      have ha2 := HAM.out w6 ys HB6.out
      clear ha1 hB6 HYc q1 HAM
      generalize (amongZ m xs).2 = i1 at *
      generalize (amongZ m xs).1.length = L1 at *
      go_wp2_with (go_at_call 38; fail)
      refine ha2.mono ?_
      rintro e w7 ⟨a7, c7, rfl, _, hB7⟩
      have HB7 := hid_mk (HB6.out.trans (hB7.mono HB6.out.size))
      generalize (amongZ m ys).2 = i2 at *
      generalize (amongZ m ys).1.length = L2 at *
      have hcm := HCM.out i1 i2 w7
      clear ha2 hB7 q2 HCM
      generalize Lib.compareInt i1 i2 = R2 at *
      go_wp2_with (go_at_call 44; refine hcm.mono ?_; clear hcm; rintro e wx ⟨rfl, rfl⟩)
      go_ret
      exact ⟨ret_int HE.out, HB7.out⟩

end Go.Proofs.YtoncgmnccgegmaaGreat.N
