/- Where elements stand: mathematics. walk's line, Depth, Up. Two elements alike: gouacheref01.Ints, gouacheref07.Same; two trees alike: equal. walk's among, beside, Place, Before, After. walk's Compare. walk's shared and Compare. The document's Up. WalkUnders: the walk. -/
import Derived.Test.YtdiljkmlneeboaaGreatPakN
import Derived.Lib.Small
import Derived.Test.YtdiljkmlneeboaaGreatRfB
import Derived.Test.YtdiljkmlneeboaaGreatRfS
import Derived.Deep.CutBlock
import Derived.Test.YtdiljkmlneeboaaGreatPlcN
import Derived.Deep.RegionHeld3
import Derived.Shelf.Slices.Reverse
import Derived.Shelf.Small.Wraps
namespace Go.Proofs.YtdiljkmlneeboaaGreat.N
open Go.RowKit
set_option maxRecDepth 100000

variable {uok : List (ByteArray × ByteArray) → Prop} {m : M} {nx : Int} {d : Int → Nat}
/-- An element's Parent's number; 0 of none. -/
def parOf (m : M) (id : Int) : Int := ((m id).getD zeroEl).par
/-- The Kids of its Parent, and where it stands among them. -/
def amongZ (m : M) (id : Int) : List Int × Int := match m id with
  | none => ([], -1)
  | some e => match m e.par with
    | none => ([id], 0)
    | some p => (p.ks, Lib.idxOf p.ks id)
/-- How many two lists have alike from their beginning on. -/
def sharedL : List Int → List Int → Nat
  | x :: xs, y :: ys => if x = y then sharedL xs ys + 1 else 0
  | _, _ => 0
/-- The one so many places behind it. -/
def besideZ (m : M) (id k : Int) : Int := if (amongZ m id).2 + k < 0 ∨ ((amongZ m id).1.length : Int) ≤ (amongZ m id).2 + k then 0 else (amongZ m id).1.getD ((amongZ m id).2 + k).toNat 0
/-- Which of two is ahead. -/
def cmpL (m : M) (x y : List Int) : Int :=
  if x.length = 0 ∨ y.length = 0 then 0
  else if sharedL x y = x.length ∨ sharedL x y = y.length then Lib.compareInt x.length y.length
  else Lib.compareInt (amongZ m (x.getD (sharedL x y) 0)).2 (amongZ m (y.getD (sharedL x y) 0)).2
def cmpZ (m : M) (a b : Int) : Int := cmpL m (ups m a).reverse (ups m b).reverse

theorem idxOf_at {l : List Int} (hn : l.Nodup) {k : Nat} (hk : k < l.length) : Lib.idxOf l l[k] = (k : Nat) := by
  have hg : l[k]? = some l[k] := List.getElem?_eq_getElem hk
  have := Lib.idxOf_hit l l.length k l[k] hk (Nat.le_refl _) (by rw [List.getD_eq_getElem?_getD, hg]; rfl) (fun j hj hjx => by
    have hjl : j < l.length := by omega
    rw [List.getD_eq_getElem?_getD, List.getElem?_eq_getElem hjl] at hjx
    exact (List.pairwise_iff_getElem.1 hn) j k hjl hk hj hjx)
  rwa [List.take_length] at this
theorem among_none {a : Int} (h : m a = none) : amongZ m a = ([], -1) := by unfold amongZ; rw [h]
/-- Where an element stands among its Parent's Kids. -/
theorem among_some (I : Inv uok m nx d) {a : Int} {e : El} (h : m a = some e) : ∃ (l : List Int) (i : Nat) (hi : i < l.length), amongZ m a = (l, (i : Int)) ∧ l[i] = a ∧ l.Nodup ∧ l.length ≤ 100000 ∧ ∀ j (hj : j < l.length), amongZ m l[j] = (l, (j : Int)) ∧ ∃ e', m l[j] = some e' ∧ e'.par = e.par := by
  by_cases h1 : a = 1
  · subst h1
    have hp : e.par = 0 := (I.parRoot h).2 rfl
    have hz := I.zero
    have ha : amongZ m 1 = ([1], 0) := by
      unfold amongZ
      rw [h]
      dsimp only
      rw [hp, hz]
    refine ⟨[1], 0, by simp, ha, rfl, by simp, by simp, fun j hj => ?_⟩
    have : j = 0 := by simpa using hj
    subst this
    exact ⟨ha, e, h, rfl⟩
  · obtain ⟨p, hp, hk⟩ := I.par h h1
    have hnd := I.nd hp
    have key : ∀ j (hj : j < p.ks.length), amongZ m p.ks[j] = (p.ks, (j : Int)) ∧ ∃ e', m p.ks[j] = some e' ∧ e'.par = e.par := fun j hj => by
      obtain ⟨c, hc, hcp⟩ := I.kid hp (List.getElem_mem hj)
      refine ⟨?_, c, hc, hcp⟩
      unfold amongZ
      rw [hc]
      dsimp only
      rw [hcp, hp]
      dsimp only
      rw [idxOf_at hnd hj]
    obtain ⟨i, hi, he⟩ := List.getElem_of_mem hk
    have hl := I.ksLen hp
    have hb := I.nxb
    refine ⟨p.ks, i, hi, ?_, he, hnd, by omega, key⟩
    rw [← he]
    exact (key i hi).1
theorem beside_some {a : Int} {l : List Int} {i : Nat} (ha : amongZ m a = (l, (i : Int))) (k : Int) : besideZ m a k = if (i : Int) + k < 0 ∨ (l.length : Int) ≤ i + k then 0 else l.getD ((i : Int) + k).toNat 0 := by
  unfold besideZ
  rw [ha]
theorem beside_none {a : Int} (h : m a = none) (k : Int) : besideZ m a k = 0 := by
  unfold besideZ
  rw [among_none h]
  split
  · rfl
  · rfl

/-- Two lists, what they have alike, and where they part. -/
theorem shared_le (x y : List Int) : sharedL x y ≤ x.length ∧ sharedL x y ≤ y.length := by
  induction x generalizing y with
  | nil => cases y <;> simp [sharedL]
  | cons a x ih =>
    cases y with
    | nil => simp [sharedL]
    | cons b y =>
      unfold sharedL
      split
      · have := ih y
        simp
        omega
      · simp
theorem shared_comm (x y : List Int) : sharedL x y = sharedL y x := by
  induction x generalizing y with
  | nil => cases y <;> simp [sharedL]
  | cons a x ih =>
    cases y with
    | nil => simp [sharedL]
    | cons b y =>
      unfold sharedL
      by_cases h : a = b
      · rw [if_pos h, if_pos h.symm, ih]
      · rw [if_neg h, if_neg (fun e => h e.symm)]
theorem shared_take (x y : List Int) : x.take (sharedL x y) = y.take (sharedL x y) := by
  induction x generalizing y with
  | nil => cases y <;> simp [sharedL]
  | cons a x ih =>
    cases y with
    | nil => simp [sharedL]
    | cons b y =>
      unfold sharedL
      by_cases h : a = b
      · rw [if_pos h, List.take_succ_cons, List.take_succ_cons, ih, h]
      · rw [if_neg h]
        simp
theorem shared_ne {x y : List Int} (h1 : sharedL x y < x.length) (h2 : sharedL x y < y.length) : x[sharedL x y] ≠ y[sharedL x y] := by
  induction x generalizing y with
  | nil => simp [sharedL] at h1
  | cons a x ih =>
    cases y with
    | nil => simp [sharedL] at h2
    | cons b y =>
      by_cases h : a = b
      · have e : sharedL (a :: x) (b :: y) = sharedL x y + 1 := by rw [sharedL, if_pos h]
        have h1' : sharedL x y < x.length := by rw [e] at h1; simpa using h1
        have h2' : sharedL x y < y.length := by rw [e] at h2; simpa using h2
        have := ih h1' h2'
        simpa [e] using this
      · have e : sharedL (a :: x) (b :: y) = 0 := by rw [sharedL, if_neg h]
        simpa [e] using h
theorem shared_self (x : List Int) : sharedL x x = x.length := by
  induction x with
  | nil => rfl
  | cons a x ih => rw [sharedL, if_pos rfl, ih]; rfl
theorem shared_app (r x y : List Int) : sharedL (r ++ x) (r ++ y) = r.length + sharedL x y := by
  induction r with
  | nil => simp
  | cons a r ih => rw [List.cons_append, List.cons_append, sharedL, if_pos rfl, ih, List.length_cons]; omega
theorem cmpI_anti (x y : Int) : Lib.compareInt x y = - Lib.compareInt y x := by
  unfold Lib.compareInt
  (repeat' split) <;> omega
theorem cmpI_zero {x y : Int} : Lib.compareInt x y = 0 ↔ x = y := by
  unfold Lib.compareInt
  (repeat' split) <;> omega
theorem cmpI_lt {x y : Int} (h : x < y) : Lib.compareInt x y = -1 := by
  unfold Lib.compareInt
  (repeat' split) <;> omega
theorem cmpL_anti (x y : List Int) : cmpL m x y = - cmpL m y x := by
  have e1 : (y.length = 0 ∨ x.length = 0) = (x.length = 0 ∨ y.length = 0) := by rw [or_comm]
  have e2 : (sharedL x y = y.length ∨ sharedL x y = x.length) = (sharedL x y = x.length ∨ sharedL x y = y.length) := by rw [or_comm]
  unfold cmpL
  rw [shared_comm y x]
  simp only [e1, e2]
  split
  · rfl
  · split
    · exact cmpI_anti _ _
    · exact cmpI_anti _ _
theorem cmpZ_anti (a b : Int) : cmpZ m a b = - cmpZ m b a := cmpL_anti _ _
theorem cmpZ_none {a b : Int} (h : m a = none ∨ m b = none) : cmpZ m a b = 0 := by
  unfold cmpZ cmpL
  rw [if_pos]
  rcases h with h | h <;> simp [ups_none h]
theorem cmpZ_self (a : Int) : cmpZ m a a = 0 := by
  unfold cmpZ cmpL
  split
  · rfl
  · rw [if_pos (.inl (shared_self _))]
    exact cmpI_zero.2 rfl
theorem ups_head (I : Inv uok m nx d) {a : Int} {e : El} (h : m a = some e) : ups m a = a :: ups m e.par := ups_some I h
/-- From the root down: each one's Parent stands ahead of it. -/
theorem down_chain (I : Inv uok m nx d) : ∀ (n : Nat) (a : Int) (e : El), m a = some e → d a = n → ∀ X, X = (ups m a).reverse → X[0]? = some 1 ∧ ∀ (s : Nat) (c1 : Int), X[s + 1]? = some c1 → ∃ c, m c1 = some c ∧ X[s]? = some c.par := by
  intro n
  induction n with
  | zero => intro a e h hd; have := I.pos h; omega
  | succ n ih =>
    intro a e h hd X hX
    have hu := ups_some I h
    by_cases h1 : a = 1
    · have hp : e.par = 0 := (I.parRoot h).2 h1
      rw [hp, ups_none I.zero] at hu
      rw [hu, h1] at hX
      rw [hX]
      exact ⟨rfl, fun s c hs => by simp at hs⟩
    · obtain ⟨p, hp, _⟩ := I.par h h1
      have hdp := I.dep h h1
      obtain ⟨Y, hY⟩ : ∃ Y, Y = (ups m e.par).reverse := ⟨_, rfl⟩
      obtain ⟨i1, i2⟩ := ih e.par p hp (by omega) Y hY
      have hr : X = Y ++ [a] := by rw [hX, hu, List.reverse_cons, hY]
      have hrr : Y = (ups m p.par).reverse ++ [e.par] := by rw [hY, ups_some I hp, List.reverse_cons]
      have hpl : 0 < Y.length := by rw [hrr]; simp
      rw [hr]
      refine ⟨by rw [List.getElem?_append_left hpl]; exact i1, fun s c1 hs => ?_⟩
      by_cases hlt : s + 1 < Y.length
      · rw [List.getElem?_append_left hlt] at hs
        rw [List.getElem?_append_left (by omega)]
        exact i2 s c1 hs
      · rw [List.getElem?_append_right (by omega)] at hs
        have hse : s + 1 - Y.length = 0 := by
          have := (List.getElem?_eq_some_iff.1 hs).1
          simpa using this
        rw [hse] at hs
        have hc : a = c1 := by simpa using hs
        subst hc
        refine ⟨e, h, ?_⟩
        have hl : s = (ups m p.par).reverse.length := by
          have := congrArg List.length hrr
          rw [List.length_append, List.length_singleton] at this
          omega
        rw [List.getElem?_append_left (by omega), hrr, List.getElem?_append_right (by omega), hl]
        simp
/-- Two elements stand at one place only if they are one. -/
theorem cmpZ_zero (I : Inv uok m nx d) {a b : Int} {e f : El} (ha : m a = some e) (hb : m b = some f) : cmpZ m a b = 0 ↔ a = b := by
  constructor
  · intro h
    unfold cmpZ at h
    obtain ⟨X, hX⟩ : ∃ X, X = (ups m a).reverse := ⟨_, rfl⟩
    obtain ⟨Y, hY⟩ : ∃ Y, Y = (ups m b).reverse := ⟨_, rfl⟩
    obtain ⟨a0, ac⟩ := down_chain I _ a e ha rfl X hX
    obtain ⟨b0, bc⟩ := down_chain I _ b f hb rfl Y hY
    have hxa : X = (ups m e.par).reverse ++ [a] := by rw [hX, ups_some I ha, List.reverse_cons]
    have hxb : Y = (ups m f.par).reverse ++ [b] := by rw [hY, ups_some I hb, List.reverse_cons]
    rw [← hX, ← hY] at h
    have hlX : X.length ≠ 0 := by rw [hxa]; simp
    have hlY : Y.length ≠ 0 := by rw [hxb]; simp
    unfold cmpL at h
    rw [if_neg (by omega)] at h
    obtain ⟨s1, s2⟩ := shared_le X Y
    have htk := shared_take X Y
    split at h
    · rename_i hs
      rw [cmpI_zero] at h
      have hlen : X.length = Y.length := by omega
      have hs' : sharedL X Y = X.length := by omega
      have hXY : X = Y := by
        rw [hs', List.take_length, hlen, List.take_length] at htk
        exact htk
      have : X.getLast? = Y.getLast? := by rw [hXY]
      rw [hxa, hxb] at this
      simpa using this
    · rename_i hs
      rw [cmpI_zero] at h
      have l1 : sharedL X Y < X.length := by omega
      have l2 : sharedL X Y < Y.length := by omega
      have hne := shared_ne l1 l2
      have x1 : X[sharedL X Y]? = some X[sharedL X Y] := List.getElem?_eq_getElem l1
      have y1 : Y[sharedL X Y]? = some Y[sharedL X Y] := List.getElem?_eq_getElem l2
      have hg1 : X.getD (sharedL X Y) 0 = X[sharedL X Y] := by rw [List.getD_eq_getElem?_getD, x1]; rfl
      have hg2 : Y.getD (sharedL X Y) 0 = Y[sharedL X Y] := by rw [List.getD_eq_getElem?_getD, y1]; rfl
      rw [hg1, hg2] at h
      generalize X[sharedL X Y] = xs at *
      generalize Y[sharedL X Y] = ys at *
      have hpos : sharedL X Y ≠ 0 := fun h0 => by
        rw [h0] at x1 y1
        rw [a0] at x1
        rw [b0] at y1
        exact hne ((Option.some.inj x1).symm.trans (Option.some.inj y1))
      obtain ⟨s, hs1⟩ : ∃ s, sharedL X Y = s + 1 := ⟨sharedL X Y - 1, by omega⟩
      rw [hs1] at x1 y1 htk
      obtain ⟨c1, m1, p1⟩ := ac s _ x1
      obtain ⟨c2, m2, p2⟩ := bc s _ y1
      have hpar : c1.par = c2.par := by
        have h1 : (X.take (s + 1))[s]? = (Y.take (s + 1))[s]? := by rw [htk]
        rw [List.getElem?_take_of_lt (by omega), List.getElem?_take_of_lt (by omega), p1, p2] at h1
        exact Option.some.inj h1
      obtain ⟨q1, i1, hi1, e1, g1, nd1, _, _⟩ := among_some I m1
      obtain ⟨q2, i2, hi2, e2, g2, nd2, _, _⟩ := among_some I m2
      obtain ⟨P, hP⟩ : ∃ P, m c1.par = some P := by
        cases s with
        | zero =>
          rw [a0] at p1
          rw [← Option.some.inj p1]
          obtain ⟨r, hr, _⟩ := I.root
          exact ⟨r, hr⟩
        | succ s =>
          obtain ⟨c, hc, _⟩ := ac s _ p1
          exact ⟨c, hc⟩
      have a1 : (amongZ m xs).1 = P.ks := by
        unfold amongZ
        rw [m1]
        dsimp only
        rw [hP]
      have a2 : (amongZ m ys).1 = P.ks := by
        unfold amongZ
        rw [m2]
        dsimp only
        rw [← hpar, hP]
      rw [e1] at a1
      rw [e2] at a2
      have hq : q1 = q2 := a1.trans a2.symm
      subst hq
      rw [e1, e2] at h
      have : i1 = i2 := by
        have h' : (i1 : Int) = (i2 : Int) := h
        omega
      subst this
      exact absurd (g1.symm.trans g2) hne
  · rintro rfl
    exact cmpZ_self a
/-- A later sibling is behind. -/
theorem cmpZ_sib (I : Inv uok m nx d) {a b : Int} {e f : El} (ha : m a = some e) (hb : m b = some f) (hp : e.par = f.par) {l : List Int} {i j : Int} (h1 : amongZ m a = (l, i)) (h2 : amongZ m b = (l, j)) (hij : i < j) : cmpZ m a b = -1 := by
  have hne : a ≠ b := fun h => by
    rw [h, h2] at h1
    injection h1 with _ h1
    omega
  have hx : (ups m a).reverse = (ups m e.par).reverse ++ [a] := by rw [ups_some I ha, List.reverse_cons]
  have hy : (ups m b).reverse = (ups m e.par).reverse ++ [b] := by rw [ups_some I hb, List.reverse_cons, hp]
  unfold cmpZ cmpL
  rw [hx, hy, shared_app]
  have hs : sharedL [a] [b] = 0 := by rw [sharedL, if_neg hne]
  rw [hs, Nat.add_zero, if_neg (by simp), if_neg (by simp)]
  have g1 : ((ups m e.par).reverse ++ [a]).getD (ups m e.par).reverse.length 0 = a := by
    rw [List.getD_eq_getElem?_getD, List.getElem?_append_right (Nat.le_refl _), Nat.sub_self]
    rfl
  have g2 : ((ups m e.par).reverse ++ [b]).getD (ups m e.par).reverse.length 0 = b := by
    rw [List.getD_eq_getElem?_getD, List.getElem?_append_right (Nat.le_refl _), Nat.sub_self]
    rfl
  rw [g1, g2, h1, h2]
  exact cmpI_lt hij
/-- Who is above is ahead. -/
theorem ups_suf (I : Inv uok m nx d) : ∀ (n : Nat) (a : Int) (e : El), m a = some e → d a = n → ∀ k ∈ ups m a, ∃ t, ups m a = t ++ ups m k ∧ (k ≠ a → t ≠ []) := by
  intro n
  induction n with
  | zero => intro a e h hd; have := I.pos h; omega
  | succ n ih =>
    intro a e h hd k hk
    have hu := ups_some I h
    rw [hu] at hk
    rcases List.mem_cons.1 hk with rfl | hk
    · exact ⟨[], rfl, fun h => absurd rfl h⟩
    · by_cases h1 : a = 1
      · have hp : e.par = 0 := (I.parRoot h).2 h1
        rw [hp, ups_none I.zero] at hk
        cases hk
      · obtain ⟨p, hp, _⟩ := I.par h h1
        have hdp := I.dep h h1
        obtain ⟨t, ht, _⟩ := ih e.par p hp (by omega) k hk
        exact ⟨a :: t, by rw [hu, ht]; rfl, fun _ => by simp⟩
theorem cmpZ_up (I : Inv uok m nx d) {a k : Int} {e : El} (ha : m a = some e) (hk : k ∈ ups m e.par) : cmpZ m k a = -1 := by
  have hu := ups_some I ha
  have hka : k ∈ ups m a := by rw [hu]; exact List.mem_cons_of_mem _ hk
  obtain ⟨v, hv⟩ := ups_mem I _ _ hk
  have hne : k ≠ a := fun h => by
    have h1 := ups_dep I _ _ hk
    by_cases ha1 : a = 1
    · have hp : e.par = 0 := (I.parRoot ha).2 ha1
      rw [hp, ups_none I.zero] at hk
      cases hk
    · have := I.dep ha ha1
      rw [h] at h1
      omega
  obtain ⟨t, ht, htn⟩ := ups_suf I _ a e ha rfl k hka
  have htn := htn hne
  have hx : (ups m a).reverse = (ups m k).reverse ++ t.reverse := by rw [ht, List.reverse_append]
  have hkl : (ups m k).reverse.length ≠ 0 := by rw [ups_some I hv]; simp
  have htl : t.length ≠ 0 := by simpa using htn
  unfold cmpZ cmpL
  rw [hx]
  have hs : sharedL (ups m k).reverse ((ups m k).reverse ++ t.reverse) = (ups m k).reverse.length := by
    have := shared_app (ups m k).reverse [] t.reverse
    rw [List.append_nil] at this
    rw [this]
    simp [sharedL]
  rw [hs, if_neg (by rw [List.length_append]; omega), if_pos (.inl rfl)]
  apply cmpI_lt
  rw [List.length_append, List.length_reverse, List.length_reverse]
  omega

end Go.Proofs.YtdiljkmlneeboaaGreat.N
namespace Go.Proofs.YtdiljkmlneeboaaGreat.N
open Go.RowKit
set_option maxRecDepth 100000

def lenV : Value → Nat
  | .slice _ n _ => n
  | _ => 0
theorem ups_le {uok : List (ByteArray × ByteArray) → Prop} {m : M} {nx : Int} {d : Int → Nat} (I : Inv uok m nx d) (id : Int) : (ups m id).length ≤ 512 := by
  cases e : m id with
  | none => rw [ups_none e]; simp
  | some q => rw [ups_len I e]; exact I.top e
theorem ownsRow_mono {w : World} {B B' n sz : Nat} {e : TypeId} {v : Value} {xs : List Value} (h : w.ownsRow B e sz v n xs) (hb : B' ≤ B) : w.ownsRow B' e sz v n xs := by
  obtain ⟨hl, hc⟩ := h
  refine ⟨hl, ?_⟩
  rcases hc with hc | ⟨g, cap, cur, e1, h1, h2⟩
  · exact .inl hc
  · exact .inr ⟨g, cap, cur, e1, Nat.le_trans hb h1, h2⟩
theorem node_store {W : World} {g : Nat} {s s' : N5} (h : NodeAt W g s) : NodeAt (((((W.setCell ⟨g, 0, none⟩ (.int .i64 s'.id)).setCell ⟨g, 1, none⟩ (.string s'.tag)).setCell ⟨g, 2, none⟩ (.int .i64 s'.par)).setCell ⟨g, 3, none⟩ (.slice s'.ka s'.kn s'.kc)).setCell ⟨g, 4, none⟩ (.slice s'.aa s'.an s'.ac)) g s' := by
  have h0 := heap_setCell_same W g 0 s.cells 76 (.int .i64 s'.id) h
  have h1 := heap_setCell_same _ g 1 _ 76 (.string s'.tag) h0
  have h2 := heap_setCell_same _ g 2 _ 76 (.int .i64 s'.par) h1
  have h3 := heap_setCell_same _ g 3 _ 76 (.slice s'.ka s'.kn s'.kc) h2
  exact heap_setCell_same _ g 4 _ 76 (.slice s'.aa s'.an s'.ac) h3
theorem five_other (W : World) {g k : Nat} (h : k ≠ g) (a0 a1 a2 a3 a4 : Value) : (((((W.setCell ⟨g, 0, none⟩ a0).setCell ⟨g, 1, none⟩ a1).setCell ⟨g, 2, none⟩ a2).setCell ⟨g, 3, none⟩ a3).setCell ⟨g, 4, none⟩ a4).heap[k]? = W.heap[k]? := by
  rw [Below.heap_setCell _ ⟨g, 4, none⟩ _ k h, Below.heap_setCell _ ⟨g, 3, none⟩ _ k h, Below.heap_setCell _ ⟨g, 2, none⟩ _ k h, Below.heap_setCell _ ⟨g, 1, none⟩ _ k h, Below.heap_setCell _ ⟨g, 0, none⟩ _ k h]
set_option maxHeartbeats 4000000 in
theorem line_any {w : World} {dp : Value} {m : M} {nx : Int} (h : Tree w dp m nx) (id : Int) : Calls Tryz.prog 45 #[dp, .int .i64 id] w fun x w' => ∃ v, x = .returned v ∧ w'.ownsRow w.heap.size 3 1 v (ups m id).length (intsV (ups m id)) ∧ Below w.heap.size w w' := by
  have HND : Hid (∀ w' (n : Int), Below w.heap.size w w' → _) := fun w' n hw' => tree_node (h.keep hw') n
  obtain ⟨d, I⟩ := h.2
  have HI := hid_mk I
  have hup := ups_le I id
  have hnd := tree_node h id
  obtain ⟨i3, z3, hi0, hz0, hz1, hz2, rfl⟩ := info3r
  have HI3 := hid_mk hi0
  have HZ0 := hid_mk hz0
  have HZ1 := hid_mk hz1
  have HZ2 := hid_mk hz2
  clear I h hi0 hz0 hz1 hz2
  go_enter Tryz.func45, Tryz.ntmps45
  go_wp2_with (go_at_call 44; fail)
  refine hnd.mono ?_
  rintro x w1 ⟨s, rfl, hE, hB1⟩
  obtain ⟨w2, hw2⟩ : ∃ w2, w2 = w1.alloc (.cells #[.int .i64 s.id, .string s.tag, .int .i64 s.par, .slice s.ka s.kn s.kc, .slice s.aa s.an s.ac] 76) := ⟨_, rfl⟩
  have HB2 : Hid (Below w.heap.size w w2) := by rw [hw2]; exact hB1.alloc hB1.size _
  have HN2 : Hid (NodeAt w2 w1.heap.size s) := by rw [hw2]; exact heap_alloc_last w1 _
  have HS0 : Hid (s.id = ((m id).getD zeroEl).id ∧ s.par = ((m id).getD zeroEl).par) := ⟨hE.1, hE.2.2.1⟩
  have HW2 := hid_mk hw2
  clear hnd hE hB1 hw2
  go_upto_block 0 with (fail)
  rw [← HW2.out]
  go_wp2
  go_loopw [5, 6, 7] (fun a5 a6 a7 wq => ∃ (n : Int) (told : List Int) (g : Nat) (s : N5), a6 = .pointer (some ⟨g, 0, none⟩) ∧ a7 = .bool (m n).isSome ∧ Hid (told ++ ups m n = ups m id) ∧ Hid (wq.ownsRow w.heap.size 3 1 a5 told.length (intsV told)) ∧ Hid (NodeAt wq g s) ∧ Hid (s.id = ((m n).getD zeroEl).id ∧ s.par = ((m n).getD zeroEl).par) ∧ Hid (Below w.heap.size w wq)) (fun a5 _ _ _ => 513 - lenV a5)
  case atStart => exact ⟨id, [], w1.heap.size, s, rfl, rfl, List.nil_append _, ⟨rfl, .inl ⟨rfl, rfl⟩⟩, HN2, HS0, HB2⟩
  case round =>
    clear HN2 HS0 HB2 HW2
    obtain ⟨n, told, g, s1, rfl, rfl, HT, HO, HN, HS, HB⟩ := hrel
    cases he : m n with
    | none =>
      have HO2 : Hid (wr.ownsRow w.heap.size 3 1 u5 (ups m id).length (intsV (ups m id))) := by
        have := HT.out
        rw [ups_none he, List.append_nil] at this
        rw [Hid, ← this]
        exact HO.out
      clear he HT HO HN HS HND HI
      go_wp2
      go_ret
      exact ⟨u5, rfl, HO2.out, HB.out⟩
    | some el =>
      have hu := ups_some HI.out he
      have HT2 : Hid ((told ++ [n]) ++ ups m el.par = ups m id) := by
        have := HT.out
        rw [hu] at this
        rw [Hid, ← this]
        simp
      have hlen : told.length + 1 ≤ 512 := by
        have := congrArg List.length HT2.out
        simp only [List.length_append, List.length_singleton] at this
        omega
      have hs1 : s1.id = n := by
        have := HS.out.1
        rw [he] at this
        exact this.trans (HI.out.id he)
      have HS2 : Hid (s1.par = el.par) := by
        have := HS.out.2
        rw [he] at this
        exact this
      obtain ⟨av, cv, rfl⟩ := own_slice HO.out
      have hA : Below wr.heap.size wr (wr.alloc (.cells #[.int .i64 n] 3)) := (Below.refl _ _).alloc (Nat.le_refl _) _
      have hown := ownsRow_below HO.out hA
      have hrow : RowAt (wr.alloc (.cells #[.int .i64 n] 3)) 1 (some ⟨wr.heap.size, 0, none⟩) 1 1 (intsV [n]) := row_one (heap_alloc_last wr _) rfl
      have hBs : w.heap.size ≤ (wr.alloc (.cells #[.int .i64 n] 3)).heap.size := Nat.le_trans HB.out.size hA.size
      have HBA := hid_mk (HB.out.trans (hA.mono HB.out.size))
      have hgl : g < wr.heap.size := (Array.getElem?_eq_some_iff.1 HN.out).1
      have HNA : Hid (∀ w3, (wr.alloc (.cells #[.int .i64 n] 3)).grownBy w3 (Value.slice av told.length cv).ownBlock → NodeAt w3 g s1) := fun w3 hg => by
        refine (hg.block _ (Nat.lt_of_lt_of_le hgl hA.size) (fun e => ?_)).trans ((hA.block _ hgl).trans HN.out)
        rcases hown.2 with ⟨e1, _⟩ | ⟨k, cap, cur, e1, _, hk, _⟩
        · rw [e1] at e
          cases e
        · rw [e1] at e
          cases e
          rw [(hA.block _ hgl).trans HN.out] at hk
          injection hk with hk
          injection hk with _ hk
          cases hk
      obtain ⟨⟨n0, _, _, _, _⟩, _⟩ := HN.out.cells
      rw [hs1] at n0
      have hi0 := HI3.out
      have hz0 := HZ0.out
      have hz1 := HZ1.out
      have hz2 := HZ2.out
      clear hu HT HO hA HN HS hs1
      go_upto_region 6 with (at_builtin; go_must (refine wpList_append_rowAt rfl _ _ 43 rfl (B := w.heap.size) Tryz.underlying43 hi0 hz0 hz1 hz2 rfl (by decide) (by decide) rfl rfl hown hrow (by omega) hBs ?_); intro v' w3 hown3 hgrow3 _; have HO3 := hid_mk hown3; have HN3 := hid_mk (HNA.out w3 hgrow3); have HB3 : Hid (Below w.heap.size w w3) := HBA.out.grown hgrow3 HBA.out.size (fun k hk => (hown.lt k hk).1); clear hown3 hgrow3)
      obtain ⟨⟨m0, m1, m2, m3, m4⟩, _⟩ := HN3.out.cells
      obtain ⟨w4, hw4⟩ : ∃ w4, w4 = w3.alloc (.cells #[.int .i64 s1.id, .string s1.tag, .int .i64 s1.par, .slice s1.ka s1.kn s1.kc, .slice s1.aa s1.an s1.ac] 76) := ⟨_, rfl⟩
      have hB34 : Below w3.heap.size w3 w4 := by rw [hw4]; exact (Below.refl _ _).alloc (Nat.le_refl _) _
      have hN4 : NodeAt w4 w3.heap.size s1 := by rw [hw4]; exact heap_alloc_last w3 _
      obtain ⟨⟨_, _, p2, _, _⟩, _, _, _, _, _, hgl4⟩ := hN4.cells
      rw [HS2.out] at p2
      have HB4 : Hid (Below w.heap.size w w4) := HB3.out.trans (hB34.mono HB3.out.size)
      have HO4 := hid_mk (ownsRow_below HO3.out hB34)
      have HN4 := hid_mk hN4
      have HW4 := hid_mk hw4
      have HL3 : Hid (∀ k, v'.ownBlock = some k → k < w3.heap.size) := fun k hk => (HO3.out.lt k hk).2
      have hnd := HND.out w4 el.par HB4.out
      clear hown hrow hBs HBA HNA hB34 hN4 hw4 n0 HND
      go_upto_region 4 with (fail)
      rw [← HW4.out]
      clear m0 m1 m2 m3 m4
      go_wp2_with (go_at_call 44; fail)
      refine hnd.mono ?_
      rintro x w5 ⟨s5, rfl, hE5, hB5⟩
      have hN5 : NodeAt w5 w3.heap.size s1 := (hB5.block _ hgl4).trans HN4.out
      obtain ⟨⟨c0, c1, c2, c3, c4⟩, f0, f1, f2, f3, f4, _⟩ := hN5.cells
      have HN5 := hid_mk hN5
      have HB5 := hid_mk (HB4.out.trans (hB5.mono HB4.out.size))
      have HO5 := hid_mk (ownsRow_below HO4.out hB5)
      have HS5 : Hid (s5.id = ((m el.par).getD zeroEl).id ∧ s5.par = ((m el.par).getD zeroEl).par) := ⟨hE5.1, hE5.2.2.1⟩
      have HW3 : Hid (w.heap.size ≤ w3.heap.size) := HB3.out.size
      obtain ⟨W, hW⟩ : ∃ W, W = ((((w5.setCell ⟨w3.heap.size, 0, none⟩ (.int .i64 s5.id)).setCell ⟨w3.heap.size, 1, none⟩ (.string s5.tag)).setCell ⟨w3.heap.size, 2, none⟩ (.int .i64 s5.par)).setCell ⟨w3.heap.size, 3, none⟩ (.slice s5.ka s5.kn s5.kc)).setCell ⟨w3.heap.size, 4, none⟩ (.slice s5.aa s5.an s5.ac) := ⟨_, rfl⟩
      have HNW : Hid (NodeAt W w3.heap.size s5) := by rw [Hid, hW]; exact node_store HN5.out
      have HBW : Hid (Below w.heap.size w W) := by rw [Hid, hW]; exact ((((HB5.out.setCell (p := ⟨w3.heap.size, 0, none⟩) HW3.out _).setCell (p := ⟨w3.heap.size, 1, none⟩) HW3.out _).setCell (p := ⟨w3.heap.size, 2, none⟩) HW3.out _).setCell (p := ⟨w3.heap.size, 3, none⟩) HW3.out _).setCell (p := ⟨w3.heap.size, 4, none⟩) HW3.out _
      have HOW : Hid (W.ownsRow w.heap.size 3 1 v' (told.length + 1) (intsV told ++ intsV [n])) := by
        refine ownsRow_keep HO5.out (fun k hk hv => ?_)
        have := HL3.out k hv
        rw [hW]
        exact five_other w5 (by omega) _ _ _ _ _
      obtain ⟨av', cv', rfl⟩ := own_slice HO3.out
      have HW := hid_mk hW
      clear hnd hE5 hB5 hN5 hW HB5 HO5 HN5 HO4 HN4 HB4 HO3 HN3 HB3
      go_wp2
      refine ⟨⟨el.par, told ++ [n], w3.heap.size, s5, rfl, rfl, HT2, ?_, ?_, HS5, ?_⟩, by simp only [lenV]; omega⟩
      · rw [Hid, ← HW.out, List.length_append, intsV_app]
        exact HOW.out
      · rw [Hid, ← HW.out]
        exact HNW.out
      · rw [Hid, ← HW.out]
        exact HBW.out

set_option maxHeartbeats 1000000 in
theorem wup_any {w : World} {dp : Value} {m : M} {nx : Int} (h : Tree w dp m nx) (id : Int) : Calls Tryz.prog 18 #[dp, .int .i64 id] w fun x w' => ∃ v, x = .returned v ∧ w'.ownsRow w.heap.size 3 1 v (ups m (parOf m id)).length (intsV (ups m (parOf m id))) ∧ Below w.heap.size w w' := by
  have hnd := tree_node h id
  have HL : Hid (∀ w' n, Below w.heap.size w w' → _) := fun w' n hw' => line_any (h.keep hw') n
  clear h
  go_enter Tryz.func18, Tryz.ntmps18
  go_wp2_with (go_at_call 44; fail)
  refine hnd.mono ?_
  rintro x w1 ⟨s, rfl, hE, hB1⟩
  have hpar : s.par = parOf m id := hE.2.2.1
  obtain ⟨w2, hw2⟩ : ∃ w2, w2 = w1.alloc (.cells #[.int .i64 s.id, .string s.tag, .int .i64 s.par, .slice s.ka s.kn s.kc, .slice s.aa s.an s.ac] 76) := ⟨_, rfl⟩
  have HB2 : Hid (Below w.heap.size w w2) := by rw [hw2]; exact hB1.alloc hB1.size _
  have hN2 : NodeAt w2 w1.heap.size s := by rw [hw2]; exact heap_alloc_last w1 _
  obtain ⟨⟨_, _, n2, _, _⟩, _⟩ := hN2.cells
  rw [hpar] at n2
  have HW2 := hid_mk hw2
  have hl := HL.out w2 (parOf m id) HB2.out
  clear hnd hE hB1 hw2 hN2 hpar HL
  go_upto_region 2 with (fail)
  rw [← HW2.out]
  go_wp2_with (go_at_call 45; refine hl.mono ?_; clear hl; rintro e w3 ⟨v, rfl, ho, hB3⟩)
  go_ret
  exact ⟨v, rfl, ownsRow_mono ho HB2.out.size, HB2.out.trans (hB3.mono HB2.out.size)⟩

end Go.Proofs.YtdiljkmlneeboaaGreat.N
namespace Go.Proofs.YtdiljkmlneeboaaGreat.N
open Go.RowKit
set_option maxRecDepth 100000

theorem RowAt.intAt {w : World} {a : Option Addr} {n c : Nat} {ks : List Int} (h : RowAt w 1 a n c (intsV ks)) {t : Nat} (ht : t < ks.length) : ∃ ab ao, a = some ⟨ab, ao, none⟩ ∧ ab < w.heap.size ∧ w.cell? ⟨ab, ao + t, none⟩ = some (.int .i64 ks[t]) := by
  have hl : (intsV ks).length = ks.length := by simp [intsV]
  rcases h.2.2.2.2 with ⟨_, h0⟩ | ⟨ab, ao, e1, l1, g1⟩
  · have := h.1
    have := h.2.1
    omega
  · exact ⟨ab, ao, e1, l1, g1 t _ (intsV_at ht)⟩
theorem RowAt.attAt {w : World} {a : Option Addr} {n c : Nat} {us : Us} (h : RowAt w 2 a n c (attrsV us)) {t : Nat} (ht : t < us.length) : ∃ ab ao, a = some ⟨ab, ao, none⟩ ∧ ab < w.heap.size ∧ w.cell? ⟨ab, ao + t * 2, none⟩ = some (.string us[t].1) ∧ w.cell? ⟨ab, ao + t * 2 + 1, none⟩ = some (.string us[t].2) := by
  have hl := attrsV_len us
  rcases h.2.2.2.2 with ⟨_, h0⟩ | ⟨ab, ao, e1, l1, g1⟩
  · have := h.1
    have := h.2.1
    omega
  · obtain ⟨q1, q2⟩ := attrsV_at ht
    refine ⟨ab, ao, e1, l1, g1 _ _ q1, ?_⟩
    have := g1 _ _ q2
    rwa [← Nat.add_assoc] at this

theorem str_eq (w : World) (d : Nat) (x : ByteArray) : (Op.equalIn (d + 1) 9 (.string x) (.string x)).run Tryz.prog w = .ok true w := by
  have hx : (x == x) = true := by rw [beq_toListBytes]; simp
  simp [Op.equalIn, run_underlying Tryz.underlying9, hx]
theorem fields71 : Tryz.prog.underlying 128 = some (.struct (Tryz.prog.fieldsOf 128)) := by kernel_rfl
theorem attr_eq (w : World) (d : Nat) (x y : ByteArray) : (Op.equalIn (d + 2) 128 (.agg #[.string x, .string y]) (.agg #[.string x, .string y])).run Tryz.prog w = .ok true w := by
  have a1 := Tryz.isAgg9
  have q1 := str_eq
  rw [run_equalIn_struct w (d + 1) 128 _ _ fields71 (by kernel_rfl)]
  simp only [Program.fieldsOf, Tryz.underlying128]
  simp [Op.eqFields, part, a1, q1]
theorem attr_neq (w : World) (x y : ByteArray) : (binOp .neq 128 (.agg #[.string x, .string y]) (.agg #[.string x, .string y])).run Tryz.prog w = .ok (.bool false) w := by
  have h := attr_eq w 9998 x y
  simp only [binOp]
  simp [Op.equal, Op.maxDepth, h]

end Go.Proofs.YtdiljkmlneeboaaGreat.N
namespace Go.Proofs.YtdiljkmlneeboaaGreat.N
open Go.RowKit
set_option maxRecDepth 100000

theorem among_len {uok : List (ByteArray × ByteArray) → Prop} {m : M} {nx : Int} {d : Int → Nat} (I : Inv uok m nx d) (id : Int) : (amongZ m id).1.length ≤ 100000 ∧ -1 ≤ (amongZ m id).2 ∧ (amongZ m id).2 ≤ 100000 := by
  cases h : m id with
  | none => rw [among_none h]; simp
  | some e =>
    obtain ⟨l, i, hi, e1, _, _, hl, _⟩ := among_some I h
    rw [e1]
    dsimp only
    omega
theorem ret2si {a a' : Option Addr} {n n' c c' : Nat} {i i' : Int} (h1 : a = a') (h2 : n = n') (h3 : c = c') (h4 : i = i') : Ending.returned (.tuple #[.slice a n c, .int .i64 i]) = .returned (.tuple #[.slice a' n' c', .int .i64 i']) := by rw [h1, h2, h3, h4]
set_option maxHeartbeats 4000000 in
theorem among_any {w : World} {dp : Value} {m : M} {nx : Int} (h : Tree w dp m nx) (id : Int) : Calls Tryz.prog 181 #[dp, .int .i64 id] w fun x w' => ∃ a c, x = .returned (.tuple #[.slice a (amongZ m id).1.length c, .int .i64 (amongZ m id).2]) ∧ RowAt w' 1 a (amongZ m id).1.length c (intsV (amongZ m id).1) ∧ Below w.heap.size w w' := by
  have hn1 := tree_node h id
  have HND : Hid (∀ w' (n : Int), Below w.heap.size w w' → _) := fun w' n hw' => tree_node (h.keep hw') n
  obtain ⟨d, I⟩ := h.2
  have HI := hid_mk I
  clear I h
  cases he : m id with
  | none =>
    rw [he] at hn1
    rw [among_none he]
    clear he HND HI
    go_enter Tryz.func181, Tryz.ntmps181
    go_wp2_with (go_at_call 44; fail)
    refine hn1.mono ?_
    rintro x w1 ⟨s, rfl, _, hB1⟩
    have HB2 : Hid (Below w.heap.size w (w1.alloc (.cells #[.int .i64 s.id, .string s.tag, .int .i64 s.par, .slice s.ka s.kn s.kc, .slice s.aa s.an s.ac] 76))) := hB1.alloc hB1.size _
    clear hn1 hB1
    go_wp2
    refine bodyPost_ret (v := .tuple #[.slice none 0 0, .int .i64 (-1)]) (by simp [results, Tryz.results181, go_sem]) rfl ⟨none, 0, rfl, RowAt.nil _ 1, HB2.out⟩
  | some el =>
    rw [he] at hn1
    cases hp : m el.par with
    | none =>
      have hz : amongZ m id = ([id], 0) := by
        unfold amongZ
        rw [he]
        dsimp only
        rw [hp]
      rw [hz]
      have HN2 : Hid (∀ w', Below w.heap.size w w' → _) := fun w' hw' => HND.out w' el.par hw'
      rw [hp] at HN2
      clear he hp hz HND HI
      go_enter Tryz.func181, Tryz.ntmps181
      go_wp2_with (go_at_call 44; fail)
      refine hn1.mono ?_
      rintro x w1 ⟨s, rfl, hE, hB1⟩
      have hpar : s.par = el.par := hE.2.2.1
      obtain ⟨w2, hw2⟩ : ∃ w2, w2 = w1.alloc (.cells #[.int .i64 s.id, .string s.tag, .int .i64 s.par, .slice s.ka s.kn s.kc, .slice s.aa s.an s.ac] 76) := ⟨_, rfl⟩
      have HB2 : Hid (Below w.heap.size w w2) := by rw [hw2]; exact hB1.alloc hB1.size _
      have hN2 : NodeAt w2 w1.heap.size s := by rw [hw2]; exact heap_alloc_last w1 _
      obtain ⟨⟨_, _, n2, _, _⟩, _⟩ := hN2.cells
      rw [hpar] at n2
      have HW2 := hid_mk hw2
      have hnd := HN2.out w2 HB2.out
      clear hn1 hE hB1 hw2 hN2 hpar HN2
      go_upto_region 4 with (fail)
      rw [← HW2.out]
      go_wp2_with (go_at_call 44; fail)
      refine hnd.mono ?_
      rintro x w3 ⟨s3, rfl, _, hB3⟩
      obtain ⟨w4, hw4⟩ : ∃ w4, w4 = w3.alloc (.cells #[.int .i64 s3.id, .string s3.tag, .int .i64 s3.par, .slice s3.ka s3.kn s3.kc, .slice s3.aa s3.an s3.ac] 76) := ⟨_, rfl⟩
      have HB4 : Hid (Below w.heap.size w w4) := by rw [hw4]; exact (HB2.out.trans (hB3.mono HB2.out.size)).alloc (HB2.out.trans (hB3.mono HB2.out.size)).size _
      have HW4 := hid_mk hw4
      clear hnd hB3 hw4 n2
      go_upto_region 6 with (fail)
      rw [← HW4.out]
      have HR : Hid (RowAt (w4.alloc (.cells #[.int .i64 id] 3)) 1 (some ⟨w4.heap.size, 0, none⟩) 1 1 (intsV [id])) := row_one (heap_alloc_last w4 _) rfl
      have HB5 : Hid (Below w.heap.size w (w4.alloc (.cells #[.int .i64 id] 3))) := HB4.out.alloc HB4.out.size _
      go_wp2
      refine bodyPost_ret (v := .tuple #[.slice (some ⟨w4.heap.size, 0, none⟩) 1 1, .int .i64 0]) (by simp [results, Tryz.results181, go_sem]) rfl ⟨_, 1, rfl, HR.out, HB5.out⟩
    | some p =>
      have hz : amongZ m id = (p.ks, Lib.idxOf p.ks id) := by
        unfold amongZ
        rw [he]
        dsimp only
        rw [hp]
      rw [hz]
      have hkl : p.ks.length ≤ 100000 := by
        have := HI.out.ksLen hp
        have := HI.out.nxb
        omega
      have HN2 : Hid (∀ w', Below w.heap.size w w' → _) := fun w' hw' => HND.out w' el.par hw'
      rw [hp] at HN2
      clear he hp hz HND HI
      go_enter Tryz.func181, Tryz.ntmps181
      go_wp2_with (go_at_call 44; fail)
      refine hn1.mono ?_
      rintro x w1 ⟨s, rfl, hE, hB1⟩
      have hpar : s.par = el.par := hE.2.2.1
      obtain ⟨w2, hw2⟩ : ∃ w2, w2 = w1.alloc (.cells #[.int .i64 s.id, .string s.tag, .int .i64 s.par, .slice s.ka s.kn s.kc, .slice s.aa s.an s.ac] 76) := ⟨_, rfl⟩
      have HB2 : Hid (Below w.heap.size w w2) := by rw [hw2]; exact hB1.alloc hB1.size _
      have hN2 : NodeAt w2 w1.heap.size s := by rw [hw2]; exact heap_alloc_last w1 _
      obtain ⟨⟨_, _, n2, _, _⟩, _⟩ := hN2.cells
      rw [hpar] at n2
      have HW2 := hid_mk hw2
      have hnd := HN2.out w2 HB2.out
      clear hn1 hE hB1 hw2 hN2 hpar HN2
      go_upto_region 4 with (fail)
      rw [← HW2.out]
      go_wp2_with (go_at_call 44; fail)
      refine hnd.mono ?_
      rintro x w3 ⟨s3, rfl, hE3, hB3⟩
      have hkn : s3.kn = p.ks.length := ElAt.kn (e := p) hE3
      have hrow3 : RowAt w3 1 s3.ka s3.kn s3.kc (intsV p.ks) := hE3.2.2.2.1
      obtain ⟨w4, hw4⟩ : ∃ w4, w4 = w3.alloc (.cells #[.int .i64 s3.id, .string s3.tag, .int .i64 s3.par, .slice s3.ka s3.kn s3.kc, .slice s3.aa s3.an s3.ac] 76) := ⟨_, rfl⟩
      have hB34 : Below w3.heap.size w3 w4 := by rw [hw4]; exact (Below.refl _ _).alloc (Nat.le_refl _) _
      have HB4 : Hid (Below w.heap.size w w4) := (HB2.out.trans (hB3.mono HB2.out.size)).trans (hB34.mono (HB2.out.trans (hB3.mono HB2.out.size)).size)
      have hN4 : NodeAt w4 w3.heap.size s3 := by rw [hw4]; exact heap_alloc_last w3 _
      obtain ⟨⟨_, _, _, k3, _⟩, _⟩ := hN4.cells
      have HR4 := hid_mk (hrow3.keep hB34)
      obtain ⟨id3, tag3, par3, ka, kn, kc, aa, an, ac⟩ := s3
      dsimp only at *
      subst hkn
      have hix : ∀ w', RowAt w' 1 ka p.ks.length kc (intsV p.ks) → _ := fun w' hr => idxI hr (by omega) id
      have hdr : RowAt w4.drew 1 ka p.ks.length kc (intsV p.ks) := HR4.out.keep ((Below.refl _ _).drew)
      have h2 := hix w4.drew hdr
      have HW4 := hid_mk hw4
      have HBd : Hid (Below w.heap.size w w4.drew) := HB4.out.drew
      have HRd := hid_mk hdr
      clear hnd hE3 hB3 hw4 n2 hN4 hB34 hrow3 hix hdr
      go_upto_region 7 with (fail)
      rw [← HW4.out]
      have k3d : w4.drew.cell? ⟨w3.heap.size, 3, none⟩ = some (.slice ka p.ks.length kc) := k3
      go_region_held3 (fun w' => w'.cell? ⟨w3.heap.size, 3, none⟩ = some (.slice ka p.ks.length kc))
        (first | with_reducible exact k3d)
        (first | (go_at_call 90; with_reducible refine h2.mono ?_; rintro e wx ⟨rfl, rfl⟩))
      go_wp2
      refine bodyPost_ret (v := .tuple #[.slice ka p.ks.length kc, .int .i64 (Lib.idxOf p.ks id)]) (by simp [results, Tryz.results181, go_sem]) rfl ⟨ka, kc, rfl, HRd.out, HBd.out⟩

set_option maxHeartbeats 2000000 in
theorem wplace_any {w : World} {dp : Value} {m : M} {nx : Int} (h : Tree w dp m nx) (id : Int) : Calls Tryz.prog 170 #[dp, .int .i64 id] w fun x w' => x = .returned (if (amongZ m id).2 < 0 then .tuple #[.int .i64 0, .int .i64 0] else .tuple #[.int .i64 ((amongZ m id).2 + 1), .int .i64 ((amongZ m id).1.length - (amongZ m id).2)]) ∧ Below w.heap.size w w' := by
  have ha := among_any h id
  obtain ⟨d, I⟩ := h.2
  obtain ⟨b1, b2, b3⟩ := among_len I id
  generalize (amongZ m id).1 = l at *
  generalize (amongZ m id).2 = ix at *
  clear h I
  by_cases hlt : ix < 0
  · rw [if_pos hlt]
    go_enter Tryz.func170, Tryz.ntmps170
    go_wp2_with (go_at_call 181; refine ha.mono ?_; clear ha; rintro e w1 ⟨a, c, rfl, _, hB⟩; have HB := hid_mk hB; clear hB)
    refine bodyPost_ret (v := .tuple #[.int .i64 0, .int .i64 0]) (by simp [results, Tryz.results170, go_sem]) rfl ⟨rfl, HB.out⟩
  · rw [if_neg hlt]
    have h0 : 0 ≤ ix := by omega
    go_enter Tryz.func170, Tryz.ntmps170
    go_wp2_with (go_at_call 181; refine ha.mono ?_; clear ha; rintro e w1 ⟨a, c, rfl, _, hB⟩; have HB := hid_mk hB; clear hB)
    refine bodyPost_ret (v := .tuple #[.int .i64 (ix + 1), .int .i64 (l.length - ix)]) (by simp [results, Tryz.results170, go_sem]) rfl ⟨rfl, HB.out⟩
end Go.Proofs.YtdiljkmlneeboaaGreat.N
namespace Go.Proofs
open Go.Shelf
end Go.Proofs
namespace Go.Proofs.YtdiljkmlneeboaaGreat.N
open Go.RowKit
set_option maxRecDepth 100000

theorem put_other {w : World} {g k : Nat} (d : Array Int) (h : k ≠ g) : (Sort.putRow (Value.int .i64) w g 0 d).heap[k]? = w.heap[k]? := by
  have h' : g ≠ k := fun e => h e.symm
  simp [Sort.putRow, Sort.mapBlock, Array.getElem?_modify, h']
theorem put_same {w : World} {g : Nat} {cur : Array Value} {t : TypeId} (d : Array Int) (h : w.heap[g]? = some (.cells cur t (0, 0))) : (Sort.putRow (Value.int .i64) w g 0 d).heap[g]? = some (.cells (Sort.putCells (Value.int .i64) 0 d cur) t (0, 0)) := by
  simp [Sort.putRow, Sort.mapBlock, Array.getElem?_modify, h, Sort.onCells]
/-- What slices.Reverse leaves. -/
structure Turned (B : Nat) (w w' : World) (v : Value) (zs : List Int) : Prop where
  own : w'.ownsRow B 3 1 v zs.length (intsV zs.reverse)
  other : ∀ k, v.ownBlock ≠ some k → w'.heap[k]? = w.heap[k]?
  below : Below B w w'
end Go.Proofs.YtdiljkmlneeboaaGreat.N
namespace Go.Proofs.YtdiljkmlneeboaaGreat.N
open Go.RowKit
set_option maxRecDepth 100000

theorem shared_part {x y : List Int} {t : Nat} (h : ∀ j, j < t → x[j]? = y[j]?) (hx : t ≤ x.length) (hy : t ≤ y.length) (hn : (h1 : t < x.length) → (h2 : t < y.length) → x[t] ≠ y[t]) : sharedL x y = t := by
  induction t generalizing x y with
  | zero =>
    cases x with
    | nil => rfl
    | cons a x =>
      cases y with
      | nil => rfl
      | cons b y =>
        have hab : a ≠ b := hn (by simp) (by simp)
        rw [sharedL, if_neg hab]
  | succ t ih =>
    cases x with
    | nil => simp at hx
    | cons a x =>
      cases y with
      | nil => simp at hy
      | cons b y =>
        have h0 := h 0 (by omega)
        have hab : a = b := by simpa using h0
        rw [sharedL, if_pos hab, ih (fun j hj => by have := h (j + 1) (by omega); simpa using this) (by simpa using hx) (by simpa using hy) (fun h1 h2 => by
          have := hn (by simpa using h1) (by simpa using h2)
          simpa using this)]
theorem cmpL_zero {m : M} {x y : List Int} (h : x.length = 0 ∨ y.length = 0) : cmpL m x y = 0 := by unfold cmpL; rw [if_pos h]
end Go.Proofs.YtdiljkmlneeboaaGreat.N
namespace Go.Proofs.YtdiljkmlneeboaaGreat.N
open Go.RowKit
set_option maxRecDepth 100000

set_option maxHeartbeats 4000000 in
theorem rup_any {w : World} {rp : Value} {L : List El} {m : M} {nx : Int} (h : RTree w rp L m nx) (id : Int) : Calls Tryz.prog 38 #[rp, .int .i64 id] w fun x w' => ∃ v, x = .returned v ∧ w'.ownsRow w.heap.size 3 1 v (ups m (parOf m id)).length (intsV (ups m (parOf m id))) ∧ Below w.heap.size w w' := by
  have HND : Hid (∀ w' (n : Int), Below w.heap.size w w' → _) := fun w' n hw' => rt_node (h.keep hw') n
  obtain ⟨d, I⟩ := h.2.2.2
  have HI := hid_mk I
  have hup := ups_le I (parOf m id)
  obtain ⟨U, hU⟩ : ∃ U, U = ups m (parOf m id) := ⟨_, rfl⟩
  rw [← hU] at hup ⊢
  have HU := hid_mk hU
  obtain ⟨i3, z3, hi0, hz0, hz1, hz2, rfl⟩ := info3r
  have HI3 := hid_mk hi0
  have HZ0 := hid_mk hz0
  have HZ1 := hid_mk hz1
  have HZ2 := hid_mk hz2
  clear I h hi0 hz0 hz1 hz2 hU
  go_enter Tryz.func38, Tryz.ntmps38
  go_wp2
  go_loopw [1, 5] (fun a1 a5 wq => ∃ (n : Int) (told : List Int), a1 = .int .i64 n ∧ Hid (told ++ ups m (parOf m n) = U) ∧ Hid (wq.ownsRow w.heap.size 3 1 a5 told.length (intsV told)) ∧ Hid (Below w.heap.size w wq)) (fun _ a5 _ => 513 - lenV a5)
  case atStart => exact ⟨id, [], rfl, by rw [Hid, HU.out]; rfl, ⟨rfl, .inl ⟨rfl, rfl⟩⟩, hid_mk (Below.refl _ _)⟩
  case round =>
    obtain ⟨n, told, rfl, HT, HO, HB⟩ := hrel
    have hnd := HND.out wr n HB.out
    obtain ⟨av, cv, rfl⟩ := own_slice HO.out
    cases he : m n with
    | none =>
      rw [he] at hnd
      have HT2 : Hid (told = U) := by
        have := HT.out
        have hp : parOf m n = 0 := by unfold parOf; rw [he]; rfl
        rw [hp, ups_none HI.out.zero, List.append_nil] at this
        exact this
      clear he HT HND HI
      go_wp2_with (go_at_call 33; fail)
      refine hnd.mono ?_
      rintro x w3 ⟨s, rfl, _, _, hB3⟩
      have hB3' := HB.out.trans (hB3.mono HB.out.size)
      have HB4 := hid_mk (hB3'.alloc hB3'.size (.cells #[.int .i64 s.id, .string s.tag, .int .i64 s.par, .slice s.ka s.kn s.kc, .slice s.aa s.an s.ac] 76))
      have HO4 := hid_mk (ownsRow_below HO.out (hB3.trans (((Below.refl _ w3).alloc (Nat.le_refl _) (.cells #[.int .i64 s.id, .string s.tag, .int .i64 s.par, .slice s.ka s.kn s.kc, .slice s.aa s.an s.ac] 76)).mono hB3.size)))
      clear hnd hB3 hB3' HO HB
      go_wp2
      go_ret
      have := HT2.out
      subst this
      exact ⟨_, rfl, HO4.out, HB4.out⟩
    | some el =>
      rw [he] at hnd
      have hpn : parOf m n = el.par := by unfold parOf; rw [he]; rfl
      rw [hpn] at HT
      go_wp2_with (go_at_call 33; fail)
      refine hnd.mono ?_
      rintro x w3 ⟨s, rfl, hE, _, hB3⟩
      have hpar : s.par = el.par := hE.2.2.1
      obtain ⟨w4, hw4⟩ : ∃ w4, w4 = w3.alloc (.cells #[.int .i64 s.id, .string s.tag, .int .i64 s.par, .slice s.ka s.kn s.kc, .slice s.aa s.an s.ac] 76) := ⟨_, rfl⟩
      have hA4 : Below w3.heap.size w3 w4 := by rw [hw4]; exact (Below.refl _ _).alloc (Nat.le_refl _) _
      have hW4 : Below wr.heap.size wr w4 := hB3.trans (hA4.mono hB3.size)
      have HB4 := hid_mk (HB.out.trans (hW4.mono HB.out.size))
      have HO4 := hid_mk (ownsRow_below HO.out hW4)
      have hN4 : NodeAt w4 w3.heap.size s := by rw [hw4]; exact heap_alloc_last w3 _
      have HN4 := hid_mk hN4
      obtain ⟨⟨_, _, n2, _, _⟩, _, _, _, _, _, hgl⟩ := hN4.cells
      rw [hpar] at n2
      have HPR := hid_mk hpar
      have HW4 := hid_mk hw4
      clear hnd hE hB3 hA4 hW4 HB HO hw4 hN4 hpar
      go_upto_region 3 with (fail)
      rw [← HW4.out]
      clear HW4
      by_cases hp : el.par = 0
      · have HT2 : Hid (told = U) := by
          have := HT.out
          rw [hp, ups_none HI.out.zero, List.append_nil] at this
          exact this
        rw [hp] at n2
        clear he HT HND HI hp hpn
        go_wp2
        go_ret
        have := HT2.out
        subst this
        exact ⟨_, rfl, HO4.out, HB4.out⟩
      · have hp0 : (el.par == 0) = false := beq_eq_false_iff_ne.2 hp
        obtain ⟨P, hP, _⟩ := HI.out.par he (fun h1 => hp ((HI.out.parRoot he).2 h1))
        have HT2 : Hid ((told ++ [el.par]) ++ ups m (parOf m el.par) = U) := by
          have := HT.out
          have hpp : parOf m el.par = P.par := by unfold parOf; rw [hP]; rfl
          rw [ups_head HI.out hP] at this
          rw [Hid, hpp, ← this]
          simp
        have hlen : told.length + 1 ≤ 512 := by
          have := congrArg List.length HT2.out
          simp only [List.length_append, List.length_singleton] at this
          omega
        clear he HT HND HI hp hpn hP
        generalize el.par = pp at *
        have hA : Below w4.heap.size w4 (w4.alloc (.cells #[.int .i64 pp] 3)) := (Below.refl _ _).alloc (Nat.le_refl _) _
        have hown := ownsRow_below HO4.out hA
        have hrow : RowAt (w4.alloc (.cells #[.int .i64 pp] 3)) 1 (some ⟨w4.heap.size, 0, none⟩) 1 1 (intsV [pp]) := row_one (heap_alloc_last w4 _) rfl
        have hBs : w.heap.size ≤ (w4.alloc (.cells #[.int .i64 pp] 3)).heap.size := Nat.le_trans HB4.out.size hA.size
        have HBA := hid_mk (HB4.out.trans (hA.mono HB4.out.size))
        have HNA : Hid (∀ w6, (w4.alloc (.cells #[.int .i64 pp] 3)).grownBy w6 (Value.slice av told.length cv).ownBlock → NodeAt w6 w3.heap.size s) := fun w6 hg => by
          refine (hg.block _ (Nat.lt_of_lt_of_le hgl hA.size) (fun e => ?_)).trans ((hA.block _ hgl).trans HN4.out)
          rcases hown.2 with ⟨e1, _⟩ | ⟨k, cap, cur, e1, _, hk, _⟩
          · rw [e1] at e
            cases e
          · rw [e1] at e
            have e2 : w3.heap.size = k := Option.some.inj e
            rw [← e2, (hA.block _ hgl).trans HN4.out] at hk
            injection hk with hk
            injection hk with _ hk
            cases hk
        have hi0 := HI3.out
        have hz0 := HZ0.out
        have hz1 := HZ1.out
        have hz2 := HZ2.out
        clear hA HN4
        go_upto_region 6 with (at_builtin; go_must (refine wpList_append_rowAt rfl _ _ 43 rfl (B := w.heap.size) Tryz.underlying43 hi0 hz0 hz1 hz2 rfl (by decide) (by decide) rfl rfl hown hrow (by omega) hBs ?_); intro v' w6 hown6 hgrow6 _; have HO6 := hid_mk hown6; have HN6 := hid_mk (HNA.out w6 hgrow6); have HB6 : Hid (Below w.heap.size w w6) := HBA.out.grown hgrow6 HBA.out.size (fun k hk => (hown.lt k hk).1); clear hown6 hgrow6)
        obtain ⟨⟨_, _, k2, _, _⟩, _⟩ := HN6.out.cells
        rw [HPR.out] at k2
        obtain ⟨av', cv', rfl⟩ := own_slice HO6.out
        clear hown hrow hBs HBA HNA n2 hi0 hz0 hz1 hz2 HO4 HB4
        go_wp2
        refine ⟨⟨pp, told ++ [pp], rfl, HT2, ?_, HB6⟩, by simp only [lenV]; omega⟩
        rw [Hid, List.length_append, intsV_app]
        exact HO6.out

end Go.Proofs.YtdiljkmlneeboaaGreat.N
namespace Go.Proofs.YtdiljkmlneeboaaGreat.N
open Go.RowKit
set_option maxRecDepth 100000
end Go.Proofs.YtdiljkmlneeboaaGreat.N
