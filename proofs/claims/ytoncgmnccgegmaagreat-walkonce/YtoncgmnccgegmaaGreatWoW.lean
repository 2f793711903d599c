/- The document's example of layer 8. WalkOrders: the walk. -/
import Derived.Test.YtoncgmnccgegmaaGreatOrdN
import Derived.Test.YtoncgmnccgegmaaGreatWcpN
import Derived.Test.YtoncgmnccgegmaaGreatLitN
namespace Go.Proofs.YtoncgmnccgegmaaGreat.N
open Go.RowKit
set_option maxRecDepth 100000

def sD : ByteArray := ⟨#[100]⟩
theorem name_d : nameZ sD = true := by decide +kernel
def l1 : M := insM M0 2 1 0 sB
def l2 : M := insM l1 3 1 1 sD
def l3 : M := insM l2 4 2 0 sC
theorem l01 : M0 1 = some ⟨1, sA, 0, [], []⟩ := rfl
theorem l11 : l1 1 = some ⟨1, sA, 0, [2], []⟩ := rfl
theorem l21 : l2 1 = some ⟨1, sA, 0, [2, 3], []⟩ := rfl
theorem l22 : l2 2 = some ⟨2, sB, 1, [], []⟩ := rfl
theorem l31 : l3 1 = some ⟨1, sA, 0, [2, 3], []⟩ := rfl
theorem l32 : l3 2 = some ⟨2, sB, 1, [4], []⟩ := rfl
theorem l33 : l3 3 = some ⟨3, sD, 1, [], []⟩ := rfl
theorem l34 : l3 4 = some ⟨4, sC, 2, [], []⟩ := rfl
theorem l30 : l3 0 = none := rfl
def actB : Act6 := ⟨0, 1, 0, 0, sB, ⟨#[]⟩⟩
def actD : Act6 := ⟨0, 1, 1, 0, sD, ⟨#[]⟩⟩
def actC : Act6 := ⟨0, 2, 0, 0, sC, ⟨#[]⟩⟩
theorem acts3 : ActsR M0 2 [actB, actD, actC] l3 5 := by
  have u1 : (ups M0 1).length < 512 := by unfold ups; rw [upL_some l01, upL_none (by rfl)]; decide
  have u2 : (ups l1 1).length < 512 := by unfold ups; rw [upL_some l11, upL_none (by rfl)]; decide
  have u3 : (ups l2 2).length < 512 := by unfold ups; rw [upL_some l22, upL_some l21, upL_none (by rfl)]; decide
  have i1 : insErr M0 1 ((0 : Nat) : Int) sB = 0 := insErr_ok l01 (by decide) name_b u1
  have i2 : insErr l1 1 ((1 : Nat) : Int) sD = 0 := insErr_ok l11 (by decide) name_d u2
  have i3 : insErr l2 2 ((0 : Nat) : Int) sC = 0 := insErr_ok l22 (by decide) name_c u3
  exact ⟨l1, 3, 2, 0, .inl ⟨rfl, .inl ⟨i1, ⟨0, rfl, rfl⟩, rfl, rfl, rfl⟩⟩, l2, 4, 3, 0, .inl ⟨rfl, .inl ⟨i2, ⟨1, rfl, rfl⟩, rfl, rfl, rfl⟩⟩, l3, 5, 4, 0, .inl ⟨rfl, .inl ⟨i3, ⟨0, rfl, rfl⟩, rfl, rfl, rfl⟩⟩, rfl, rfl⟩
theorem ups4 : ups l3 4 = [4, 2, 1] := by unfold ups; rw [upL_some l34, upL_some l32, upL_some l31, upL_none l30]
theorem ups3 : ups l3 3 = [3, 1] := by unfold ups; rw [upL_some l33, upL_some l31, upL_none l30]
theorem among3 : amongZ l3 3 = ([2, 3], 1) := by
  unfold amongZ
  rw [l33]
  dsimp only
  rw [l31]
  rfl
theorem among2 : amongZ l3 2 = ([2, 3], 0) := by
  unfold amongZ
  rw [l32]
  dsimp only
  rw [l31]
  rfl
theorem cmp43 : cmpZ l3 4 3 = -1 := by
  unfold cmpZ
  rw [ups4, ups3]
  have e : cmpL l3 [1, 2, 4] [1, 3] = Lib.compareInt (amongZ l3 2).2 (amongZ l3 3).2 := rfl
  show cmpL l3 [1, 2, 4] [1, 3] = -1
  rw [e, among2, among3]
  rfl
theorem cnt3 : Cnt l3 4 := by
  have h0 : Cnt M0 1 := Cnt.zero.set 1 _
  have h1 : Cnt l1 2 := (h0.set 2 ⟨2, sB, 1, [], []⟩).set 1 _
  have h2 : Cnt l2 3 := (h1.set 3 ⟨3, sD, 1, [], []⟩).set 1 _
  exact (h2.set 4 ⟨4, sC, 2, [], []⟩).set 2 _
theorem pre3 {d : Int → Nat} {nx : Int} (I : Inv uOk l3 nx d) : preO l3 1 = [1, 2, 4, 3] := by
  rw [preO_some I l31]
  simp only [List.flatMap_cons, List.flatMap_nil, List.append_nil]
  rw [preO_some I l32, preO_some I l33]
  simp only [List.flatMap_cons, List.flatMap_nil, List.append_nil]
  rw [preO_some I l34]
  rfl
def lit3 : Obj := .cells #[.int .i64 0, .int .i64 1, .int .i64 0, .int .i64 0, .string ⟨#[98]⟩, .string ⟨#[]⟩, .int .i64 0, .int .i64 1, .int .i64 1, .int .i64 0, .string ⟨#[100]⟩, .string ⟨#[]⟩, .int .i64 0, .int .i64 2, .int .i64 0, .int .i64 0, .string ⟨#[99]⟩, .string ⟨#[]⟩] 52
theorem lit_acts (w : World) : ActsIn (w.alloc lit3) (.slice (some ⟨w.heap.size, 0, none⟩) 3 3) [actB, actD, actC] := by
  have h := heap_alloc_last w lit3
  refine ⟨⟨_, 3, rfl, by decide, by decide, fun _ => ⟨w.heap.size, 0, rfl, (Array.getElem?_eq_some_iff.1 h).1, fun i hi => ?_⟩⟩, fun z hz => ?_⟩
  · have hi3 : i < 3 := hi
    rcases (show i = 0 ∨ i = 1 ∨ i = 2 by omega) with rfl | rfl | rfl
    all_goals
      refine ⟨fun j hj => ?_, (by first | exact (show sB.size ≤ maxLen by decide) | exact (show sC.size ≤ maxLen by decide) | exact (show sD.size ≤ maxLen by decide)), (by exact (show (⟨#[]⟩ : ByteArray).size ≤ maxLen by decide))⟩
      rcases (show j = 0 ∨ j = 1 ∨ j = 2 ∨ j = 3 ∨ j = 4 ∨ j = 5 by omega) with rfl | rfl | rfl | rfl | rfl | rfl <;> (unfold World.cell?; rw [h]; rfl)
  · simp only [List.mem_cons, List.not_mem_nil, or_false] at hz
    rcases hz with rfl | rfl | rfl
    · exact (by decide)
    · exact (by decide)
    · exact (by decide)
set_option maxHeartbeats 2000000 in
theorem wlives_any (w : World) : Calls Tryz.prog 7 #[] w fun e w' => e = .returned (.bool true) ∧ Below w.heap.size w w' := by
  have ht := tree_any (lit_acts w) (by decide)
  have hW : Below w.heap.size w (w.alloc lit3) := (Below.refl _ _).alloc (Nat.le_refl _) _
  have HW := hid_mk hW
  clear hW
  unfold lit3 at ht HW
  go_enter Tryz.func7, Tryz.ntmps7
  go_wp2_with (go_at_call 8; fail)
  refine ht.mono ?_
  rintro e w1 ⟨b, c, m, nx, L, rfl, hR, _, hT, _, hB1⟩
  obtain ⟨e1, e2⟩ := hR.uniq acts3
  subst e1 e2
  have HB1 := hid_mk (HW.out.trans (hB1.mono HW.out.size))
  obtain ⟨d, I⟩ := hT.2
  have hp := wplace_any hT 3
  rw [among3] at hp
  have HT := hid_mk hT
  have HPR := hid_mk (pre3 I)
  clear ht hR hB1 hT I
  go_upto_region 3 with (go_at_call 17; refine hp.mono ?_; clear hp; rintro e w2 ⟨rfl, hB2⟩; have HB2 := hid_mk hB2; clear hB2)
  have HB3 := hid_mk (HB1.out.trans (HB2.out.mono HB1.out.size))
  have HT2 := hid_mk (HT.out.keep HB2.out)
  have HOR : Hid (∀ w', Below w2.heap.size w2 w' → Calls Tryz.prog 12 #[.pointer (some ⟨b, 0, none⟩)] w' fun x wx => ∃ v, x = .returned v ∧ wx.ownsRow w'.heap.size 3 1 v 4 (intsV [1, 2, 4, 3]) ∧ Below w'.heap.size w' wx) := fun w' hw' => by
    have := order_any (HT2.out.keep hw') cnt3 (by decide) (by rw [HPR.out]; decide)
    rw [HPR.out] at this
    exact this
  have HCM : Hid (∀ w', Below w2.heap.size w2 w' → Calls Tryz.prog 23 #[.pointer (some ⟨b, 0, none⟩), .int .i64 4, .int .i64 3] w' fun x wx => x = .returned (.int .i64 (-1)) ∧ Below w'.heap.size w' wx) := fun w' hw' => by
    have := wcompare_any (HT2.out.keep hw') 4 3
    rw [cmp43] at this
    exact this
  have HDP : Hid (∀ w', Below w2.heap.size w2 w' → Calls Tryz.prog 15 #[.pointer (some ⟨b, 0, none⟩), .int .i64 4] w' fun x wx => x = .returned (.int .i64 3) ∧ Below w'.heap.size w' wx) := fun w' hw' => by
    have := wdepth_any (HT2.out.keep hw') 4
    rw [ups4] at this
    exact this
  clear HT HT2 HB1 HB2 HW HPR
  have hor := HOR.out w2 (Below.refl _ _)
  clear HOR
  go_wp2_with (go_at_call 12; fail)
  refine hor.mono ?_
  rintro x w3 ⟨v, rfl, ho, hB3⟩
  obtain ⟨av, cv, rfl, hrv, _⟩ := RowAt.of_owns ho (by simp [intsV, Value.oneCell'])
  obtain ⟨L4, hL4⟩ : ∃ o, o = Obj.cells #[.int .i64 1, .int .i64 2, .int .i64 4, .int .i64 3] 3 := ⟨_, rfl⟩
  have hW4 : Below w3.heap.size w3 (w3.alloc L4) := (Below.refl _ _).alloc (Nat.le_refl _) _
  have hr4 : RowAt (w3.alloc L4) 1 (some ⟨w3.heap.size, 0, none⟩) 4 4 (intsV [1, 2, 4, 3]) := by
    have h := heap_alloc_last w3 L4
    refine ⟨rfl, Nat.le_refl _, by decide, by simp [intsV, Value.oneCell'], .inr ⟨_, _, rfl, (Array.getElem?_eq_some_iff.1 h).1, fun i u hu => ?_⟩⟩
    have hi4 : i < 4 := (List.getElem?_eq_some_iff.1 hu).1
    rw [← hu]
    rcases (show i = 0 ∨ i = 1 ∨ i = 2 ∨ i = 3 by omega) with rfl | rfl | rfl | rfl <;> (unfold World.cell?; rw [h, hL4]; rfl)
  have hin := ints_yes (hrv.keep hW4) hr4
  have HB4 := hid_mk (hB3.trans (hW4.mono hB3.size))
  rw [hL4] at hin HB4
  clear hor ho hr4 hrv hW4 hL4 L4 hB3
  go_wp2_with (go_at_call 10; fail)
  refine hin.mono ?_
  rintro x w5 ⟨rfl, hB5⟩
  have HB5 := hid_mk (HB4.out.trans (hB5.mono HB4.out.size))
  have hcm := HCM.out w5 HB5.out
  clear hin hB5 HB4 HCM
  go_wp2_with (go_at_call 23; fail)
  refine hcm.mono ?_
  rintro x w6 ⟨rfl, hB6⟩
  have HB6 := hid_mk (HB5.out.trans (hB6.mono HB5.out.size))
  have hdp := HDP.out w6 HB6.out
  clear hcm hB6 HB5 HDP
  go_wp2_with (go_at_call 15; fail)
  refine hdp.mono ?_
  rintro x w7 ⟨rfl, hB7⟩
  have HB7 := hid_mk (HB6.out.trans (hB7.mono HB6.out.size))
  clear hdp hB7 HB6
  go_wp2
  go_ret
  exact ⟨rfl, HB3.out.trans (HB7.out.mono HB3.out.size)⟩

end Go.Proofs.YtoncgmnccgegmaaGreat.N
namespace Go.Proofs.YtoncgmnccgegmaaGreat.N
open Go.RowKit
set_option maxRecDepth 100000

theorem cmpL_small (m : M) (x y : List Int) : -1 ≤ cmpL m x y ∧ cmpL m x y ≤ 1 := by
  unfold cmpL Lib.compareInt
  (repeat' split) <;> omega
theorem cmpZ_small (m : M) (a b : Int) : -1 ≤ cmpZ m a b ∧ cmpZ m a b ≤ 1 := cmpL_small m _ _
/-- Place's answer. -/
def placeZ (m : M) (a : Int) : Int × Int := if (amongZ m a).2 < 0 then (0, 0) else ((amongZ m a).2 + 1, (amongZ m a).1.length - (amongZ m a).2)
theorem place_pair {w : World} {dp : Value} {m : M} {nx : Int} (h : Tree w dp m nx) (id : Int) : Calls Tryz.prog 17 #[dp, .int .i64 id] w fun x w' => x = .returned (.tuple #[.int .i64 (placeZ m id).1, .int .i64 (placeZ m id).2]) ∧ Below w.heap.size w w' := by
  refine (wplace_any h id).mono ?_
  rintro x w' ⟨rfl, hB⟩
  refine ⟨?_, hB⟩
  unfold placeZ
  split <;> rfl
/-- What the law asks of the numbers. -/
theorem orders_math {uok : List (ByteArray × ByteArray) → Prop} {m : M} {nx : Int} {d : Int → Nat} (I : Inv uok m nx d) {a : Int} {e : El} (h : m a = some e) :
    0 < (placeZ m a).1 ∧ (besideZ m a 1 ≠ 0 → besideZ m (besideZ m a 1) (-1) = a ∧ cmpZ m a (besideZ m a 1) = -1 ∧ IntKind.i64.wrap ((placeZ m a).1 + 1) = (placeZ m (besideZ m a 1)).1 ∧ IntKind.i64.wrap ((placeZ m a).2 - 1) = (placeZ m (besideZ m a 1)).2) := by
  obtain ⟨l, i, hi, h1, h2, hnd, hl, hj⟩ := among_some I h
  have hpz : placeZ m a = ((i : Int) + 1, (l.length : Int) - i) := by
    unfold placeZ
    rw [h1, if_neg (by show ¬ (i : Int) < 0; omega)]
  rw [hpz]
  refine ⟨by show (0 : Int) < i + 1; omega, fun hb => ?_⟩
  rw [beside_some h1] at hb ⊢
  by_cases hlt : (l.length : Int) ≤ i + 1
  · rw [if_pos (Or.inr hlt)] at hb
    exact (hb rfl).elim
  · have hlt' : i + 1 < l.length := by omega
    have hne : ¬ ((i : Int) + 1 < 0 ∨ (l.length : Int) ≤ i + 1) := by omega
    rw [if_neg hne] at hb ⊢
    have hg : l.getD ((i : Int) + 1).toNat 0 = l[i + 1] := by
      rw [show ((i : Int) + 1).toNat = i + 1 by omega, List.getD_eq_getElem?_getD, List.getElem?_eq_getElem hlt']
      rfl
    rw [hg] at hb ⊢
    obtain ⟨h3, f, h4, h5⟩ := hj (i + 1) hlt'
    have hpn : placeZ m l[i + 1] = (((i + 1 : Nat) : Int) + 1, (l.length : Int) - (i + 1 : Nat)) := by
      unfold placeZ
      rw [h3, if_neg (by show ¬ ((i + 1 : Nat) : Int) < 0; omega)]
    refine ⟨?_, ?_, ?_, ?_⟩
    · rw [beside_some h3, if_neg (by omega), show (((i + 1 : Nat) : Int) + -1).toNat = i by omega, List.getD_eq_getElem?_getD, List.getElem?_eq_getElem hi]
      exact h2
    · exact cmpZ_sib I h h4 h5.symm h1 h3 (by omega)
    · rw [hpn]
      show IntKind.i64.wrap ((i : Int) + 1 + 1) = ((i + 1 : Nat) : Int) + 1
      rw [IntKind.wrap_i64]
      omega
    · rw [hpn]
      show IntKind.i64.wrap ((l.length : Int) - i - 1) = (l.length : Int) - ((i + 1 : Nat) : Int)
      rw [IntKind.wrap_i64]
      omega
theorem place_none {m : M} {a : Int} (h : m a = none) : placeZ m a = (0, 0) := by
  unfold placeZ
  rw [among_none h]
  rfl

end Go.Proofs.YtoncgmnccgegmaaGreat.N
