/- WalkOrders: the walk. -/
import Derived.Test.YtoncgmnccgegmaaLvwN
import Derived.Test.YtoncgmnccgegmaaLitN
namespace Go.Proofs.Ytoncgmnccgegmaa.N
open Go.RowKit
set_option maxRecDepth 100000

theorem cmpL_small (m : M) (x y : List Int) : -1 ≤ cmpL m x y ∧ cmpL m x y ≤ 1 := by
  unfold cmpL Lib.compareInt
  (repeat' split) <;> omega
theorem cmpZ_small (m : M) (a b : Int) : -1 ≤ cmpZ m a b ∧ cmpZ m a b ≤ 1 := cmpL_small m _ _
/-- Place's answer. -/
def placeZ (m : M) (a : Int) : Int × Int := if (amongZ m a).2 < 0 then (0, 0) else ((amongZ m a).2 + 1, (amongZ m a).1.length - (amongZ m a).2)
theorem place_pair {w : World} {dp : Value} {m : M} {nx : Int} (h : Tree w dp m nx) (id : Int) : Calls Try.prog 13 #[dp, .int .i64 id] w fun x w' => x = .returned (.tuple #[.int .i64 (placeZ m id).1, .int .i64 (placeZ m id).2]) ∧ Below w.heap.size w w' := by
  refine (wplace_any h id).mono ?_
  rintro x w' ⟨rfl, hB⟩
  refine ⟨?_, hB⟩
  unfold placeZ
  split <;> rfl
/-- What the law asks of the numbers. -/
theorem orders_math {uok : List (ByteArray × ByteArray) → Prop} {m : M} {nx : Int} {d : Int → Nat} (I : Inv uok m nx d) {a : Int} {e : El} (h : m a = some e) :
    0 < (placeZ m a).1 ∧ (besideZ m a 1 ≠ 0 → besideZ m (besideZ m a 1) (-1) = a ∧ cmpZ m a (besideZ m a 1) = -1 ∧ IntKind.i64.wrap ((placeZ m a).1 + 1) = (placeZ m (besideZ m a 1)).1 ∧ IntKind.i64.wrap ((placeZ m a).2 - 1) = (placeZ m (besideZ m a 1)).2) := by
  obtain ⟨l, i, hi, h1, h2, hnd, hl, hj⟩ := among_some I h
  have hpz : placeZ m a = ((i : Int) + 1, (l.length : Int) - i) := by
    unfold placeZ
    rw [h1, if_neg (by show ¬ (i : Int) < 0; omega)]
  rw [hpz]
  refine ⟨by show (0 : Int) < i + 1; omega, fun hb => ?_⟩
  rw [beside_some h1] at hb ⊢
  by_cases hlt : (l.length : Int) ≤ i + 1
  · rw [if_pos (Or.inr hlt)] at hb
    exact (hb rfl).elim
  · have hlt' : i + 1 < l.length := by omega
    have hne : ¬ ((i : Int) + 1 < 0 ∨ (l.length : Int) ≤ i + 1) := by omega
    rw [if_neg hne] at hb ⊢
    have hg : l.getD ((i : Int) + 1).toNat 0 = l[i + 1] := by
      rw [show ((i : Int) + 1).toNat = i + 1 by omega, List.getD_eq_getElem?_getD, List.getElem?_eq_getElem hlt']
      rfl
    rw [hg] at hb ⊢
    obtain ⟨h3, f, h4, h5⟩ := hj (i + 1) hlt'
    have hpn : placeZ m l[i + 1] = (((i + 1 : Nat) : Int) + 1, (l.length : Int) - (i + 1 : Nat)) := by
      unfold placeZ
      rw [h3, if_neg (by show ¬ ((i + 1 : Nat) : Int) < 0; omega)]
    refine ⟨?_, ?_, ?_, ?_⟩
    · rw [beside_some h3, if_neg (by omega), show (((i + 1 : Nat) : Int) + -1).toNat = i by omega, List.getD_eq_getElem?_getD, List.getElem?_eq_getElem hi]
      exact h2
    · exact cmpZ_sib I h h4 h5.symm h1 h3 (by omega)
    · rw [hpn]
      show IntKind.i64.wrap ((i : Int) + 1 + 1) = ((i + 1 : Nat) : Int) + 1
      rw [IntKind.wrap_i64]
      omega
    · rw [hpn]
      show IntKind.i64.wrap ((l.length : Int) - i - 1) = (l.length : Int) - ((i + 1 : Nat) : Int)
      rw [IntKind.wrap_i64]
      omega
theorem place_none {m : M} {a : Int} (h : m a = none) : placeZ m a = (0, 0) := by
  unfold placeZ
  rw [among_none h]
  rfl

set_option maxHeartbeats 8000000 in
theorem orders_walk {W : World} {v : Value} {xs : List Act6} (hp : ActsIn W v xs) (a b : Int) : Calls Try.prog 3 #[v, .int .i64 a, .int .i64 b] W fun e w' => e = .returned (.bool true) ∧ Below W.heap.size W w' := by
  have hlight := rlight_any hp 80 (by decide)
  have HLV : Hid (∀ w', Calls Try.prog 7 #[] w' fun e w'' => e = .returned (.bool true) ∧ Below w'.heap.size w' w'') := fun w' => wlives_any w'
  have HTA : Hid (∀ w', Below W.heap.size W w' → xs.length ≤ 130 → _) := fun w' hw' hx => tree_any (W := w') (v := v) (xs := xs) ⟨hp.1.keep hw', hp.2⟩ hx
  obtain ⟨⟨av, cap, rfl, hcap, hmax, hx⟩, hsz⟩ := hp
  clear hx hsz
  go_enter Try.func3, Try.ntmps3
  go_wp2_with (go_at_call 6; fail)
  refine hlight.mono ?_
  rintro e w1 ⟨lb, rfl, hlen, hB1⟩
  have HB1 := hid_mk hB1
  clear hlight hB1
  cases lb with
  | false =>
    clear HTA
    go_wp2_with (go_at_call 7; refine (HLV.out _).mono ?_; rintro e w2 ⟨rfl, hB2⟩)
    go_ret
    exact ⟨rfl, HB1.out.trans (hB2.mono HB1.out.size)⟩
  | true =>
    have h80 := hlen rfl
    have hta := HTA.out w1 HB1.out (by omega)
    clear HTA hlen
    go_wp2_with (go_at_call 8; fail)
    refine hta.mono ?_
    rintro e w2 ⟨p, q, m, nx, L, rfl, hR, _, hT, hRT, hB2⟩
    have HB2 := hid_mk (HB1.out.trans (hB2.mono HB1.out.size))
    have HT := hid_mk hT
    obtain ⟨d, I⟩ := hT.2
    have HI := hid_mk I
    have HPL : Hid (∀ w' x, Below w2.heap.size w2 w' → _) := fun w' x hw' => place_pair (HT.out.keep hw') x
    have HAF : Hid (∀ w' x, Below w2.heap.size w2 w' → _) := fun w' x hw' => after_any (HT.out.keep hw') x
    have HBF : Hid (∀ w' x, Below w2.heap.size w2 w' → _) := fun w' x hw' => before_any (HT.out.keep hw') x
    have HCM : Hid (∀ w' x y, Below w2.heap.size w2 w' → _) := fun w' x y hw' => wcompare_any (HT.out.keep hw') x y
    have HND : Hid (∀ w' x, Below w2.heap.size w2 w' → _) := fun w' x hw' => tree_node (HT.out.keep hw') x
    have h1 := HCM.out w2 a b (Below.refl _ _)
    clear hta hR hT hRT hB2 I HB1 HT
    go_upto_region 5 with (go_at_call 9; refine h1.mono ?_; clear h1; rintro e w3 ⟨rfl, hB3⟩; have HB3 := hid_mk hB3; clear hB3)
    have h2 := HND.out w3 a HB3.out
    go_wp2_with (go_at_call 10; fail)
    refine h2.mono ?_
    rintro x w4 ⟨s4, rfl, _, hB4⟩
    obtain ⟨w5, hw5⟩ : ∃ w5, w5 = w4.alloc (.cells #[.int .i64 s4.id, .string s4.tag, .int .i64 s4.par, .slice s4.ka s4.kn s4.kc, .slice s4.aa s4.an s4.ac] 33) := ⟨_, rfl⟩
    have HB5 : Hid (Below w2.heap.size w2 w5) := by rw [Hid, hw5]; exact (HB3.out.trans (hB4.mono HB3.out.size)).alloc (HB3.out.trans (hB4.mono HB3.out.size)).size _
    have h3 := HND.out w5 b HB5.out
    have HW5 := hid_mk hw5
    clear h2 hB4 HB3 hw5
    go_upto_region 6 with (fail)
    rw [← HW5.out]
    go_wp2_with (go_at_call 10; fail)
    refine h3.mono ?_
    rintro x w6 ⟨s6, rfl, _, hB6⟩
    obtain ⟨w7, hw7⟩ : ∃ w7, w7 = w6.alloc (.cells #[.int .i64 s6.id, .string s6.tag, .int .i64 s6.par, .slice s6.ka s6.kn s6.kc, .slice s6.aa s6.an s6.ac] 33) := ⟨_, rfl⟩
    have HB7 : Hid (Below w2.heap.size w2 w7) := by rw [Hid, hw7]; exact (HB5.out.trans (hB6.mono HB5.out.size)).alloc (HB5.out.trans (hB6.mono HB5.out.size)).size _
    have HW7 := hid_mk hw7
    have h4 := HCM.out w7 b a HB7.out
    clear h3 hB6 HB5 hw7 HW5 HND
    go_upto_region 7 with (fail)
    rw [← HW7.out]
    have hsm := cmpZ_small m b a
    have hcc : IntKind.i64.wrap (- cmpZ m b a) = cmpZ m a b := by rw [IntKind.wrap_i64, cmpZ_anti a b]; omega
    have HKY : Hid (((m a).isSome = false ∧ cmpZ m a b = 0) ∨ ((m a).isSome = true ∧ (m b).isSome = false ∧ cmpZ m a b = 0 ∧ a ≠ b) ∨ ((m a).isSome = true ∧ (m b).isSome = true ∧ cmpZ m a b = 0 ∧ a = b) ∨ ((m a).isSome = true ∧ (m b).isSome = true ∧ (cmpZ m a b == 0) = false ∧ a ≠ b)) := by
      cases ha : m a with
      | none => exact .inl ⟨rfl, cmpZ_none (.inl ha)⟩
      | some e =>
        cases hb : m b with
        | none => exact .inr (.inl ⟨rfl, rfl, cmpZ_none (.inr hb), fun h => by rw [h, hb] at ha; cases ha⟩)
        | some f =>
          by_cases hab : a = b
          · exact .inr (.inr (.inl ⟨rfl, rfl, (cmpZ_zero HI.out ha hb).2 hab, hab⟩))
          · exact .inr (.inr (.inr ⟨rfl, rfl, by simp only [beq_eq_false_iff_ne]; exact fun h => hab ((cmpZ_zero HI.out ha hb).1 h), hab⟩))
    have HMA : Hid ((m a).isSome = true → 0 < (placeZ m a).1 ∧ (besideZ m a 1 ≠ 0 → besideZ m (besideZ m a 1) (-1) = a ∧ cmpZ m a (besideZ m a 1) = -1 ∧ IntKind.i64.wrap ((placeZ m a).1 + 1) = (placeZ m (besideZ m a 1)).1 ∧ IntKind.i64.wrap ((placeZ m a).2 - 1) = (placeZ m (besideZ m a 1)).2)) := fun h => by
      obtain ⟨e, he⟩ := Option.isSome_iff_exists.1 h
      exact orders_math HI.out he
    have HMN : Hid ((m a).isSome = false → besideZ m a 1 = 0 ∧ placeZ m a = (0, 0)) := fun h => by
      have : m a = none := by simpa using h
      exact ⟨beside_none this 1, place_none this⟩
    generalize cmpZ m b a = C at *
    generalize cmpZ m a b = c at *
    generalize (m a).isSome = is at *
    generalize (m b).isSome = too at *
    clear HI hsm
    have HIO := hid_mk (And.intro HMA.out HMN.out)
    clear HMA HMN HW7
    have hkey := HKY.out
    clear HKY
    rcases hkey with ⟨rfl, rfl⟩ | ⟨rfl, rfl, rfl, hab⟩ | ⟨rfl, rfl, rfl, rfl⟩ | ⟨rfl, rfl, hc0, hab⟩
    · by_cases hab : a = b
      · subst hab
        go_upto_region 9 with (go_at_call 9; refine h4.mono ?_; clear h4; rintro e w8 ⟨rfl, hB8⟩; have HB8 := hid_mk (HB7.out.trans (hB8.mono HB7.out.size)); clear hB8)
        clear HB7
        have hms := HIO.out.2 (by trivial)
        clear HIO
        obtain ⟨hn, hpz⟩ := hms
        have HA := hid_mk (fun w' (hw' : Below w2.heap.size w2 w') => HAF.out w' a hw')
        have HP := hid_mk (fun w' (hw' : Below w2.heap.size w2 w') => HPL.out w' a hw')
        have HP0 := hid_mk (fun w' (hw' : Below w2.heap.size w2 w') => HPL.out w' 0 hw')
        rw [hn] at HA
        rw [hpz] at HP
        clear HPL HAF HBF HCM hn hpz
        go_wp2_with (go_at_call 11; fail)
        refine (HA.out w8  HB8.out).mono ?_
        rintro e w9 ⟨rfl, hB9⟩
        have HB9 := hid_mk (HB8.out.trans (hB9.mono HB8.out.size))
        clear hB9 HB8
        go_wp2_with (go_at_call 13; fail)
        refine (HP.out w9  HB9.out).mono ?_
        rintro e w10 ⟨rfl, hB10⟩
        have HB10 := hid_mk (HB9.out.trans (hB10.mono HB9.out.size))
        clear hB10 HB9
        go_wp2_with (go_at_call 11; fail)
        refine (HA.out w10  HB10.out).mono ?_
        rintro e w11 ⟨rfl, hB11⟩
        have HB11 := hid_mk (HB10.out.trans (hB11.mono HB10.out.size))
        clear hB11 HB10
        go_wp2_with (go_at_call 13; fail)
        refine (HP0.out w11  HB11.out).mono ?_
        rintro e w12 ⟨rfl, hB12⟩
        have HB12 := hid_mk (HB11.out.trans (hB12.mono HB11.out.size))
        clear hB12 HB11
        go_wp2_with (go_at_call 7; fail)
        refine (HLV.out w12).mono ?_
        rintro e w13 ⟨rfl, hB13⟩
        go_wp2
        go_ret
        exact ⟨rfl, HB2.out.trans ((HB12.out.trans (hB13.mono HB12.out.size)).mono HB2.out.size)⟩
      · have hab' : (a == b) = false := by simp [hab]
        go_upto_region 9 with (go_at_call 9; refine h4.mono ?_; clear h4; rintro e w8 ⟨rfl, hB8⟩; have HB8 := hid_mk (HB7.out.trans (hB8.mono HB7.out.size)); clear hB8)
        clear HB7
        have hms := HIO.out.2 (by trivial)
        clear HIO
        obtain ⟨hn, hpz⟩ := hms
        have HA := hid_mk (fun w' (hw' : Below w2.heap.size w2 w') => HAF.out w' a hw')
        have HP := hid_mk (fun w' (hw' : Below w2.heap.size w2 w') => HPL.out w' a hw')
        have HP0 := hid_mk (fun w' (hw' : Below w2.heap.size w2 w') => HPL.out w' 0 hw')
        rw [hn] at HA
        rw [hpz] at HP
        clear HPL HAF HBF HCM hn hpz
        go_wp2_with (go_at_call 11; fail)
        refine (HA.out w8  HB8.out).mono ?_
        rintro e w9 ⟨rfl, hB9⟩
        have HB9 := hid_mk (HB8.out.trans (hB9.mono HB8.out.size))
        clear hB9 HB8
        go_wp2_with (go_at_call 13; fail)
        refine (HP.out w9  HB9.out).mono ?_
        rintro e w10 ⟨rfl, hB10⟩
        have HB10 := hid_mk (HB9.out.trans (hB10.mono HB9.out.size))
        clear hB10 HB9
        go_wp2_with (go_at_call 11; fail)
        refine (HA.out w10  HB10.out).mono ?_
        rintro e w11 ⟨rfl, hB11⟩
        have HB11 := hid_mk (HB10.out.trans (hB11.mono HB10.out.size))
        clear hB11 HB10
        go_wp2_with (go_at_call 13; fail)
        refine (HP0.out w11  HB11.out).mono ?_
        rintro e w12 ⟨rfl, hB12⟩
        have HB12 := hid_mk (HB11.out.trans (hB12.mono HB11.out.size))
        clear hB12 HB11
        go_wp2_with (go_at_call 7; fail)
        refine (HLV.out w12).mono ?_
        rintro e w13 ⟨rfl, hB13⟩
        go_wp2
        go_ret
        exact ⟨rfl, HB2.out.trans ((HB12.out.trans (hB13.mono HB12.out.size)).mono HB2.out.size)⟩
    · have hab' : (a == b) = false := by simp [hab]
      go_upto_region 9 with (go_at_call 9; refine h4.mono ?_; clear h4; rintro e w8 ⟨rfl, hB8⟩; have HB8 := hid_mk (HB7.out.trans (hB8.mono HB7.out.size)); clear hB8)
      clear HB7
      have hms := HIO.out.1 (by trivial)
      clear HIO
      obtain ⟨hI0, hms⟩ := hms
      have HA := hid_mk (fun w' (hw' : Below w2.heap.size w2 w') => HAF.out w' a hw')
      have HP := hid_mk (fun w' (hw' : Below w2.heap.size w2 w') => HPL.out w' a hw')
      have HPN := hid_mk (fun w' (hw' : Below w2.heap.size w2 w') => HPL.out w' (besideZ m a 1) hw')
      have HBN := hid_mk (fun w' (hw' : Below w2.heap.size w2 w') => HBF.out w' (besideZ m a 1) hw')
      have HCN := hid_mk (fun w' (hw' : Below w2.heap.size w2 w') => HCM.out w' a (besideZ m a 1) hw')
      clear HPL HAF HBF HCM
      by_cases hn : besideZ m a 1 = 0
      · rw [hn] at HA HPN
        clear hms HBN HCN
        generalize (placeZ m a).1 = I at *
        generalize (placeZ m a).2 = K at *
        generalize (placeZ m 0).1 = J at *
        generalize (placeZ m 0).2 = N at *
        have hI1 : decide (0 < I) = true := by simp [hI0]
        go_wp2_with (go_at_call 11; fail)
        refine (HA.out w8  HB8.out).mono ?_
        rintro e w9 ⟨rfl, hB9⟩
        have HB9 := hid_mk (HB8.out.trans (hB9.mono HB8.out.size))
        clear hB9 HB8
        go_wp2_with (go_at_call 13; fail)
        refine (HP.out w9  HB9.out).mono ?_
        rintro e w10 ⟨rfl, hB10⟩
        have HB10 := hid_mk (HB9.out.trans (hB10.mono HB9.out.size))
        clear hB10 HB9
        go_wp2_with (go_at_call 11; fail)
        refine (HA.out w10  HB10.out).mono ?_
        rintro e w11 ⟨rfl, hB11⟩
        have HB11 := hid_mk (HB10.out.trans (hB11.mono HB10.out.size))
        clear hB11 HB10
        go_wp2_with (go_at_call 13; fail)
        refine (HPN.out w11  HB11.out).mono ?_
        rintro e w12 ⟨rfl, hB12⟩
        have HB12 := hid_mk (HB11.out.trans (hB12.mono HB11.out.size))
        clear hB12 HB11
        go_wp2_with (go_at_call 11; fail)
        refine (HA.out w12  HB12.out).mono ?_
        rintro e w13 ⟨rfl, hB13⟩
        have HB13 := hid_mk (HB12.out.trans (hB13.mono HB12.out.size))
        clear hB13 HB12
        go_wp2_with (go_at_call 7; fail)
        refine (HLV.out w13).mono ?_
        rintro e w14 ⟨rfl, hB14⟩
        go_wp2
        go_ret
        exact ⟨rfl, HB2.out.trans ((HB13.out.trans (hB14.mono HB13.out.size)).mono HB2.out.size)⟩
      · obtain ⟨e1, e2, e3, e4⟩ := hms hn
        rw [e1] at HBN
        rw [e2] at HCN
        generalize besideZ m a 1 = n at *
        generalize (placeZ m a).1 = I at *
        generalize (placeZ m a).2 = K at *
        generalize (placeZ m n).1 = J at *
        generalize (placeZ m n).2 = N at *
        have hI1 : decide (0 < I) = true := by simp [hI0]
        have hn1 : (n == 0) = false := by simp [hn]
        have hn2 : (n != 0) = true := by simp [hn]
        clear e1 e2
        go_wp2_with (go_at_call 11; fail)
        refine (HA.out w8  HB8.out).mono ?_
        rintro e w9 ⟨rfl, hB9⟩
        have HB9 := hid_mk (HB8.out.trans (hB9.mono HB8.out.size))
        clear hB9 HB8
        go_wp2_with (go_at_call 12; fail)
        refine (HBN.out w9  HB9.out).mono ?_
        rintro e w10 ⟨rfl, hB10⟩
        have HB10 := hid_mk (HB9.out.trans (hB10.mono HB9.out.size))
        clear hB10 HB9
        go_wp2_with (go_at_call 9; fail)
        refine (HCN.out w10  HB10.out).mono ?_
        rintro e w11 ⟨rfl, hB11⟩
        have HB11 := hid_mk (HB10.out.trans (hB11.mono HB10.out.size))
        clear hB11 HB10
        go_wp2_with (go_at_call 13; fail)
        refine (HP.out w11  HB11.out).mono ?_
        rintro e w12 ⟨rfl, hB12⟩
        have HB12 := hid_mk (HB11.out.trans (hB12.mono HB11.out.size))
        clear hB12 HB11
        go_wp2_with (go_at_call 11; fail)
        refine (HA.out w12  HB12.out).mono ?_
        rintro e w13 ⟨rfl, hB13⟩
        have HB13 := hid_mk (HB12.out.trans (hB13.mono HB12.out.size))
        clear hB13 HB12
        go_wp2_with (go_at_call 13; fail)
        refine (HPN.out w13  HB13.out).mono ?_
        rintro e w14 ⟨rfl, hB14⟩
        have HB14 := hid_mk (HB13.out.trans (hB14.mono HB13.out.size))
        clear hB14 HB13
        go_wp2_with (go_at_call 11; fail)
        refine (HA.out w14  HB14.out).mono ?_
        rintro e w15 ⟨rfl, hB15⟩
        have HB15 := hid_mk (HB14.out.trans (hB15.mono HB14.out.size))
        clear hB15 HB14
        go_wp2_with (go_at_call 7; fail)
        refine (HLV.out w15).mono ?_
        rintro e w16 ⟨rfl, hB16⟩
        go_wp2
        go_ret
        exact ⟨rfl, HB2.out.trans ((HB15.out.trans (hB16.mono HB15.out.size)).mono HB2.out.size)⟩
    · go_upto_region 9 with (go_at_call 9; refine h4.mono ?_; clear h4; rintro e w8 ⟨rfl, hB8⟩; have HB8 := hid_mk (HB7.out.trans (hB8.mono HB7.out.size)); clear hB8)
      clear HB7
      have hms := HIO.out.1 (by trivial)
      clear HIO
      obtain ⟨hI0, hms⟩ := hms
      have HA := hid_mk (fun w' (hw' : Below w2.heap.size w2 w') => HAF.out w' a hw')
      have HP := hid_mk (fun w' (hw' : Below w2.heap.size w2 w') => HPL.out w' a hw')
      have HPN := hid_mk (fun w' (hw' : Below w2.heap.size w2 w') => HPL.out w' (besideZ m a 1) hw')
      have HBN := hid_mk (fun w' (hw' : Below w2.heap.size w2 w') => HBF.out w' (besideZ m a 1) hw')
      have HCN := hid_mk (fun w' (hw' : Below w2.heap.size w2 w') => HCM.out w' a (besideZ m a 1) hw')
      clear HPL HAF HBF HCM
      by_cases hn : besideZ m a 1 = 0
      · rw [hn] at HA HPN
        clear hms HBN HCN
        generalize (placeZ m a).1 = I at *
        generalize (placeZ m a).2 = K at *
        generalize (placeZ m 0).1 = J at *
        generalize (placeZ m 0).2 = N at *
        have hI1 : decide (0 < I) = true := by simp [hI0]
        go_wp2_with (go_at_call 11; fail)
        refine (HA.out w8  HB8.out).mono ?_
        rintro e w9 ⟨rfl, hB9⟩
        have HB9 := hid_mk (HB8.out.trans (hB9.mono HB8.out.size))
        clear hB9 HB8
        go_wp2_with (go_at_call 13; fail)
        refine (HP.out w9  HB9.out).mono ?_
        rintro e w10 ⟨rfl, hB10⟩
        have HB10 := hid_mk (HB9.out.trans (hB10.mono HB9.out.size))
        clear hB10 HB9
        go_wp2_with (go_at_call 11; fail)
        refine (HA.out w10  HB10.out).mono ?_
        rintro e w11 ⟨rfl, hB11⟩
        have HB11 := hid_mk (HB10.out.trans (hB11.mono HB10.out.size))
        clear hB11 HB10
        go_wp2_with (go_at_call 13; fail)
        refine (HPN.out w11  HB11.out).mono ?_
        rintro e w12 ⟨rfl, hB12⟩
        have HB12 := hid_mk (HB11.out.trans (hB12.mono HB11.out.size))
        clear hB12 HB11
        go_wp2_with (go_at_call 11; fail)
        refine (HA.out w12  HB12.out).mono ?_
        rintro e w13 ⟨rfl, hB13⟩
        have HB13 := hid_mk (HB12.out.trans (hB13.mono HB12.out.size))
        clear hB13 HB12
        go_wp2_with (go_at_call 7; fail)
        refine (HLV.out w13).mono ?_
        rintro e w14 ⟨rfl, hB14⟩
        go_wp2
        go_ret
        exact ⟨rfl, HB2.out.trans ((HB13.out.trans (hB14.mono HB13.out.size)).mono HB2.out.size)⟩
      · obtain ⟨e1, e2, e3, e4⟩ := hms hn
        rw [e1] at HBN
        rw [e2] at HCN
        generalize besideZ m a 1 = n at *
        generalize (placeZ m a).1 = I at *
        generalize (placeZ m a).2 = K at *
        generalize (placeZ m n).1 = J at *
        generalize (placeZ m n).2 = N at *
        have hI1 : decide (0 < I) = true := by simp [hI0]
        have hn1 : (n == 0) = false := by simp [hn]
        have hn2 : (n != 0) = true := by simp [hn]
        clear e1 e2
        go_wp2_with (go_at_call 11; fail)
        refine (HA.out w8  HB8.out).mono ?_
        rintro e w9 ⟨rfl, hB9⟩
        have HB9 := hid_mk (HB8.out.trans (hB9.mono HB8.out.size))
        clear hB9 HB8
        go_wp2_with (go_at_call 12; fail)
        refine (HBN.out w9  HB9.out).mono ?_
        rintro e w10 ⟨rfl, hB10⟩
        have HB10 := hid_mk (HB9.out.trans (hB10.mono HB9.out.size))
        clear hB10 HB9
        go_wp2_with (go_at_call 9; fail)
        refine (HCN.out w10  HB10.out).mono ?_
        rintro e w11 ⟨rfl, hB11⟩
        have HB11 := hid_mk (HB10.out.trans (hB11.mono HB10.out.size))
        clear hB11 HB10
        go_wp2_with (go_at_call 13; fail)
        refine (HP.out w11  HB11.out).mono ?_
        rintro e w12 ⟨rfl, hB12⟩
        have HB12 := hid_mk (HB11.out.trans (hB12.mono HB11.out.size))
        clear hB12 HB11
        go_wp2_with (go_at_call 11; fail)
        refine (HA.out w12  HB12.out).mono ?_
        rintro e w13 ⟨rfl, hB13⟩
        have HB13 := hid_mk (HB12.out.trans (hB13.mono HB12.out.size))
        clear hB13 HB12
        go_wp2_with (go_at_call 13; fail)
        refine (HPN.out w13  HB13.out).mono ?_
        rintro e w14 ⟨rfl, hB14⟩
        have HB14 := hid_mk (HB13.out.trans (hB14.mono HB13.out.size))
        clear hB14 HB13
        go_wp2_with (go_at_call 11; fail)
        refine (HA.out w14  HB14.out).mono ?_
        rintro e w15 ⟨rfl, hB15⟩
        have HB15 := hid_mk (HB14.out.trans (hB15.mono HB14.out.size))
        clear hB15 HB14
        go_wp2_with (go_at_call 7; fail)
        refine (HLV.out w15).mono ?_
        rintro e w16 ⟨rfl, hB16⟩
        go_wp2
        go_ret
        exact ⟨rfl, HB2.out.trans ((HB15.out.trans (hB16.mono HB15.out.size)).mono HB2.out.size)⟩
    · have hab' : (a == b) = false := by simp [hab]
      go_upto_region 9 with (go_at_call 9; refine h4.mono ?_; clear h4; rintro e w8 ⟨rfl, hB8⟩; have HB8 := hid_mk (HB7.out.trans (hB8.mono HB7.out.size)); clear hB8)
      clear HB7
      have hms := HIO.out.1 (by trivial)
      clear HIO
      obtain ⟨hI0, hms⟩ := hms
      have HA := hid_mk (fun w' (hw' : Below w2.heap.size w2 w') => HAF.out w' a hw')
      have HP := hid_mk (fun w' (hw' : Below w2.heap.size w2 w') => HPL.out w' a hw')
      have HPN := hid_mk (fun w' (hw' : Below w2.heap.size w2 w') => HPL.out w' (besideZ m a 1) hw')
      have HBN := hid_mk (fun w' (hw' : Below w2.heap.size w2 w') => HBF.out w' (besideZ m a 1) hw')
      have HCN := hid_mk (fun w' (hw' : Below w2.heap.size w2 w') => HCM.out w' a (besideZ m a 1) hw')
      clear HPL HAF HBF HCM
      by_cases hn : besideZ m a 1 = 0
      · rw [hn] at HA HPN
        clear hms HBN HCN
        generalize (placeZ m a).1 = I at *
        generalize (placeZ m a).2 = K at *
        generalize (placeZ m 0).1 = J at *
        generalize (placeZ m 0).2 = N at *
        have hI1 : decide (0 < I) = true := by simp [hI0]
        go_wp2_with (go_at_call 11; fail)
        refine (HA.out w8  HB8.out).mono ?_
        rintro e w9 ⟨rfl, hB9⟩
        have HB9 := hid_mk (HB8.out.trans (hB9.mono HB8.out.size))
        clear hB9 HB8
        go_wp2_with (go_at_call 13; fail)
        refine (HP.out w9  HB9.out).mono ?_
        rintro e w10 ⟨rfl, hB10⟩
        have HB10 := hid_mk (HB9.out.trans (hB10.mono HB9.out.size))
        clear hB10 HB9
        go_wp2_with (go_at_call 11; fail)
        refine (HA.out w10  HB10.out).mono ?_
        rintro e w11 ⟨rfl, hB11⟩
        have HB11 := hid_mk (HB10.out.trans (hB11.mono HB10.out.size))
        clear hB11 HB10
        go_wp2_with (go_at_call 13; fail)
        refine (HPN.out w11  HB11.out).mono ?_
        rintro e w12 ⟨rfl, hB12⟩
        have HB12 := hid_mk (HB11.out.trans (hB12.mono HB11.out.size))
        clear hB12 HB11
        go_wp2_with (go_at_call 11; fail)
        refine (HA.out w12  HB12.out).mono ?_
        rintro e w13 ⟨rfl, hB13⟩
        have HB13 := hid_mk (HB12.out.trans (hB13.mono HB12.out.size))
        clear hB13 HB12
        go_wp2_with (go_at_call 7; fail)
        refine (HLV.out w13).mono ?_
        rintro e w14 ⟨rfl, hB14⟩
        go_wp2
        go_ret
        exact ⟨rfl, HB2.out.trans ((HB13.out.trans (hB14.mono HB13.out.size)).mono HB2.out.size)⟩
      · obtain ⟨e1, e2, e3, e4⟩ := hms hn
        rw [e1] at HBN
        rw [e2] at HCN
        generalize besideZ m a 1 = n at *
        generalize (placeZ m a).1 = I at *
        generalize (placeZ m a).2 = K at *
        generalize (placeZ m n).1 = J at *
        generalize (placeZ m n).2 = N at *
        have hI1 : decide (0 < I) = true := by simp [hI0]
        have hn1 : (n == 0) = false := by simp [hn]
        have hn2 : (n != 0) = true := by simp [hn]
        clear e1 e2
        go_wp2_with (go_at_call 11; fail)
        refine (HA.out w8  HB8.out).mono ?_
        rintro e w9 ⟨rfl, hB9⟩
        have HB9 := hid_mk (HB8.out.trans (hB9.mono HB8.out.size))
        clear hB9 HB8
        go_wp2_with (go_at_call 12; fail)
        refine (HBN.out w9  HB9.out).mono ?_
        rintro e w10 ⟨rfl, hB10⟩
        have HB10 := hid_mk (HB9.out.trans (hB10.mono HB9.out.size))
        clear hB10 HB9
        go_wp2_with (go_at_call 9; fail)
        refine (HCN.out w10  HB10.out).mono ?_
        rintro e w11 ⟨rfl, hB11⟩
        have HB11 := hid_mk (HB10.out.trans (hB11.mono HB10.out.size))
        clear hB11 HB10
        go_wp2_with (go_at_call 13; fail)
        refine (HP.out w11  HB11.out).mono ?_
        rintro e w12 ⟨rfl, hB12⟩
        have HB12 := hid_mk (HB11.out.trans (hB12.mono HB11.out.size))
        clear hB12 HB11
        go_wp2_with (go_at_call 11; fail)
        refine (HA.out w12  HB12.out).mono ?_
        rintro e w13 ⟨rfl, hB13⟩
        have HB13 := hid_mk (HB12.out.trans (hB13.mono HB12.out.size))
        clear hB13 HB12
        go_wp2_with (go_at_call 13; fail)
        refine (HPN.out w13  HB13.out).mono ?_
        rintro e w14 ⟨rfl, hB14⟩
        have HB14 := hid_mk (HB13.out.trans (hB14.mono HB13.out.size))
        clear hB14 HB13
        go_wp2_with (go_at_call 11; fail)
        refine (HA.out w14  HB14.out).mono ?_
        rintro e w15 ⟨rfl, hB15⟩
        have HB15 := hid_mk (HB14.out.trans (hB15.mono HB14.out.size))
        clear hB15 HB14
        go_wp2_with (go_at_call 7; fail)
        refine (HLV.out w15).mono ?_
        rintro e w16 ⟨rfl, hB16⟩
        go_wp2
        go_ret
        exact ⟨rfl, HB2.out.trans ((HB15.out.trans (hB16.mono HB15.out.size)).mono HB2.out.size)⟩

end Go.Proofs.Ytoncgmnccgegmaa.N
