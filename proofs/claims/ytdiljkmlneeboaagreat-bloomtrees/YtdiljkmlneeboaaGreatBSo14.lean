/- slices.Sort of keys: the whole. -/
import Derived.Test.YtdiljkmlneeboaaGreatBSo13
import Derived.Test.YtdiljkmlneeboaaGreatBSo10
import Derived.Test.YtdiljkmlneeboaaGreatBSo9
import Derived.Test.YtdiljkmlneeboaaGreatBSo7
namespace Go.Proofs.YtdiljkmlneeboaaGreat.B
open Go.RowKit Go.Sort
set_option maxRecDepth 100000

/-- Who sorts this part has sorted the whole. -/
def Cont (a b : Nat) (d : Array Int) (a' b' : Nat) (dk : Array Int) : Prop := ∀ R, PermIn a' b' dk R → SortedIn ltInt a' b' R → PermIn a b d R ∧ SortedIn ltInt a b R
theorem Cont.perm {a b a' b' : Nat} {d dk d1 : Array Int} (h : Cont a b d a' b' dk) (p : PermIn a' b' dk d1) : Cont a b d a' b' d1 := fun R hp hs => h R (permIn_trans _ _ _ _ _ p hp) hs
theorem Cont.of {a b a' b' a2 b2 : Nat} {d dk d1 : Array Int} (h : Cont a b d a' b' dk) (k : ∀ R, PermIn a2 b2 d1 R → SortedIn ltInt a2 b2 R → PermIn a' b' dk R ∧ SortedIn ltInt a' b' R) : Cont a b d a2 b2 d1 := fun R hp hs => h R (k R hp hs).1 (k R hp hs).2
/-- What pdqsort leaves. -/
def Done (w : World) (g a b : Nat) (d : Array Int) (w' : World) : Prop := ∃ d', PermIn a b d d' ∧ SortedIn ltInt a b d' ∧ SW w g d' w'
theorem Cont.done {w W : World} {g a b a' b' : Nat} {d dk D : Array Int} (h : Cont a b d a' b' dk) (p : PermIn a' b' dk D) (s : SortedIn ltInt a' b' D) (k : SW w g D W) : Done w g a b d W := ⟨D, (h D p s).1, (h D p s).2, k⟩

set_option maxHeartbeats 8000000 in
theorem pdq_any (n : Nat) : ∀ {w : World} {g cap a b lim N : Nat} {d : Array Int}, b - a < n → SW w g d w → g < w.heap.size → d.size = N → a ≤ b → b ≤ N → Sort.Below ltInt a b d → N ≤ 1000000 → lim ≤ 64 →
    Calls Tryz.prog 108 #[.slice (some ⟨g, 0, none⟩) N cap, .int .i64 (a : Int), .int .i64 (b : Int), .int .i64 (lim : Int)] w fun e w' => e = .returned (.tuple #[]) ∧ Done w g a b d w' := by
  induction n with
  | zero => intros; omega
  | succ n IH =>
    intro w g cap a b lim N d hn hd hg hN hab hb hB hsz hlim
    have HIH : Hid (∀ W a2 b2 lim2 d2, SW w g d2 W → d2.size = N → a2 ≤ b2 → b2 ≤ N → b2 - a2 < n → Sort.Below ltInt a2 b2 d2 → lim2 ≤ 64 → Calls Tryz.prog 108 #[.slice (some ⟨g, 0, none⟩) N cap, .int .i64 (a2 : Nat), .int .i64 (b2 : Nat), .int .i64 (lim2 : Nat)] W fun e w' => e = .returned (.tuple #[]) ∧ Done w g a2 b2 d2 w') := fun W a2 b2 lim2 d2 h h1 h2 h3 h4 h5 h6 =>
      (IH h4 h.self (Nat.lt_of_lt_of_le hg h.keep.size) h1 h2 h3 h5 hsz h6).mono fun e w' hh => ⟨hh.1, by
        obtain ⟨d', p, s, k⟩ := hh.2
        exact ⟨d', p, s, h.from k⟩⟩
    have HIN : Hid (∀ W a2 b2 d2, SW w g d2 W → d2.size = N → a2 ≤ N → b2 ≤ N → Calls Tryz.prog 128 #[.slice (some ⟨g, 0, none⟩) N cap, .int .i64 (a2 : Nat), .int .i64 (b2 : Nat)] W fun e w' => e = .returned (.tuple #[]) ∧ SW w g (Sort.insertionSort ltInt d2 a2 b2) w') := fun W a2 b2 d2 h h1 h2 h3 => by
      subst h1
      exact (insertion_any h.self h2 h3 hsz).mono fun e w' hh => ⟨hh.1, h.from hh.2⟩
    have HHP : Hid (∀ W a2 b2 d2, SW w g d2 W → d2.size = N → a2 < b2 → b2 ≤ N → Calls Tryz.prog 129 #[.slice (some ⟨g, 0, none⟩) N cap, .int .i64 (a2 : Nat), .int .i64 (b2 : Nat)] W fun e w' => e = .returned (.tuple #[]) ∧ SW w g (Sort.heapSort ltInt d2 a2 b2) w') := fun W a2 b2 d2 h h1 h2 h3 => by
      subst h1
      exact (heap_any h.self h2 h3 hsz).mono fun e w' hh => ⟨hh.1, h.from hh.2⟩
    have HBR : Hid (∀ W a2 b2 d2, SW w g d2 W → d2.size = N → a2 + 12 < b2 → b2 ≤ N → Calls Tryz.prog 130 #[.slice (some ⟨g, 0, none⟩) N cap, .int .i64 (a2 : Nat), .int .i64 (b2 : Nat)] W fun e w' => e = .returned (.tuple #[]) ∧ ∃ d', PermIn a2 b2 d2 d' ∧ SW w g d' w') := fun W a2 b2 d2 h h1 h2 h3 => by
      subst h1
      exact (break_any h.self (Nat.lt_of_lt_of_le hg h.keep.size) h2 h3 hsz).mono fun e w' hh => ⟨hh.1, by
        obtain ⟨d', p, k⟩ := hh.2
        exact ⟨d', p, h.from k⟩⟩
    have HCH : Hid (∀ W a2 b2 d2, SW w g d2 W → d2.size = N → a2 + 12 < b2 → b2 ≤ N → Calls Tryz.prog 131 #[.slice (some ⟨g, 0, none⟩) N cap, .int .i64 (a2 : Nat), .int .i64 (b2 : Nat)] W fun e w' => (∃ (p : Nat) (h : Int), e = .returned (.tuple #[.int .i64 (p : Int), .int .i64 h]) ∧ a2 ≤ p ∧ p < b2) ∧ SW w g d2 w') := fun W a2 b2 d2 h h1 h2 h3 => by
      subst h1
      refine (choose_any h.self (Nat.lt_of_lt_of_le hg h.keep.size) h2 h3 hsz).mono fun e w' hh => ⟨?_, h.from hh.2⟩
      obtain ⟨s, hs⟩ := hh.1
      have := choosePivot_holds ltInt d2 a2 b2 (by omega)
      exact ⟨_, _, hs, this.1, this.2⟩
    have HRV : Hid (∀ W a2 b2 d2, SW w g d2 W → d2.size = N → a2 < b2 → b2 ≤ N → Calls Tryz.prog 132 #[.slice (some ⟨g, 0, none⟩) N cap, .int .i64 (a2 : Nat), .int .i64 (b2 : Nat)] W fun e w' => e = .returned (.tuple #[]) ∧ SW w g (Sort.reverseRange d2 a2 b2) w') := fun W a2 b2 d2 h h1 h2 h3 => by
      subst h1
      exact (reverse_any h.self h2 h3 hsz).mono fun e w' hh => ⟨hh.1, h.from hh.2⟩
    have HPI : Hid (∀ W a2 b2 d2, SW w g d2 W → d2.size = N → a2 < b2 → b2 ≤ N → Calls Tryz.prog 133 #[.slice (some ⟨g, 0, none⟩) N cap, .int .i64 (a2 : Nat), .int .i64 (b2 : Nat)] W fun e w' => e = .returned (.bool (Sort.partialInsertionSort ltInt d2 a2 b2).2) ∧ SW w g (Sort.partialInsertionSort ltInt d2 a2 b2).1 w') := fun W a2 b2 d2 h h1 h2 h3 => by
      subst h1
      exact (partial_any h.self h2 h3 hsz).mono fun e w' hh => ⟨hh.1, h.from hh.2⟩
    have HPE : Hid (∀ W a2 b2 pv d2, SW w g d2 W → d2.size = N → a2 < b2 → b2 ≤ N → pv < N → Calls Tryz.prog 135 #[.slice (some ⟨g, 0, none⟩) N cap, .int .i64 (a2 : Nat), .int .i64 (b2 : Nat), .int .i64 (pv : Nat)] W fun e w' => e = .returned (.int .i64 ((Sort.partitionEqual ltInt d2 a2 b2 pv).1 : Int)) ∧ SW w g (Sort.partitionEqual ltInt d2 a2 b2 pv).2 w') := fun W a2 b2 pv d2 h h1 h2 h3 h4 => by
      subst h1
      exact (partEq_any h.self h2 h3 h4 hsz).mono fun e w' hh => ⟨hh.1, h.from hh.2⟩
    have HPT : Hid (∀ W a2 b2 pv d2, SW w g d2 W → d2.size = N → a2 < b2 → b2 ≤ N → pv < N → Calls Tryz.prog 136 #[.slice (some ⟨g, 0, none⟩) N cap, .int .i64 (a2 : Nat), .int .i64 (b2 : Nat), .int .i64 (pv : Nat)] W fun e w' => e = .returned (.tuple #[.int .i64 ((Sort.partition ltInt d2 a2 b2 pv).1 : Int), .bool (Sort.partition ltInt d2 a2 b2 pv).2.1]) ∧ SW w g (Sort.partition ltInt d2 a2 b2 pv).2.2 w') := fun W a2 b2 pv d2 h h1 h2 h3 h4 => by
      subst h1
      exact (part_any h.self h2 h3 h4 hsz).mono fun e w' hh => ⟨hh.1, h.from hh.2⟩
    have HD := hid_mk hd
    have HB := hid_mk hB
    have HC : Hid (Cont a b d a b d) := fun R hp hs => ⟨hp, hs⟩
    have HSZ := hid_mk hN
    clear hd hB IH hN
    go_enter Tryz.func108, Tryz.ntmps108
    go_wp2
    go_loopw [1, 2, 3, 8, 9] (fun a1 a2 a3 a8 a9 wq => ∃ (i j m : Nat) (wb wp : Bool) (dk : Array Int), i ≤ j ∧ j ≤ N ∧ j - i ≤ b - a ∧ m ≤ 64 ∧ a1 = .int .i64 (i : Int) ∧ a2 = .int .i64 (j : Int) ∧ a3 = .int .i64 (m : Int) ∧ a8 = .bool wb ∧ a9 = .bool wp ∧ Hid (dk.size = N) ∧ Hid (Sort.Below ltInt i j dk) ∧ Hid (Cont a b d i j dk) ∧ Hid (SW w g dk wq)) (fun a1 a2 _ _ _ _ => (intOf a2).toNat - (intOf a1).toNat)
    case atStart => exact ⟨a, b, lim, true, true, d, hab, hb, Nat.le_refl _, hlim, rfl, rfl, rfl, rfl, rfl, HSZ, HB, HC, HD⟩
    case round =>
      obtain ⟨i, j, m, wb, wp, dk, hij, hjN, hjb, hm, rfl, rfl, rfl, rfl, rfl, HSK, HBK, HCK, HW⟩ := hrel
      clear HSZ HB HC HD
      obtain ⟨L, hL⟩ : ∃ L, L = j - i := ⟨_, rfl⟩
      have eL : IntKind.i64.wrap ((j : Int) - (i : Int)) = (L : Int) := by rw [IntKind.wrap_i64]; omega
      by_cases h12 : L ≤ 12
      · have hd1 : decide ((L : Int) ≤ 12) = true := decide_eq_true (by omega)
        have hd2 : (L : Int) ≤ 12 := by omega
        have hc := HIN.out wr i j dk HW.out HSK.out (by omega) hjN
        have hp := insertionSort_holds swo_ltInt dk i j hij (by rw [HSK.out]; exact hjN)
        have HF : Hid (∀ w', SW w g (Sort.insertionSort ltInt dk i j) w' → Done w g a b d w') := fun w' h => HCK.out.done hp.1 hp.2 h
        clear hp hL HIH HIN HHP HBR HCH HRV HPI HPE HPT
        generalize Sort.insertionSort ltInt dk i j = D at *
        go_wp2_with (go_at_call 128; fail)
        refine hc.mono ?_
        rintro e w1 ⟨rfl, hS⟩
        have HX := hid_mk (HF.out w1 hS)
        clear hc hS
        go_wp2
        exact bodyPost_ret (v := .tuple #[]) (by simp [results, Tryz.results108, go_sem]) rfl ⟨rfl, HX.out⟩
      have hd1 : decide ((L : Int) ≤ 12) = false := decide_eq_false (by omega)
      have hd2 : ¬ (L : Int) ≤ 12 := by omega
      by_cases hm0 : m = 0
      · have hd3 : ((m : Int) == 0) = true := by rw [beq_iff_eq]; omega
        have hc := HHP.out wr i j dk HW.out HSK.out (by omega) hjN
        have hp := heapSort_holds swo_ltInt dk i j hij (by rw [HSK.out]; exact hjN)
        have HF : Hid (∀ w', SW w g (Sort.heapSort ltInt dk i j) w' → Done w g a b d w') := fun w' h => HCK.out.done hp.1 hp.2 h
        clear hp hL HIH HIN HHP HBR HCH HRV HPI HPE HPT
        generalize Sort.heapSort ltInt dk i j = D at *
        subst hm0
        go_wp2_with (go_at_call 129; fail)
        refine hc.mono ?_
        rintro e w1 ⟨rfl, hS⟩
        have HX := hid_mk (HF.out w1 hS)
        clear hc hS
        go_wp2
        exact bodyPost_ret (v := .tuple #[]) (by simp [results, Tryz.results108, go_sem]) rfl ⟨rfl, HX.out⟩
      have hd3 : ((m : Int) == 0) = false := by simp; omega
      have hm1 : ¬ (m : Int) = 0 := by omega
      have hLij : i + 12 < j := by omega
      have HL := hid_mk hL
      clear hL
      go_upto_if 35 with (fail)
      go_cut [3] (fun s3 wx => ∃ (m1 : Nat) (d1 : Array Int), m1 ≤ 64 ∧ s3 = .int .i64 (m1 : Int) ∧ Hid (PermIn i j dk d1) ∧ Hid (SW w g d1 wx))
      case first =>
        cases wb with
        | true =>
          go_wp2_with fail
          go_meet
          exact ⟨m, dk, hm, rfl, permIn_refl dk i j, HW⟩
        | false =>
          have hc := HBR.out wr i j dk HW.out HSK.out hLij hjN
          obtain ⟨m', hm'⟩ : ∃ m', m' = m - 1 := ⟨_, rfl⟩
          have em : IntKind.i64.wrap ((m : Int) - 1) = (m' : Int) := by rw [IntKind.wrap_i64]; omega
          have hm2 : m' ≤ 64 := by omega
          clear hm'
          go_wp2_with (go_at_call 130; fail)
          refine hc.mono ?_
          rintro e w1 ⟨rfl, d1, hp1, hS1⟩
          have HP1 := hid_mk hp1
          have HS1 := hid_mk hS1
          clear hc hp1 hS1
          go_wp2_with fail
          go_meet
          exact ⟨m', d1, hm2, rfl, HP1, HS1⟩
      case rest =>
      obtain ⟨m1, d1, hm1', rfl, HP1, HS1⟩ := hcut
      have HSK1 : Hid (d1.size = N) := by rw [Hid, HP1.out.1]; exact HSK.out
      have HBK1 : Hid (Sort.Below ltInt i j d1) := HBK.out.perm (by rw [HSK.out]; exact hjN) HP1.out
      have HCK1 : Hid (Cont a b d i j d1) := HCK.out.perm HP1.out
      clear HW HSK HBK HCK HP1 hd3 hm1 hm0
      have hc := HCH.out wc i j d1 HS1.out HSK1.out hLij hjN
      go_wp2_with (go_at_call 131; fail)
      refine hc.mono ?_
      rintro e w2 ⟨⟨p, h, rfl, hp1, hp2⟩, hS2⟩
      have HS2 := hid_mk hS2
      clear hc hS2 HS1
      go_upto_if 50 with (fail)
      go_cut [11, 12] (fun s11 s12 wx => ∃ (pv : Nat) (h2 : Int) (d2 : Array Int), i ≤ pv ∧ pv < j ∧ s11 = .int .i64 (pv : Int) ∧ s12 = .int .i64 h2 ∧ Hid (PermIn i j d1 d2) ∧ Hid (SW w g d2 wx))
      case first =>
        by_cases hh : h = 2
        · subst hh
          have hc := HRV.out w2 i j d1 HS2.out HSK1.out (by omega) hjN
          have HPR : Hid (PermIn i j d1 (Sort.reverseRange d1 i j)) := reverseRange_holds d1 i j hij (by rw [HSK1.out]; exact hjN)
          obtain ⟨j', hj'⟩ : ∃ j', j' = j - 1 := ⟨_, rfl⟩
          have e1 : IntKind.i64.wrap ((j : Int) - 1) = (j' : Int) := by rw [IntKind.wrap_i64]; omega
          obtain ⟨p', hp'⟩ : ∃ p', p' = p - i := ⟨_, rfl⟩
          have e2 : IntKind.i64.wrap ((p : Int) - (i : Int)) = (p' : Int) := by rw [IntKind.wrap_i64]; omega
          obtain ⟨pv, hpv⟩ : ∃ pv, pv = j' - p' := ⟨_, rfl⟩
          have e3 : IntKind.i64.wrap ((j' : Int) - (p' : Int)) = (pv : Int) := by rw [IntKind.wrap_i64]; omega
          have hpr : i ≤ pv ∧ pv < j := by omega
          clear hj' hp' hpv
          generalize Sort.reverseRange d1 i j = D at *
          go_wp2_with (go_at_call 132; fail)
          refine hc.mono ?_
          rintro e w3 ⟨rfl, hS3⟩
          have HS3 := hid_mk hS3
          clear hc hS3
          go_wp2_with fail
          go_meet
          exact ⟨pv, 1, D, hpr.1, hpr.2, rfl, rfl, HPR, HS3⟩
        · have hd4 : (h == 2) = false := by simp; omega
          go_wp2_with fail
          go_meet
          exact ⟨p, h, d1, hp1, hp2, rfl, rfl, permIn_refl d1 i j, HS2⟩
      case rest =>
      obtain ⟨pv, h2, d2, hq1, hq2, rfl, rfl, HP2, HS3⟩ := hcut
      have HSK2 : Hid (d2.size = N) := by rw [Hid, HP2.out.1]; exact HSK1.out
      have HBK2 : Hid (Sort.Below ltInt i j d2) := HBK1.out.perm (by rw [HSK1.out]; exact hjN) HP2.out
      have HCK2 : Hid (Cont a b d i j d2) := HCK1.out.perm HP2.out
      clear HS2 HSK1 HBK1 HCK1 HP2 hp1 hp2
      go_upto_region 15 with (fail)
      go_cut [68] (fun s68 wx => ∃ c : Bool, s68 = .bool c ∧ wx = wc)
      case first =>
        by_cases hh : h2 = 1
        · have hd4 : (h2 == 1) = true := by simp [hh]
          cases wb <;> cases wp <;> (go_wp2_with fail; go_meet; exact ⟨_, rfl, rfl⟩)
        · have hd4 : (h2 == 1) = false := by simp; omega
          cases wb <;> cases wp <;> (go_wp2_with fail; go_meet; exact ⟨_, rfl, rfl⟩)
      case rest =>
      obtain ⟨c, rfl, rfl⟩ := hcut
      go_upto_if 68 with (fail)
      go_cut [] (fun wx => ∃ d3, Hid (PermIn i j d2 d3) ∧ Hid (SW w g d3 wx))
      case first =>
        cases c with
        | false =>
          go_wp2_with fail
          go_meet
          exact ⟨d2, permIn_refl _ _ _, HS3⟩
        | true =>
          have hc := HPI.out wc i j d2 HS3.out HSK2.out (by omega) hjN
          have hp := partialInsertionSort_holds swo_ltInt d2 i j (by omega) (by rw [HSK2.out]; exact hjN) HBK2.out
          generalize Sort.partialInsertionSort ltInt d2 i j = P at *
          obtain ⟨D, z⟩ := P
          dsimp only at *
          have HP := hid_mk hp
          clear hp
          go_wp2_with (go_at_call 133; fail)
          refine hc.mono ?_
          rintro e w4 ⟨rfl, hS4⟩
          have HS4 := hid_mk hS4
          clear hc hS4
          cases z with
          | true =>
            have HX : Hid (Done w g a b d w4) := HCK2.out.done HP.out.1 (HP.out.2 rfl) HS4.out
            go_wp2
            exact bodyPost_ret (v := .tuple #[]) (by simp [results, Tryz.results108, go_sem]) rfl ⟨rfl, HX.out⟩
          | false =>
            go_wp2_with fail
            go_meet
            exact ⟨D, HP.out.1, HS4⟩
      case rest =>
      obtain ⟨d3, HP3, HS4⟩ := hcut
      have HSK3 : Hid (d3.size = N) := by rw [Hid, HP3.out.1]; exact HSK2.out
      have HBK3 : Hid (Sort.Below ltInt i j d3) := HBK2.out.perm (by rw [HSK2.out]; exact hjN) HP3.out
      have HCK3 : Hid (Cont a b d i j d3) := HCK2.out.perm HP3.out
      clear HS3 HSK2 HBK2 HCK2 HP3
      go_upto_region 17 with (fail)
      go_cut [87] (fun s87 wx => s87 = .bool (decide (0 < i ∧ ¬ d3[i - 1]! < d3[pv]!)) ∧ Hid (SW w g d3 wx))
      case first =>
        by_cases hi0 : 0 < i
        · have hd5 : decide ((0 : Int) < (i : Int)) = true := decide_eq_true (by omega)
          have hd6 : (0 : Int) < (i : Int) := by omega
          have HZ : Hid (decide (0 < i ∧ ¬ d3[i - 1]! < d3[pv]!) = !decide (d3[i - 1]! < d3[pv]!)) := by
            rw [Hid]
            by_cases h : d3[i - 1]! < d3[pv]!
            · rw [decide_eq_true h, decide_eq_false (fun hh => hh.2 h)]; rfl
            · rw [decide_eq_false h, decide_eq_true ⟨hi0, h⟩]; rfl
          generalize hi' : i - 1 = i' at *
          have ei : IntKind.i64.wrap ((i : Int) - 1) = (i' : Int) := by rw [IntKind.wrap_i64]; omega
          have b5 : i' < N := by omega
          have b6 : pv < N := by omega
          have q1 := HS4.out.cell (j := i') (by rw [HSK3.out]; omega)
          have q2 := HS4.out.cell (j := pv) (by rw [HSK3.out]; omega)
          have HLS : Hid (∀ W, Calls Tryz.prog 134 #[.int .u32 d3[i']!, .int .u32 d3[pv]!] W fun e w' => e = .returned (.bool (decide (d3[i']! < d3[pv]!))) ∧ w' = W) := fun W => less_any _ _ W
          have gd : wc.drew.cell? ⟨g, i', none⟩ = some (.int .u32 d3[i']!) ∧ wc.drew.cell? ⟨g, pv, none⟩ = some (.int .u32 d3[pv]!) := ⟨q1, q2⟩
          clear hi'
          generalize d3[i']! = x at *
          generalize d3[pv]! = y at *
          go_region_held3 (fun w' => w'.cell? ⟨g, i', none⟩ = some (.int .u32 x) ∧ w'.cell? ⟨g, pv, none⟩ = some (.int .u32 y))
            (first | with_reducible exact gd)
            (first | (go_at_call 134; with_reducible refine (HLS.out _).mono ?_; rintro e wa ⟨rfl, rfl⟩))
          go_wp2_with fail
          go_meet
          exact ⟨by rw [HZ.out], HS4.out.drewN 1⟩
        · have hd5 : decide ((0 : Int) < (i : Int)) = false := decide_eq_false (by omega)
          have HZ : Hid (decide (0 < i ∧ ¬ d3[i - 1]! < d3[pv]!) = false) := decide_eq_false fun h => hi0 h.1
          go_quiet (fail)
          go_wp2_with fail
          go_meet
          exact ⟨by rw [HZ.out], HS4.out.drewN _⟩
      case rest =>
      obtain ⟨rfl, HS5⟩ := hcut
      clear HS4
      have hsz3 : j ≤ d3.size := by rw [HSK3.out]; exact hjN
      by_cases hst : 0 < i ∧ ¬ d3[i - 1]! < d3[pv]!
      · have hd5 : decide (0 < i ∧ ¬ d3[i - 1]! < d3[pv]!) = true := decide_eq_true hst
        have hc := HPE.out wc i j pv d3 HS5.out HSK3.out (by omega) hjN (by omega)
        obtain ⟨P, hP⟩ : ∃ P, P = Sort.partitionEqual ltInt d3 i j pv := ⟨_, rfl⟩
        rw [← hP] at hc
        obtain ⟨mid, d4⟩ := P
        obtain ⟨k1, k2, k3, k4, k5⟩ := round_eq swo_ltInt (partitionEqual_holds ltInt) hst.1 hq1 hq2 hsz3 HBK3.out (decide_eq_false hst.2) hP.symm
        have HCN : Hid (Cont a b d mid j d4) := HCK3.out.of k5
        have HBN := hid_mk k4
        have HSN : Hid (d4.size = N) := by rw [Hid, k3]; exact HSK3.out
        dsimp only at hc
        rw [hd5]
        clear hst hd5 hP k3 k4 k5 HIH HIN HHP HBR HCH HRV HPI HPE HPT HSK3 HBK3 HCK3 hsz3
        go_wp2_with (go_at_call 135; fail)
        refine hc.mono ?_
        rintro e w6 ⟨rfl, hS6⟩
        have HS6 := hid_mk hS6
        clear hc hS6 HS5
        go_wp2
        exact ⟨⟨mid, j, m1, wb, wp, d4, k2, hjN, by omega, hm1', rfl, rfl, rfl, rfl, rfl, HSN, HBN, HCN, HS6⟩, by simp only [intOf]; omega⟩
      have hd5 : decide (0 < i ∧ ¬ d3[i - 1]! < d3[pv]!) = false := decide_eq_false hst
      have hc := HPT.out wc i j pv d3 HS5.out HSK3.out (by omega) hjN (by omega)
      obtain ⟨P, hP⟩ : ∃ P, P = Sort.partition ltInt d3 i j pv := ⟨_, rfl⟩
      rw [← hP] at hc
      obtain ⟨mid, ap, d4⟩ := P
      obtain ⟨k1, k2, k3, k4, k5, kL, kR⟩ := round_part swo_ltInt (partition_holds ltInt) hq1 hq2 hsz3 HBK3.out hP.symm
      have HSN : Hid (d4.size = N) := by rw [Hid, k3]; exact HSK3.out
      have HB4 := hid_mk k4
      have HB5 := hid_mk k5
      have HKL := hid_mk kL
      have HKR := hid_mk kR
      dsimp only at hc
      rw [hd5]
      obtain ⟨ll, hll⟩ : ∃ ll, ll = mid - i := ⟨_, rfl⟩
      obtain ⟨rl, hrl⟩ : ∃ rl, rl = j - mid := ⟨_, rfl⟩
      obtain ⟨th, hth⟩ : ∃ th, th = L / 8 := ⟨_, rfl⟩
      obtain ⟨md, hmd⟩ : ∃ md, md = mid + 1 := ⟨_, rfl⟩
      have hLN : L ≤ 1000000 := by have := HL.out; omega
      have e1 : IntKind.i64.wrap ((mid : Int) - (i : Int)) = (ll : Int) := by rw [IntKind.wrap_i64]; omega
      have e2 : IntKind.i64.wrap ((j : Int) - (mid : Int)) = (rl : Int) := by rw [IntKind.wrap_i64]; omega
      have e3 : IntKind.i64.wrap ((L : Int) / 8) = (th : Int) := by rw [IntKind.wrap_i64]; omega
      have e4 : IntKind.i64.wrap ((mid : Int) + 1) = (md : Int) := by rw [IntKind.wrap_i64]; omega
      clear hst hd5 hP k3 k4 k5 kL kR HIN HHP HBR HCH HRV HPI HPE HPT HSK3 HBK3 hsz3
      rw [← hmd] at HB5 HKL HKR
      by_cases hlr : ll < rl
      · have hd6 : decide ((ll : Int) < (rl : Int)) = true := decide_eq_true (by omega)
        have hd7 : (ll : Int) < (rl : Int) := by omega
        have HCL : Hid (∀ W, SW w g d4 W → _) := fun W h => HIH.out W i mid m1 d4 h HSN.out k1 (by omega) (by omega) HB4.out hm1'
        have HMD : Hid (md ≤ j ∧ j - md < j - i ∧ j - md ≤ b - a) := by rw [Hid]; omega
        clear HIH HB4 HB5 HKR hll hrl hth hmd hlr
        obtain ⟨bal, hbal⟩ : ∃ bal : Bool, bal = decide ((th : Int) ≤ (ll : Int)) := ⟨_, rfl⟩
        have hbal2 : decide ((th : Int) ≤ (ll : Int)) = bal := hbal.symm
        clear hbal
        go_wp2_with (go_at_call 136; fail)
        refine hc.mono ?_
        rintro e w6 ⟨rfl, hS6⟩
        have hcl := HCL.out w6 hS6
        clear hc hS6 HS5 HCL
        go_wp2_with (go_at_call 108; fail)
        refine hcl.mono ?_
        rintro e w7 ⟨rfl, dL, p7, s7, hS7⟩
        have HS7 := hid_mk hS7
        have h8 := HKL.out dL p7 s7
        have HBL := hid_mk h8.1
        have HCN : Hid (Cont a b d md j dL) := HCK3.out.of h8.2
        have HSL : Hid (dL.size = N) := by rw [Hid, p7.1]; exact HSN.out
        clear hcl hS7 h8 p7 s7 HKL HCK3 HSN
        go_wp2
        exact ⟨⟨md, j, m1, _, ap, dL, HMD.out.1, hjN, HMD.out.2.2, hm1', rfl, rfl, rfl, rfl, rfl, HSL, HBL, HCN, HS7⟩, by have := HMD.out; simp only [intOf]; omega⟩
      · have hd6 : decide ((ll : Int) < (rl : Int)) = false := decide_eq_false (by omega)
        have hd7 : ¬ (ll : Int) < (rl : Int) := by omega
        have HCL : Hid (∀ W, SW w g d4 W → _) := fun W h => HIH.out W md j m1 d4 h HSN.out (by omega) hjN (by omega) HB5.out hm1'
        have HMD : Hid (i ≤ mid ∧ mid - i < j - i ∧ mid - i ≤ b - a ∧ mid ≤ N) := by rw [Hid]; omega
        clear HIH HB4 HB5 HKL hll hrl hth hmd hlr
        obtain ⟨bal, hbal⟩ : ∃ bal : Bool, bal = decide ((th : Int) ≤ (rl : Int)) := ⟨_, rfl⟩
        have hbal2 : decide ((th : Int) ≤ (rl : Int)) = bal := hbal.symm
        clear hbal
        go_wp2_with (go_at_call 136; fail)
        refine hc.mono ?_
        rintro e w6 ⟨rfl, hS6⟩
        have hcl := HCL.out w6 hS6
        clear hc hS6 HS5 HCL
        go_wp2_with (go_at_call 108; fail)
        refine hcl.mono ?_
        rintro e w7 ⟨rfl, dL, p7, s7, hS7⟩
        have HS7 := hid_mk hS7
        have h8 := HKR.out dL p7 s7
        have HBL := hid_mk h8.1
        have HCN : Hid (Cont a b d i mid dL) := HCK3.out.of h8.2
        have HSL : Hid (dL.size = N) := by rw [Hid, p7.1]; exact HSN.out
        clear hcl hS7 h8 p7 s7 HKR HCK3 HSN
        go_wp2
        exact ⟨⟨i, mid, m1, _, ap, dL, HMD.out.1, HMD.out.2.2.2, HMD.out.2.2.1, hm1', rfl, rfl, rfl, rfl, rfl, HSL, HBL, HCN, HS7⟩, by have := HMD.out; simp only [intOf]; omega⟩

theorem sort_keys : SortC := by
  intro g cap zs w hH hg hcap hz
  obtain ⟨N, hN⟩ : ∃ N, N = zs.length := ⟨_, rfl⟩
  have hd : SW w g zs.toArray w := ⟨hH, KeepX.of (Below.refl _ _)⟩
  have h2 : Calls Tryz.prog 109 #[.int .u64 (N : Int)] w _ := Any.bits_Len Tryz.laysLen (N : Int) w (by omega) (by omega)
  rw [Int.toNat_natCast] at h2
  have hk : Lib.bitLen N ≤ 64 := by
    rcases Nat.eq_zero_or_pos N with h | h
    · rw [h]; decide
    · have h1 := bitLen_two N N (Nat.le_refl _) h (by omega)
      rcases Nat.lt_or_ge 64 (Lib.bitLen N) with h3 | h3
      · have := Nat.pow_le_pow_right (n := 2) (by decide) (Nat.le_of_lt h3)
        have e : (2 : Nat) ^ 64 = 18446744073709551616 := by decide
        omega
      · exact h3
  have h1 := pdq_any (N + 1) (cap := cap) (a := 0) (b := N) (lim := Lib.bitLen N) (N := N) (by omega) hd hg (by simp [hN]) (Nat.zero_le _) (Nat.le_refl _) (Or.inl rfl) (by omega) hk
  have HF : Hid (∀ w', Done w g 0 N zs.toArray w' → ∃ ys : List Int, ys.Perm zs ∧ ys.Pairwise (· ≤ ·) ∧ Holds (Value.int .u32) w' g 0 ys.toArray ∧ KeepX g w w') := by
    rintro w' ⟨d', p, s, k⟩
    refine ⟨d'.toList, ?_, ?_, by simpa using k.row, k.keep⟩
    · have := p.2.2
      have e1 : d'.size = N := by rw [p.1]; simp [hN]
      have e3 : (d'.extract 0 N).toList = d'.toList := by rw [← e1]; simp
      have e4 : (zs.toArray.extract 0 N).toList = zs := by rw [hN]; simp
      rwa [e3, e4] at this
    · rw [List.pairwise_iff_getElem]
      intro i j hi hj hij
      have e1 : d'.size = N := by rw [p.1]; simp [hN]
      have := s i j (Nat.zero_le _) hij (by simpa [e1] using hj)
      simp only [ltInt, decide_eq_false_iff_not] at this
      simp only [Array.length_toList] at hi hj
      rw [getElem!_pos d' i hi, getElem!_pos d' j hj] at this
      simp only [Array.getElem_toList]
      omega
  have eN : IntKind.u64.wrap (N : Int) = (N : Int) := by rw [IntKind.wrap_u64]; omega
  rw [← hN]
  clear hN hH hd hcap
  go_enter Tryz.func70, Tryz.ntmps70
  go_wp2_with (go_at_call 109; fail)
  refine h2.mono ?_
  rintro e w' ⟨rfl, rfl⟩
  clear h2
  go_wp2_with (go_at_call 108; fail)
  refine h1.mono ?_
  rintro e w1 ⟨rfl, hD⟩
  have HX := hid_mk (HF.out w1 hD)
  clear h1 hD HF
  go_wp2
  exact bodyPost_end (v := .tuple #[]) (by simp [results, Tryz.results70, go_sem]) rfl ⟨rfl, HX.out⟩
end Go.Proofs.YtdiljkmlneeboaaGreat.B
