/- slices.Sort of keys: patterns are broken: the walk. -/
import Derived.Test.YtdiljkmlneeboaaSo12
namespace Go.Proofs.Ytdiljkmlneeboaa
open Go.RowKit Go.Sort
set_option maxRecDepth 100000

theorem SW.other {w W W' : World} {g s : Nat} {d : Array Int} (h : SW w g d W) (hk : KeepX s W W') (hs : s = w.heap.size) (hg : g < w.heap.size) : SW w g d W' := by
  have hgW : g < W.heap.size := Nat.lt_of_lt_of_le hg h.keep.size
  have e : W'.heap[g]? = W.heap[g]? := hk.block g hgW (by omega)
  refine ⟨fun j hj => ⟨(World.cell?_of_block e).trans (h.row j hj).1, ?_⟩, hk.os.trans h.keep.os, hk.tape.trans h.keep.tape, hk.output.trans h.keep.output, Nat.le_trans h.keep.size hk.size, fun k hk1 hk2 => ?_⟩
  · have := (h.row j hj).2
    simp only [World.frozen?, e] at this ⊢
    exact this
  · rw [hk.block k (Nat.lt_of_lt_of_le hk1 h.keep.size) (by omega)]
    exact h.keep.block k hk1 hk2

set_option maxHeartbeats 4000000 in
theorem break_any {w : World} {g cap a b : Nat} {d : Array Int} (hd : SW w g d w) (hg : g < w.heap.size) (hab : a + 12 < b) (hb : b ≤ d.size) (hsz : d.size ≤ 1000000) :
    Calls Try.prog 35 #[.slice (some ⟨g, 0, none⟩) d.size cap, .int .i64 (a : Int), .int .i64 (b : Int)] w fun e w' => e = .returned (.tuple #[]) ∧ ∃ d', PermIn a b d d' ∧ SW w g d' w' := by
  obtain ⟨l, hl⟩ : ∃ l, l = b - a := ⟨_, rfl⟩
  have el : IntKind.i64.wrap ((b : Int) - (a : Int)) = (l : Int) := by rw [IntKind.wrap_i64]; omega
  have e8 : decide ((8 : Int) ≤ (l : Int)) = true := decide_eq_true (by omega)
  obtain ⟨M, hM⟩ : ∃ M : Nat, M = 2 ^ Lib.bitLen l := ⟨_, rfl⟩
  have hM2 : M ≤ 2 * l := by rw [hM]; exact bitLen_two l l (Nat.le_refl _) (by omega) (by omega)
  have hM1 : 1 ≤ M := by rw [hM]; exact Nat.two_pow_pos _
  have hNP : ∀ w, Calls Try.prog 45 #[.int .i64 (l : Int)] w fun e w' => e = .returned (.int .u64 (M : Int)) ∧ w' = w := fun w => by rw [hM]; exact nextPow_any (by omega) (by omega) w
  obtain ⟨M', hM'⟩ : ∃ M' : Nat, M' = M - 1 := ⟨_, rfl⟩
  have eM : IntKind.u64.wrap ((M : Int) - 1) = (M' : Int) := by rw [IntKind.wrap_u64]; omega
  have lM : M' < 2 * l := by omega
  obtain ⟨q, hq⟩ : ∃ q : Nat, q = l / 4 := ⟨_, rfl⟩
  obtain ⟨q2, hq2⟩ : ∃ q2 : Nat, q2 = q * 2 := ⟨_, rfl⟩
  obtain ⟨J, hJ⟩ : ∃ J : Nat, J = a + q2 := ⟨_, rfl⟩
  obtain ⟨I, hI⟩ : ∃ I : Nat, I = J - 1 := ⟨_, rfl⟩
  obtain ⟨K, hK⟩ : ∃ K : Nat, K = J + 1 := ⟨_, rfl⟩
  have eq0 : IntKind.i64.wrap ((l : Int) / 4) = (q : Int) := by rw [IntKind.wrap_i64]; omega
  have eq2 : IntKind.i64.wrap ((q : Int) * 2) = (q2 : Int) := by rw [IntKind.wrap_i64]; omega
  have eJ : IntKind.i64.wrap ((a : Int) + (q2 : Int)) = (J : Int) := by rw [IntKind.wrap_i64]; omega
  have eI : IntKind.i64.wrap ((J : Int) - 1) = (I : Int) := by rw [IntKind.wrap_i64]; omega
  have eK : IntKind.i64.wrap ((J : Int) + 1) = (K : Int) := by rw [IntKind.wrap_i64]; omega
  have lI : a ≤ I ∧ I + 2 = K ∧ K < b ∧ l ≤ 1000000 ∧ a + l = b := by omega
  have HD0 : Hid (SW w g d (w.alloc (.cells #[.int .u64 (l : Int)] 74 (0, 0)))) := hd.more hg _
  have HB0 : Hid ((w.alloc (.cells #[.int .u64 (l : Int)] 74 (0, 0))).heap[w.heap.size]? = some (.cells #[.int .u64 (l : Int)] 74 (0, 0))) := heap_alloc_new _ _
  clear hd hl hM hM' hq hq2 hJ hI hK
  obtain ⟨s, hs⟩ : ∃ s, s = w.heap.size := ⟨_, rfl⟩
  have HS := hid_mk hs
  go_enter Try.func35, Try.ntmps35
  go_wp2_with (go_at_call 45; fail)
  refine (hNP _).mono ?_
  rintro e w' ⟨rfl, rfl⟩
  clear hNP
  go_wp2
  go_loopw [9] (fun a9 wq => ∃ (t X : Nat) (dk : Array Int), I ≤ t ∧ t ≤ K + 1 ∧ X < 18446744073709551616 ∧ a9 = .int .i64 (t : Int) ∧ dk.size = d.size ∧ Hid (PermIn a b d dk) ∧ Hid (SW w g dk wq) ∧ Hid (wq.heap[w.heap.size]? = some (.cells #[.int .u64 (X : Int)] 74 (0, 0)))) (fun a9 _ => K + 2 - (intOf a9).toNat)
  case atStart => exact ⟨I, l, d, Nat.le_refl _, by omega, by omega, rfl, rfl, permIn_refl d a b, HD0, HB0⟩
  case round =>
    obtain ⟨t, X, dk, hIt, htK, hX, rfl, hdk, HP, HW, HB⟩ := hrel
    clear HD0 HB0
    by_cases htk : t ≤ K
    · have hd1 : decide ((t : Int) ≤ (K : Int)) = true := decide_eq_true (by omega)
      have hd2 : (t : Int) ≤ (K : Int) := by omega
      have hNX := next_any (w := wr) (s := w.heap.size) hX ⟨HB.out, KeepX.of (Below.refl _ _)⟩
      go_wp2_with (go_at_call 46; fail)
      refine hNX.mono ?_
      rintro e w1 ⟨Y, hY, rfl, hRB⟩
      have HW1 : Hid (SW w g dk w1) := HW.out.other hRB.keep rfl hg
      have HB1 : Hid (w1.heap[w.heap.size]? = some (.cells #[.int .u64 (Y : Int)] 74 (0, 0))) := hRB.cnt
      obtain ⟨O, hO⟩ : ∃ O : Nat, O = Y &&& M' := ⟨_, rfl⟩
      have lO : O ≤ M' := by rw [hO]; exact Nat.and_le_right
      have eAnd : bits .and .u64 (Y : Int) (M' : Int) = (O : Int) := by rw [bits_and_u64_nat _ _ hY (by omega), hO]
      have eO : IntKind.i64.wrap (O : Int) = (O : Int) := by rw [IntKind.wrap_i64]; omega
      obtain ⟨o, ho⟩ : ∃ o : Nat, o = if l ≤ O then O - l else O := ⟨_, rfl⟩
      have lo : o < l := by rw [ho]; split <;> omega
      have HO := hid_mk ho
      clear hNX hRB hO ho HW HB
      obtain ⟨z, hz⟩ : ∃ z, z = a + o := ⟨_, rfl⟩
      have ez : IntKind.i64.wrap ((a : Int) + (o : Int)) = (z : Int) := by rw [IntKind.wrap_i64]; omega
      have lz : z < d.size ∧ a ≤ z ∧ z < b := by omega
      clear hz
      go_upto_if 43 with (fail)
      go_cut [10] (fun s10 wx => s10 = .int .i64 (o : Int) ∧ wx = w1)
      case first =>
        by_cases hlo : l ≤ O
        · have hd3 : decide ((l : Int) ≤ (O : Int)) = true := decide_eq_true (by omega)
          have hd4 : (l : Int) ≤ (O : Int) := by omega
          have e5 : IntKind.i64.wrap ((O : Int) - (l : Int)) = (o : Int) := by rw [IntKind.wrap_i64, HO.out, if_pos hlo]; omega
          go_wp2_with fail
          go_meet
          exact ⟨rfl, rfl⟩
        · have hd3 : decide ((l : Int) ≤ (O : Int)) = false := decide_eq_false (by omega)
          have hd4 : ¬ (l : Int) ≤ (O : Int) := by omega
          have e5 : Hid (O = o) := by rw [Hid, HO.out, if_neg hlo]
          go_wp2_with fail
          go_meet
          exact ⟨by rw [e5.out], rfl⟩
      case rest =>
      obtain ⟨rfl, rfl⟩ := hcut
      clear HO eAnd eO
      have b4 : t < d.size := by omega
      have b5 : z < d.size := lz.1
      have q1 := HW1.out.cell (j := t) (by omega)
      have q2 := HW1.out.cell (j := z) (by omega)
      have q3 : ∀ W, SW w g dk W → (W.setCell ⟨g, t, none⟩ (.int .u32 dk[z]!)).cell? ⟨g, z, none⟩ = some (.int .u32 dk[z]!) := fun W h => by
        have hc := (h.set (i := t) (by omega) dk[z]!).cell (j := z) (by simp; omega)
        by_cases e : z = t
        · rw [e] at hc ⊢
          rwa [getElem!_set_same dk t _ (by omega)] at hc
        · rwa [getElem!_set_other dk t z _ e] at hc
      have q3 := q3 _ HW1.out
      have hf1 := HW1.out.free (j := t) (by omega)
      have hf2 := HW1.out.free (j := z) (by omega)
      have HSW : Hid (SW w g (swp dk t z) ((wc.setCell ⟨g, t, none⟩ (.int .u32 dk[z]!)).setCell ⟨g, z, none⟩ (.int .u32 dk[t]!))) := (HW1.out.set (by omega) _).set (by simp; omega) _
      have HBB : Hid (((wc.setCell ⟨g, t, none⟩ (.int .u32 dk[z]!)).setCell ⟨g, z, none⟩ (.int .u32 dk[t]!)).heap[w.heap.size]? = some (.cells #[.int .u64 (Y : Int)] 74 (0, 0))) := by
        rw [Hid, Below.heap_setCell _ _ _ _ (by simp; omega), Below.heap_setCell _ _ _ _ (by simp; omega)]
        exact HB1.out
      have HSZ : Hid ((swp dk t z).size = d.size) := by rw [Hid, size_swp, hdk]
      have HPP : Hid (PermIn a b d (swp dk t z)) := permIn_trans _ _ _ a b HP.out (swp_permIn dk a b t z (by omega) (by omega) lz.2.1 lz.2.2 (by omega))
      clear HP HW1 HB1
      generalize swp dk t z = D at *
      generalize dk[t]! = x at *
      generalize dk[z]! = y at *
      go_upto_region 10 with (fail)
      go_region
      all_goals go_wp2
      exact ⟨⟨t + 1, Y, D, by omega, by omega, hY, by go_num, HSZ.out, HPP, ((HSW.out).drewN 1 : SW _ _ _ _), HBB⟩, by simp only [intOf]; omega⟩
    · have hd1 : decide ((t : Int) ≤ (K : Int)) = false := decide_eq_false (by omega)
      have hd2 : ¬ (t : Int) ≤ (K : Int) := by omega
      go_wp2
      exact bodyPost_end (v := .tuple #[]) (by simp [results, Try.results35, go_sem]) rfl ⟨rfl, dk, HP.out, HW.out⟩
end Go.Proofs.Ytdiljkmlneeboaa
