/- EpochBusy: all slots are held, one is freed. -/
import Derived.Test.YtlnpiadjnjdfiaaELv
namespace Go.Proofs.Ytlnpiadjnjdfiaa.E
open Go.RowKit
set_option maxRecDepth 100000

/-- The first i slots hold 1, 2 .. -/
def busyS (i : Nat) : List Int := (List.range 8).map fun j => if j < i then (j : Int) + 1 else 0
theorem busyS_len (i : Nat) : (busyS i).length = 8 := by simp [busyS]
theorem busyS_get (i j : Nat) (hj : j < 8) : (busyS i)[j]? = some (if j < i then (j : Int) + 1 else 0) := by
  simp [busyS, hj]
theorem busyS_set (i : Nat) (hi : i < 8) : (busyS i).set i ((i : Int) + 1) = busyS (i + 1) := by
  apply List.ext_getElem?
  intro j
  rw [List.getElem?_set]
  by_cases hj : j < 8
  · rw [busyS_get _ _ hj, busyS_get _ _ hj, busyS_len, if_pos hi]
    by_cases e : i = j
    · subst e
      simp
    · rw [if_neg e]
      by_cases h1 : j < i
      · rw [if_pos h1, if_pos (by omega)]
      · rw [if_neg h1, if_neg (by omega)]
  · have h1 : (busyS i)[j]? = none := by rw [List.getElem?_eq_none_iff, busyS_len]; omega
    have h2 : (busyS (i + 1))[j]? = none := by rw [List.getElem?_eq_none_iff, busyS_len]; omega
    rw [h1, h2, if_neg (by omega)]
theorem busy_free (n i : Nat) (hi : i < n) (hn : n ≤ 8) : FreeAt n (busyS i) i := by
  refine ⟨hi, by rw [busyS_get _ _ (by omega)]; simp, fun j s hj hs => ?_⟩
  rw [busyS_get _ _ (by omega), if_pos hj] at hs
  have := Option.some.inj hs
  omega
theorem busy_full (n : Nat) (hn : n ≤ 8) : NoFree n (busyS n) := by
  intro j s hj hs
  rw [busyS_get _ _ (by omega), if_pos hj] at hs
  have := Option.some.inj hs
  omega
/-- The least of many. -/
theorem least_pos (l : List Int) (p : Int × Bool) (h : ∀ e ∈ l, 0 < e) (h2 : p.2 = true) (hp : ∀ e ∈ l, p.1 ≤ e) : l.foldl leS p = p := by
  induction l with
  | nil => rfl
  | cons e r ih =>
    rw [List.foldl_cons]
    have h1 : leS p e = p := by
      unfold leS
      rw [if_neg (by
        rintro ⟨_, h | h⟩
        · rw [h2] at h; cases h
        · have := hp e (List.mem_cons_self ..); omega)]
    rw [h1]
    exact ih (fun e he => h e (List.mem_cons_of_mem _ he)) (fun e he => hp e (List.mem_cons_of_mem _ he))
theorem busy_least (n : Nat) (h1 : 1 ≤ n) (hn : n ≤ 8) : leastZ ((busyS n).take n) = (1, true) := by
  have : ∀ n : Fin 9, 1 ≤ n.val → leastZ ((busyS n.val).take n.val) = (1, true) := by decide
  exact this ⟨n, by omega⟩ h1
/-- One is freed. -/
theorem busy_freed (n k : Nat) (hk : k < n) (hn : n ≤ 8) : FreeAt n ((busyS n).set k 0) k := by
  refine ⟨hk, by rw [List.getElem?_set_self (by rw [busyS_len]; omega)], fun j s hj hs => ?_⟩
  rw [List.getElem?_set_ne (by omega)] at hs
  exact busy_full n hn j s (by omega) hs
theorem pinZ_at (n : Nat) (S : List Int) (k : Nat) (hk : k < n) (s : Int) (hs : S[k]? = some s) : pinZ n S (k : Int) = s := by
  unfold pinZ
  rw [if_pos (show inP n k = true from decide_eq_true ⟨by omega, by omega⟩), Int.toNat_natCast, List.getD_eq_getElem?_getD, hs]
  rfl

set_option maxHeartbeats 4000000 in
theorem busy_walk (W : World) {a c : Int} (ha : (Lit.int .u64 a).wf = true) (hc : (Lit.int .u64 c).wf = true) : Calls Try.prog 5 #[.int .u64 a, .int .u64 c] W fun e w' => e = .returned (.bool true) ∧ Below W.heap.size W w' := by
  have hmax : IntKind.u64.max = 18446744073709551615 := rfl
  have hmin : IntKind.u64.min = 0 := rfl
  simp only [Lit.wf, Bool.and_eq_true, decide_eq_true_eq, hmax, hmin] at ha hc
  obtain ⟨m, hm⟩ : ∃ m : Nat, (m : Int) = a % 8 := ⟨(a % 8).toNat, by omega⟩
  have hm8 : m < 8 := by omega
  obtain ⟨n, hn⟩ : ∃ n, n = 1 + m := ⟨_, rfl⟩
  have e1 : (1 : Int) + a % 8 = (n : Int) := by omega
  have hn1 : 1 ≤ n := by omega
  have hn8 : n ≤ 8 := by omega
  obtain ⟨k, hk⟩ : ∃ k : Nat, (k : Int) = c % (n : Int) := ⟨(c % (n : Int)).toNat, by
    have := Int.emod_nonneg c (show (n : Int) ≠ 0 by omega)
    omega⟩
  have hkn : k < n := by
    have := Int.emod_lt_of_pos c (show (0 : Int) < (n : Int) by omega)
    omega
  have hnew := hid_mk (new_any W n hn1 hn8)
  have HE1 := hid_mk e1
  have HK := hid_mk hk
  clear e1 hm hm8 hn hk hmax hmin
  go_enter Try.func5, Try.ntmps5
  go_wp2_with (go_at_call 8; fail)
  rw [HE1.out]
  refine hnew.out.mono ?_
  rintro e w1 ⟨rfl, ho1, hb1⟩
  obtain ⟨b, hb⟩ : ∃ b, b = W.heap.size := ⟨_, rfl⟩
  have L1 : Hid (LvE W w1 ⟨b, n, 1, busyS 0, 0⟩ (.slice none 0 0) []) := by
    rw [← hb] at ho1
    exact ⟨ho1, hb1, by rw [hb]; exact Nat.le_refl _, fun k e => by cases e⟩
  rw [← hb]
  clear ho1 hb1 hnew hb ha HE1
  go_wp2
  go_loopw [7] (fun p wr => ∃ i : Nat, i ≤ n ∧ p = .int .i64 (i : Int) ∧ Hid (LvE W wr ⟨b, n, (i : Int) + 1, busyS i, 0⟩ (.slice none 0 0) [])) (fun p _ => n + 1 - (intOf p).toNat)
  case atStart => exact ⟨0, by omega, rfl, L1⟩
  case round =>
    clear L1
    obtain ⟨i, hi, rfl, L⟩ := hrel
    by_cases hin : i < n
    · have hd : (i : Int) < (n : Int) := by omega
      have hp : Hid (Calls Try.prog 13 #[.pointer (some ⟨b, 0, none⟩)] wr fun e w' => e = .returned (.tuple #[.int .i64 (i : Int), .int .i64 0]) ∧ Hid (LvE W w' ⟨b, n, (i : Int) + 1, busyS (i + 1), 0⟩ (.slice none 0 0) [])) := (pin_first L.out.eo (busy_free n i hin hn8)).mono fun e w' hh => ⟨hh.1, by
        have h2 := L.out.step hh.2.1 rfl hh.2.2
        dsimp only at h2
        rw [busyS_set i (by omega)] at h2
        exact h2⟩
      go_wp2_with (go_at_call 13; fail)
      refine hp.out.mono ?_
      rintro e w2 ⟨rfl, L2⟩
      have hq : Hid (Calls Try.prog 11 #[.pointer (some ⟨b, 0, none⟩)] w2 fun e w' => (∃ v, e = .returned v) ∧ Hid (LvE W w' ⟨b, n, ((i : Int) + 1) + 1, busyS (i + 1), 0⟩ (.slice none 0 0) [])) := (publish_any L2.out.eo (by dsimp only; omega) (by dsimp only; omega)).mono fun e w' hh => ⟨⟨_, hh.1⟩, L2.out.step hh.2.1 rfl hh.2.2⟩
      have hii : ((i : Int) != (i : Int)) = false := by simp
      clear hp L
      go_wp2_with (go_at_call 11; refine hq.out.mono ?_; rintro e w3 ⟨⟨v3, rfl⟩, L3⟩)
      refine ⟨⟨i + 1, by omega, by simp, ?_⟩, by simp [intOf]; omega⟩
      rw [show ((i + 1 : Nat) : Int) + 1 = ((i : Int) + 1) + 1 by omega]
      exact L3
    · obtain rfl : i = n := by omega
      have hd : ¬ (i : Int) < (i : Int) := by omega
      have hi0 : ¬ (i : Int) = 0 := by omega
      have hp : Hid (Calls Try.prog 13 #[.pointer (some ⟨b, 0, none⟩)] wr fun e w' => e = .returned (.tuple #[.int .i64 0, .int .i64 6]) ∧ Hid (LvE W w' ⟨b, i, (i : Int) + 1, busyS i, 0⟩ (.slice none 0 0) [])) := (pin_full L.out.eo (busy_full i hn8)).mono fun e w' hh => ⟨hh.1, L.out.step hh.2.1 rfl hh.2.2⟩
      go_wp2_with (go_at_call 13; fail)
      rw [← HK.out, show wrap64 (k : Int) = (k : Int) by unfold wrap64; omega]
      refine hp.out.mono ?_
      rintro e w2 ⟨rfl, L2⟩
      have hm : Hid (Calls Try.prog 24 #[.pointer (some ⟨b, 0, none⟩)] w2 fun e w' => e = .returned (.int .i64 1) ∧ Hid (LvE W w' ⟨b, i, (i : Int) + 1, busyS i, 0⟩ (.slice none 0 0) [])) := (min_any L2.out.eo).mono fun e w' hh => ⟨by
        rw [hh.1]
        unfold minZ
        dsimp only
        rw [busy_least i hn1 hn8]
        rfl, L2.out.step hh.2.1 rfl hh.2.2⟩
      clear L hp hd hi0
      go_wp2_with (go_at_call 24; fail)
      refine hm.out.mono ?_
      rintro e w3 ⟨rfl, L3⟩
      have hu : Hid (Calls Try.prog 15 #[.pointer (some ⟨b, 0, none⟩), .int .i64 (k : Int)] w3 fun e w' => e = .returned (.int .i64 0) ∧ Hid (LvE W w' ⟨b, i, (i : Int) + 1, (busyS i).set k 0, 0⟩ (.slice none 0 0) [])) := (unpin_any L3.out.eo k).mono fun e w' hh => by
        obtain ⟨h1, h2⟩ := hh
        dsimp only at h2
        rw [pinZ_at i (busyS i) k hkn _ (busyS_get i k (by omega)), if_pos hkn, if_neg (by omega), Int.toNat_natCast] at h2
        exact ⟨h2.1, L3.out.step h2.2 rfl h1⟩
      clear L2 hm
      go_wp2_with (go_at_call 15; fail)
      refine hu.out.mono ?_
      rintro e w4 ⟨rfl, L4⟩
      have hu2 : Hid (Calls Try.prog 15 #[.pointer (some ⟨b, 0, none⟩), .int .i64 (k : Int)] w4 fun e w' => e = .returned (.int .i64 3) ∧ Hid (LvE W w' ⟨b, i, (i : Int) + 1, (busyS i).set k 0, 0⟩ (.slice none 0 0) [])) := (unpin_any L4.out.eo k).mono fun e w' hh => by
        obtain ⟨h1, h2⟩ := hh
        dsimp only at h2
        rw [pinZ_at i _ k hkn 0 (by rw [List.getElem?_set_self (by rw [busyS_len]; omega)]), if_pos rfl] at h2
        exact ⟨h2.1, L4.out.step h2.2 rfl h1⟩
      clear L3 hu
      go_wp2_with (go_at_call 15; fail)
      refine hu2.out.mono ?_
      rintro e w5 ⟨rfl, L5⟩
      have hp : Hid (Calls Try.prog 13 #[.pointer (some ⟨b, 0, none⟩)] w5 fun e w' => e = .returned (.tuple #[.int .i64 (k : Int), .int .i64 0]) ∧ Hid (LvE W w' ⟨b, i, (i : Int) + 1, ((busyS i).set k 0).set k ((i : Int) + 1), 0⟩ (.slice none 0 0) [])) := (pin_first L5.out.eo (busy_freed i k hkn hn8)).mono fun e w' hh => ⟨hh.1, L5.out.step hh.2.1 rfl hh.2.2⟩
      clear L4 hu2
      go_wp2_with (go_at_call 13; fail)
      refine hp.out.mono ?_
      rintro e w6 ⟨rfl, L6⟩
      have hq : Hid (Calls Try.prog 26 #[.pointer (some ⟨b, 0, none⟩), .int .i64 (k : Int)] w6 fun e w' => e = .returned (.int .i64 ((i : Int) + 1)) ∧ w' = w6) := (pinned_any L6.out.eo.es.bx hn1 hn8 k).mono fun e w' hh => ⟨by
        rw [hh.1]
        dsimp only
        rw [pinZ_at i _ k hkn ((i : Int) + 1) (by rw [List.getElem?_set_self (by rw [List.length_set, busyS_len]; omega)])], hh.2⟩
      have hlv := lives_any w6
      have hkk : ((k : Int) == (k : Int)) = true := by simp
      have hii : (((i : Int) + 1) == ((i : Int) + 1)) = true := by simp
      clear L5 hp
      go_wp2_with (first
        | (go_at_call 26; refine hq.out.mono ?_; rintro e w' ⟨rfl, hw⟩; rw [hw]; clear hw w')
        | (go_at_call 10; refine hlv.mono ?_; rintro e w7 ⟨rfl, hw7⟩))
      go_ret
      exact ⟨rfl, L6.out.below.trans (hw7.mono L6.out.below.size)⟩
end Go.Proofs.Ytlnpiadjnjdfiaa.E
