/- The document's example says what it says. -/
import Derived.Test.YtlnpiadjnjdfiaaELi
namespace Go.Proofs.Ytlnpiadjnjdfiaa.E
open Go.RowKit
set_option maxRecDepth 100000

theorem lit_one (w : World) (x : Int) : IsAt (w.alloc (.cells #[.int .i64 x] 3)) (.slice (some ⟨w.heap.size, 0, none⟩) 1 1) [x] := by
  refine ⟨_, _, rfl, rfl, Nat.le_refl _, by unfold maxLen; omega, ?_, .inr ⟨_, _, rfl, by simp, ?_⟩⟩
  · intro u hu
    simp [iv] at hu
    subst hu
    rfl
  · intro j u hj
    have h := heap_alloc_last w (.cells #[.int .i64 x] 3)
    cases j with
    | zero => simp [iv] at hj; subst hj; simp only [World.cell?, Nat.add_zero, h]; rfl
    | succ j => simp at hj
theorem IsAt.of_owns {w : World} {B : Nat} {u : Value} {R : List It} (h : w.ownsRow B 3 1 u R.length (R.map idV)) : IsAt w u (R.map Prod.fst) := by
  obtain ⟨a, c, rfl, hr, _⟩ := RowAt.of_owns h (by
    intro u hu
    obtain ⟨r, _, rfl⟩ := List.mem_map.1 hu
    rfl)
  refine ⟨a, c, by rw [List.length_map], ?_⟩
  rw [List.length_map, List.map_map]
  exact hr

set_option maxHeartbeats 4000000 in
theorem lives_any (w : World) : Calls Try.prog 10 #[] w fun e w' => e = .returned (.bool true) ∧ Below w.heap.size w w' := by
  have hn := new_any w 2 (by omega) (by omega)
  go_enter Try.func10, Try.ntmps10
  go_wp2_with (go_at_call 8; fail)
  refine hn.mono ?_
  rintro e w1 ⟨rfl, ho1, hb1⟩
  obtain ⟨b, hb⟩ : ∃ b, b = w.heap.size := ⟨_, rfl⟩
  have L1 : Hid (LvE w w1 ⟨b, 2, 1, [0, 0, 0, 0, 0, 0, 0, 0], 0⟩ (.slice none 0 0) []) := by
    rw [← hb] at ho1
    exact ⟨ho1, hb1, by rw [hb]; exact Nat.le_refl _, fun k e => by cases e⟩
  rw [← hb]
  clear ho1 hb1 hn hb
  have hp : Hid (Calls Try.prog 13 #[.pointer (some ⟨b, 0, none⟩)] w1 fun e w' => e = .returned (.tuple #[.int .i64 0, .int .i64 0]) ∧ EO w' ⟨b, 2, 1, [1, 0, 0, 0, 0, 0, 0, 0], 0⟩ (.slice none 0 0) [] ∧ Kv b (.slice none 0 0) w1 (.slice none 0 0) w') := pin_first L1.out.eo (k := 0) ⟨by simp, rfl, fun i s hi => by omega⟩
  go_wp2_with (go_at_call 13; fail)
  refine hp.out.mono ?_
  rintro e w2 ⟨rfl, ho2, hk2⟩
  have L2 : Hid (LvE w w2 ⟨b, 2, 1, [1, 0, 0, 0, 0, 0, 0, 0], 0⟩ (.slice none 0 0) []) := L1.out.step ho2 rfl hk2
  clear L1 hp ho2 hk2
  have hr : Hid (Calls Try.prog 18 #[.pointer (some ⟨b, 0, none⟩), .int .i64 7] w2 fun e w' => e = .returned (.int .i64 0) ∧ ∃ v' K, EO w' ⟨b, 2, 1, [1, 0, 0, 0, 0, 0, 0, 0], 0⟩ v' K ∧ K.Perm ([] ++ [((7 : Int), (1 : Int))]) ∧ Kv b (.slice none 0 0) w2 v' w') := retire_any L2.out.eo (by simp) 7
  go_wp2_with (go_at_call 18; fail)
  refine hr.out.mono ?_
  rintro e w3 ⟨rfl, v3, K3, ho3, hp3, hk3⟩
  obtain rfl : K3 = [((7 : Int), (1 : Int))] := List.perm_singleton.1 hp3
  have L3 : Hid (LvE w w3 ⟨b, 2, 1, [1, 0, 0, 0, 0, 0, 0, 0], 0⟩ v3 [((7 : Int), (1 : Int))]) := L2.out.step ho3 rfl hk3
  clear L2 hr ho3 hk3 hp3
  have hq : Hid (Calls Try.prog 11 #[.pointer (some ⟨b, 0, none⟩)] w3 fun e w' => e = .returned (.int .i64 2) ∧ EO w' ⟨b, 2, 2, [1, 0, 0, 0, 0, 0, 0, 0], 0⟩ v3 [((7 : Int), (1 : Int))] ∧ Kv b v3 w3 v3 w') := publish_any L3.out.eo (by simp) (by simp)
  go_wp2_with (go_at_call 11; fail)
  refine hq.out.mono ?_
  rintro e w4 ⟨rfl, ho4, hk4⟩
  have L4 : Hid (LvE w w4 ⟨b, 2, 2, [1, 0, 0, 0, 0, 0, 0, 0], 0⟩ v3 [((7 : Int), (1 : Int))]) := L3.out.step ho4 rfl hk4
  clear L3 hq ho4 hk4
  have hc : Hid (Calls Try.prog 20 #[.pointer (some ⟨b, 0, none⟩)] w4 fun e w' => ∃ u, e = .returned u ∧ RcEnd w4 ⟨b, 2, 2, [1, 0, 0, 0, 0, 0, 0, 0], 0⟩ v3 [((7 : Int), (1 : Int))] (1, true) u w') := reclaim_any L4.out.eo (by simp)
  go_wp2_with (go_at_call 20; fail)
  refine hc.out.mono ?_
  rintro e w5 ⟨u5, rfl, v5, K5, R5, hu5, ho5, hp5, hok5, _, _, hk5, _⟩
  have hR5 : R5 = [] := by
    cases R5 with
    | nil => rfl
    | cons r R =>
      have hm := hp5.subset (List.mem_append_left _ (List.mem_cons_self ..))
      have hm : r = (7, 1) := by simpa using hm
      have := hok5 r (List.mem_cons_self ..)
      rw [hm] at this
      rcases this with h | h
      · cases h
      · simp at h
  subst hR5
  have hK5 : K5 = [((7 : Int), (1 : Int))] := List.perm_singleton.1 hp5
  subst hK5
  obtain ⟨a5, c5, rfl⟩ := own_slice hu5
  have L5 : Hid (LvE w w5 ⟨b, 2, 2, [1, 0, 0, 0, 0, 0, 0, 0], 0⟩ v5 [((7 : Int), (1 : Int))]) := L4.out.step ho5 rfl hk5
  clear L4 hc ho5 hk5 hp5 hok5 hu5
  have hx : Hid (Calls Try.prog 15 #[.pointer (some ⟨b, 0, none⟩), .int .i64 0] w5 fun e w' => e = .returned (.int .i64 0) ∧ EO w' ⟨b, 2, 2, [0, 0, 0, 0, 0, 0, 0, 0], 0⟩ v5 [((7 : Int), (1 : Int))] ∧ Kv b v5 w5 v5 w') := (unpin_any L5.out.eo 0).mono fun e w' hh => by
    obtain ⟨h1, h2⟩ := hh
    rw [if_neg (show ¬ pinZ 2 [1, 0, 0, 0, 0, 0, 0, 0] 0 = 0 by decide)] at h2
    exact ⟨h2.1, h2.2, h1⟩
  go_wp2_with (go_at_call 15; fail)
  refine hx.out.mono ?_
  rintro e w6 ⟨rfl, ho6, hk6⟩
  have L6 : Hid (LvE w w6 ⟨b, 2, 2, [0, 0, 0, 0, 0, 0, 0, 0], 0⟩ v5 [((7 : Int), (1 : Int))]) := L5.out.step ho6 rfl hk6
  clear L5 hx ho6 hk6
  have hc : Hid (Calls Try.prog 20 #[.pointer (some ⟨b, 0, none⟩)] w6 fun e w' => ∃ u, e = .returned u ∧ RcEnd w6 ⟨b, 2, 2, [0, 0, 0, 0, 0, 0, 0, 0], 0⟩ v5 [((7 : Int), (1 : Int))] (0, false) u w') := reclaim_any L6.out.eo (by simp)
  go_wp2_with (go_at_call 20; fail)
  refine hc.out.mono ?_
  rintro e w7 ⟨u7, rfl, v7, K7, R7, hu7, ho7, hp7, _, hend7, _, hk7, _⟩
  have hK7 : K7 = [] := by
    cases K7 with
    | nil => rfl
    | cons r R => exact absurd (.inl rfl) (hend7 r (List.mem_cons_self ..))
  subst hK7
  rw [List.append_nil] at hp7
  have hR7 : R7 = [((7 : Int), (1 : Int))] := List.perm_singleton.1 hp7
  subst hR7
  have hi7 := IsAt.of_owns hu7
  have L7 : Hid (LvE w w7 ⟨b, 2, 2, [0, 0, 0, 0, 0, 0, 0, 0], 0⟩ v7 []) := L6.out.step ho7 rfl hk7
  clear L6 hc ho7 hk7 hp7 hend7 hu7
  have hal : Below w7.heap.size w7 (w7.alloc (.cells #[.int .i64 7] 3)) := (Below.refl _ _).alloc (Nat.le_refl _) _
  have hin : Hid (Calls Try.prog 19 #[u7, .slice (some ⟨w7.heap.size, 0, none⟩) 1 1] (w7.alloc (.cells #[.int .i64 7] 3)) fun e w' => e = .returned (.bool true) ∧ Below w7.heap.size w7 w') := (ints_any (hi7.keep hal) (lit_one w7 7)).mono fun e w' hh => ⟨by rw [hh.1]; rfl, hal.trans (hh.2.mono hal.size)⟩
  clear hi7 hal
  go_wp2_with (go_at_call 19; fail)
  refine hin.out.mono ?_
  rintro e w8 ⟨rfl, hb8⟩
  have L8 : Hid (LvE w w8 ⟨b, 2, 2, [0, 0, 0, 0, 0, 0, 0, 0], 0⟩ v7 []) := L7.out.keep hb8
  clear L7 hin hb8
  have hnw : Hid (Calls Try.prog 23 #[.pointer (some ⟨b, 0, none⟩)] w8 fun e w' => e = .returned (.int .i64 2) ∧ w' = w8) := now_any L8.out.eo.es.bx (by simp)
  go_wp2_with (go_at_call 23; fail)
  refine hnw.out.mono ?_
  rintro e w9 ⟨rfl, rfl⟩
  go_wp2
  go_ret
  exact ⟨rfl, L8.out.below⟩
end Go.Proofs.Ytlnpiadjnjdfiaa.E
