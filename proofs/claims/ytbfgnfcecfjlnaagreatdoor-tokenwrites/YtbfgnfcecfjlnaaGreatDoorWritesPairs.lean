/- What TokenWrites asks. -/
import Derived.Test.YtbfgnfcecfjlnaaGreatDoorWWhole
namespace Go.Proofs.YtbfgnfcecfjlnaaGreatDoor
open Go.RowKit

set_option maxHeartbeats 1000000 in
set_option maxRecDepth 100000 in
theorem rint_whole (k : Int) (hk : k = 10 ∨ k = 11 ∨ k = 12) (s u : ByteArray) (fl : Bool) (hs : s.size ≤ 100000) (w : World) :
    Calls Tryz.prog 12 #[.agg #[.int .i64 k, .string s, .string u, .bool true, .bool fl]] w fun e w' => e = .returned (.tuple #[.int .i64 (intV (negB s) (bytesL (bodyS s))).1, .bool (intV (negB s) (bytesL (bodyS s))).2]) ∧ Below w.heap.size w w' := by
  have hB1 : Below w.heap.size w (w.alloc (.cells #[.int .i64 k, .string s, .string u, .bool true, .bool fl] 31)) := (Below.refl _ w).alloc (Nat.le_refl _) _
  have hw := fun w => whole_any s hs w
  generalize intV (negB s) (bytesL (bodyS s)) = v at *
  rcases hk with rfl | rfl | rfl
  all_goals
    go_enter Tryz.func12, Tryz.ntmps12
    go_wp2_with (go_at_call 39; fail)
    refine (hw _).mono ?_
    rintro e w1 ⟨rfl, rfl⟩
    go_wp2
    go_ret2
    exact ⟨rfl, hB1⟩
set_option maxHeartbeats 1000000 in
set_option maxRecDepth 100000 in
theorem rint_not_whole (k : Int) (s u : ByteArray) (fl : Bool) (w : World) :
    Calls Tryz.prog 12 #[.agg #[.int .i64 k, .string s, .string u, .bool false, .bool fl]] w fun e w' => e = .returned (.tuple #[.int .i64 0, .bool false]) ∧ Below w.heap.size w w' := by
  have hB1 : Below w.heap.size w (w.alloc (.cells #[.int .i64 k, .string s, .string u, .bool false, .bool fl] 31)) := (Below.refl _ w).alloc (Nat.le_refl _) _
  go_enter Tryz.func12, Tryz.ntmps12
  go_wp2
  go_ret2
  exact ⟨rfl, hB1⟩
set_option maxHeartbeats 1000000 in
set_option maxRecDepth 100000 in
theorem rint_no_kind (k : Int) (hk : ¬ (k = 10 ∨ k = 11 ∨ k = 12)) (s u : ByteArray) (fl : Bool) (w : World) :
    Calls Tryz.prog 12 #[.agg #[.int .i64 k, .string s, .string u, .bool true, .bool fl]] w fun e w' => e = .returned (.tuple #[.int .i64 0, .bool false]) ∧ Below w.heap.size w w' := by
  have hB1 : Below w.heap.size w (w.alloc (.cells #[.int .i64 k, .string s, .string u, .bool true, .bool fl] 31)) := (Below.refl _ w).alloc (Nat.le_refl _) _
  have h1 : (k != 10) = true := by simp; omega
  have h2 : (k != 11) = true := by simp; omega
  have h3 : (k != 12) = true := by simp; omega
  clear hk
  go_enter Tryz.func12, Tryz.ntmps12
  go_wp2
  go_ret2
  exact ⟨rfl, hB1⟩

section
variable (k : Int) (tx un : ByteArray) (wh fl : Bool)
theorem int_pair (hs : tx.size ≤ 5000) : ∃ (n : Int) (ok : Bool), (∀ w, Calls Tryz.prog 11 #[.agg #[.int .i64 k, .string tx, .string un, .bool wh, .bool fl]] w fun e w' => e = .returned (.tuple #[.int .i64 n, .bool ok]) ∧ Below w.heap.size w w') ∧ (∀ w, Calls Tryz.prog 12 #[.agg #[.int .i64 k, .string tx, .string un, .bool wh, .bool fl]] w fun e w' => e = .returned (.tuple #[.int .i64 n, .bool ok]) ∧ Below w.heap.size w w') := by
  by_cases hk : k = 10 ∨ k = 11 ∨ k = 12
  · cases wh
    · exact ⟨0, false, fun w => int_not_whole k hk tx un fl w, fun w => rint_not_whole k tx un fl w⟩
    · exact ⟨_, _, fun w => int_whole k hk tx un fl (by omega) w, fun w => rint_whole k hk tx un fl (by omega) w⟩
  · refine ⟨0, false, fun w => int_no_kind k hk tx un wh fl w, fun w => ?_⟩
    cases wh
    · exact rint_not_whole k tx un fl w
    · exact rint_no_kind k hk tx un fl w
theorem last_at : ∀ p : Fin 9, lastS (16 + ((p.val : Nat) : Int)) = strOfNums [signL (16 + ((p.val : Nat) : Int))] := by decide +kernel
theorem source_pair (hs : tx.size ≤ 5000) (hu : un.size ≤ 5000) : ∃ src : ByteArray, (∀ w, Tab w → 3 < w.heap.size → Calls Tryz.prog 17 #[.agg #[.int .i64 k, .string tx, .string un, .bool wh, .bool fl]] w fun e w' => e = .returned (.string src) ∧ Below w.heap.size w w') ∧ (∀ w, Calls Tryz.prog 18 #[.agg #[.int .i64 k, .string tx, .string un, .bool wh, .bool fl]] w fun e w' => e = .returned (.string src) ∧ Below w.heap.size w w') := by
  by_cases k1 : k = 1
  · subst k1
    exact ⟨_, fun w ht h3 => source_ident tx un wh fl w (by omega) ht h3, fun w => rsource_1 tx un wh fl w hs⟩
  by_cases k2 : k = 2
  · subst k2
    refine ⟨_, fun w ht h3 => source_func tx un wh fl w (by omega) ht h3, fun w => ?_⟩
    have := rsource_2 tx un wh fl w hs
    rw [nums_two]
    exact this
  by_cases k3 : k = 3
  · subst k3
    refine ⟨_, fun w ht h3 => source_at tx un wh fl w (by omega) ht h3, fun w => ?_⟩
    have := rsource_3 tx un wh fl w hs
    rw [nums_two]
    exact this
  by_cases k4 : k = 4
  · subst k4
    refine ⟨_, fun w ht h3 => source_hash tx un wh fl w (by omega) ht h3, fun w => ?_⟩
    cases fl
    · exact rsource_4f tx un wh w hs
    · have := rsource_4t tx un wh w hs
      rw [nums_two]
      exact this
  by_cases k5 : k = 5
  · subst k5
    exact ⟨_, fun w ht h3 => source_string tx un wh fl w (by omega) ht h3, fun w => rsource_5 tx un wh fl w hs⟩
  by_cases k9 : k = 9
  · subst k9
    refine ⟨tx, fun w ht h3 => ?_, fun w => rsource_9 tx un wh fl w⟩
    have := sourceT_9 tx un wh fl w (by omega) ht h3
    rw [bytesL_str] at this
    exact this
  by_cases k10 : k = 10
  · subst k10
    refine ⟨tx, fun w ht h3 => ?_, fun w => rsource_10 tx un wh fl w⟩
    have := sourceT_10 tx un wh fl w (by omega) ht h3
    rw [bytesL_str] at this
    exact this
  by_cases k11 : k = 11
  · subst k11
    refine ⟨tx ++ ⟨#[37]⟩, fun w ht h3 => ?_, fun w => rsource_11 tx un wh fl w hs⟩
    have := sourceT_11 tx un wh fl w (by omega) ht h3
    rw [nums_two, bytesL_str] at this
    exact this
  by_cases k12 : k = 12
  · subst k12
    refine ⟨tx ++ strOfNums (unitL un), fun w ht h3 => ?_, fun w => rsource_12 tx un wh fl w hs hu⟩
    have := sourceT_12 tx un wh fl w (by omega) (by omega) ht h3
    rw [nums_two, bytesL_str] at this
    exact this
  by_cases k13 : k = 13
  · subst k13
    exact ⟨_, fun w ht h3 => source_space tx un wh fl w (by omega) ht h3, fun w => rsource_13 tx un wh fl w⟩
  by_cases k14 : k = 14
  · subst k14
    exact ⟨_, fun w ht h3 => source_cdo tx un wh fl w (by omega) ht h3, fun w => rsource_14 tx un wh fl w⟩
  by_cases k15 : k = 15
  · subst k15
    exact ⟨_, fun w ht h3 => source_cdc tx un wh fl w (by omega) ht h3, fun w => rsource_15 tx un wh fl w⟩
  by_cases k16 : k = 16
  · subst k16
    refine ⟨_, fun w ht h3 => source_16 tx un wh fl w (by omega) ht h3, fun w => ?_⟩
    have := rsource_last tx un wh fl w 16 (by omega)
    have e := last_at ⟨0, by omega⟩
    exact this
  by_cases k17 : k = 17
  · subst k17
    refine ⟨_, fun w ht h3 => source_17 tx un wh fl w (by omega) ht h3, fun w => ?_⟩
    have := rsource_last tx un wh fl w 17 (by omega)
    have e := last_at ⟨1, by omega⟩
    exact this
  by_cases k18 : k = 18
  · subst k18
    refine ⟨_, fun w ht h3 => source_18 tx un wh fl w (by omega) ht h3, fun w => ?_⟩
    have := rsource_last tx un wh fl w 18 (by omega)
    have e := last_at ⟨2, by omega⟩
    exact this
  by_cases k19 : k = 19
  · subst k19
    refine ⟨_, fun w ht h3 => source_19 tx un wh fl w (by omega) ht h3, fun w => ?_⟩
    have := rsource_last tx un wh fl w 19 (by omega)
    have e := last_at ⟨3, by omega⟩
    exact this
  by_cases k20 : k = 20
  · subst k20
    refine ⟨_, fun w ht h3 => source_20 tx un wh fl w (by omega) ht h3, fun w => ?_⟩
    have := rsource_last tx un wh fl w 20 (by omega)
    have e := last_at ⟨4, by omega⟩
    exact this
  by_cases k21 : k = 21
  · subst k21
    refine ⟨_, fun w ht h3 => source_21 tx un wh fl w (by omega) ht h3, fun w => ?_⟩
    have := rsource_last tx un wh fl w 21 (by omega)
    have e := last_at ⟨5, by omega⟩
    exact this
  by_cases k22 : k = 22
  · subst k22
    refine ⟨_, fun w ht h3 => source_22 tx un wh fl w (by omega) ht h3, fun w => ?_⟩
    have := rsource_last tx un wh fl w 22 (by omega)
    have e := last_at ⟨6, by omega⟩
    exact this
  by_cases k23 : k = 23
  · subst k23
    refine ⟨_, fun w ht h3 => source_23 tx un wh fl w (by omega) ht h3, fun w => ?_⟩
    have := rsource_last tx un wh fl w 23 (by omega)
    have e := last_at ⟨7, by omega⟩
    exact this
  by_cases k24 : k = 24
  · subst k24
    refine ⟨_, fun w ht h3 => source_24 tx un wh fl w (by omega) ht h3, fun w => ?_⟩
    have := rsource_last tx un wh fl w 24 (by omega)
    have e := last_at ⟨8, by omega⟩
    exact this
  refine ⟨_, fun w _ _ => sourceT_none tx un wh fl w k (by omega), fun w => ?_⟩
  have := rsource_last tx un wh fl w k (by omega)
  have e : lastS k = strOfNums [] := by
    unfold lastS
    rw [if_neg (by omega)]
    rfl
  rw [e] at this
  exact this
end

def Stay (k : Int) (tx un : ByteArray) (wh fl : Bool) (w w' : World) : Prop := Below w.heap.size w w' ∧ w'.heap[w.heap.size]? = some (.cells #[.int .i64 k, .string tx, .string un, .bool wh, .bool fl] 31 (0, 0))
theorem stay_on {k : Int} {tx un : ByteArray} {wh fl : Bool} {w w' w'' : World} (g : Stay k tx un wh fl w w') (hb : Below w'.heap.size w' w'') : Stay k tx un wh fl w w'' :=
  ⟨g.1.trans (hb.mono g.1.size), (hb.block _ ((Array.getElem?_eq_some_iff.1 g.2).1)).trans g.2⟩

end Go.Proofs.YtbfgnfcecfjlnaaGreatDoor
