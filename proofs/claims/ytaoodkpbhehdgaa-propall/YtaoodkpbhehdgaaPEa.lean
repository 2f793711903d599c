/- prop.eachLonghand: an iterator that tells each longhand behind its place. -/
import Derived.Test.YtaoodkpbhehdgaaPLo
import Derived.RangeFuncNested
import Derived.RangeFuncBound
import Derived.RangeFuncCalls
import Derived.RangeFuncLeaves
import Derived.Shelf.Abstract
import Derived.Shelf.RegionOpen
import Derived.OwnWalkIn
import Derived.TacticsInMore
import Derived.LoopNIn
import Derived.LoopIn
namespace Go.Proofs.Ytaoodkpbhehdgaa
open Go.RowKit Go.Shelf
set_option maxRecDepth 100000
attribute [local go_sem] Oper.semAt_some

def z0 : Pr := ⟨⟨#[]⟩, ⟨#[]⟩, false, ⟨#[]⟩⟩
def TZ : List (Nat × Pr) := T.zipIdx.map fun x => (x.2, x.1)
abbrev encT (x : Nat × Pr) : Array Value := #[.int .i64 x.1, .agg #[.string x.2.n, .string x.2.i, .bool x.2.h, .string x.2.f]]

theorem TZ_len : TZ.length = 48 := by kernel_rfl
theorem TZ_at (k : Nat) (hk : k < 48) : ∃ p, T[k]? = some p ∧ TZ[k]? = some (k, p) := by
  obtain ⟨p, hp⟩ : ∃ p, T[k]? = some p := by
    rw [List.getElem?_eq_getElem (by rw [T_len]; exact hk)]
    exact ⟨_, rfl⟩
  refine ⟨p, hp, ?_⟩
  unfold TZ
  rw [List.getElem?_map, List.getElem?_zipIdx, hp]
  simp
theorem ix_all (w : World) : (List.range 48).map (fun k : Nat => (Instr.index 35 (.agg TC.toArray) (.int .i64 (k : Int))).run Try.prog w) = T.map fun p => .ok (.agg #[.string p.n, .string p.i, .bool p.h, .string p.f]) w := by kernel_rfl
theorem ix_at (w : World) (k : Nat) (p : Pr) (h : T[k]? = some p) : (Instr.index 35 (.agg TC.toArray) (.int .i64 (k : Int))).run Try.prog w = .ok (.agg #[.string p.n, .string p.i, .bool p.h, .string p.f]) w := by
  have hk : k < 48 := by
    rw [← T_len]
    exact (List.getElem?_eq_some_iff.1 h).1
  have := congrArg (fun l => l[k]?) (ix_all w)
  simp only [List.getElem?_map, h, Option.map_some] at this
  rw [List.getElem?_range hk] at this
  simpa using this

set_option maxHeartbeats 1000000 in
theorem each_in (n : Nat) (hn : 1 ≤ n) (l : Nat) (J Jx : List (Nat × Pr) → World → Prop) (W : World) (hA : AbidesFrom W.heap.size J)
    (hY : ∀ pre x W, J pre W → pre.length < 48 → YieldAt Fence.wide (n - 1) Try.prog l (encT x) W fun e W' =>
      (e = .returned (.bool true) ∧ J (pre ++ [x]) W' ∧ KeepsWalks W W') ∨ (e = .returned (.bool false) ∧ Jx (pre ++ [x]) W'))
    (h0 : J [] W) :
    CallsIn Fence.wide n Try.prog 15 #[.func (.yield l) #[] #[]] W fun e W' => (∃ v, e = .returned v) ∧
      ((∃ ys, ys = TZ ∧ J ys W') ∨ (∃ pre, pre <+: TZ ∧ Jx pre W')) := by
  have hlong := fun w => callsIn_wide (n := n - 1).2 (long_any w)
  have hix := ix_at
  generalize TC.toArray = C at *
  refine callsIn_of_wp Try.func15 rfl trivial ?_ rfl
  simp only [Try.ntmps15, List.size_toArray, List.length_cons, List.length_nil, Nat.reduceAdd, Nat.reduceSub, Array.replicate_succ, Array.replicate_zero, List.push_toArray, List.append_toArray, List.nil_append, List.cons_append]
  gi_wp2_with (refine ⟨trivial, ?_⟩; gi_at_call 10; refine (hlong _).mono ?_; rintro e w' ⟨rfl, rfl⟩)
  have hA2 : ∀ pre A o, J pre A → J pre (A.alloc o) := fun pre A o h => hA _ _ _ none h (World.grownBy_alloc _ _ none) (fun r e => by cases e)
  have HA := hid_mk hA2
  have HY := hid_mk hY
  have HIX := hid_mk hix
  have h0' := hA2 _ _ (.cells C 35) h0
  clear hA2 hY hA hlong hix h0
  gi_loopw [5] (fun p wr => ∃ k : Nat, p = .int .i64 (k : Int) ∧ k ≤ 48 ∧ J (TZ.take k) wr) (fun p _ => 48 - (match p with | .int _ i => i.toNat | _ => 0))
  case atStart => exact ⟨0, rfl, by omega, h0'⟩
  case round =>
    obtain ⟨k, rfl, hk, hJs⟩ := hrel
    by_cases hlt : k < 48
    · obtain ⟨p, hp, hz⟩ := TZ_at k hlt
      have hix := fun w => HIX.out w k p hp
      have HZ := hid_mk hz
      have htk : TZ.take k ++ [(k, p)] = TZ.take (k + 1) := by rw [List.take_add_one, hz]; rfl
      have HTK := hid_mk htk
      have hlk : (TZ.take k).length < 48 := by rw [List.length_take, TZ_len]; omega
      obtain ⟨fn, tmps, assign, body, hy, hR⟩ := HY.out (TZ.take k) (k, p) _ (HA.out _ wr (.cells #[.string p.n, .string p.i, .bool p.h, .string p.f] 28) hJs) hlk
      dsimp only [encT] at hy
      obtain ⟨pn, pi, ph, pf⟩ := p
      dsimp only at hix hy
      clear hp hz htk hlk
      gi_wp2
      refine hR.mono ?_
      rintro e W3 (⟨rfl, hJ3, _⟩ | ⟨rfl, hJx3⟩)
      · rw [HTK.out] at hJ3
        have hadd : IntKind.i64.wrap ((k : Int) + 1) = ((k + 1 : Nat) : Int) := by rw [IntKind.wrap_i64] <;> omega
        clear hix hy hR
        gi_wp2
        go_roundw
        case rel => exact ⟨k + 1, by simp, by omega, hJ3⟩
        case measure => simp only []; omega
      · rw [HTK.out] at hJx3
        clear hix hy hR
        gi_wp2
        refine bodyPost_ret (results_none rfl _ _ _) rfl ?_
        exact ⟨⟨_, rfl⟩, .inr ⟨_, List.take_prefix _ _, hJx3⟩⟩
    · obtain rfl : k = 48 := by omega
      gi_wp2
      go_end0
      exact ⟨⟨_, rfl⟩, .inl ⟨_, by rw [List.take_of_length_le (by rw [TZ_len]; omega)], hJs⟩⟩
/-- The iterator's contract. -/
theorem each_stops (n : Nat) (hn : 1 ≤ n) (w : World) : SeqStopsK Fence.wide n Try.prog 15 #[] encT KeepsWalks (fun ys => ys = TZ) (fun pre => pre <+: TZ) 48 w := fun l J Jx W _ hA _ hY h0 =>
  each_in n hn l J Jx W hA hY h0
end Go.Proofs.Ytaoodkpbhehdgaa
