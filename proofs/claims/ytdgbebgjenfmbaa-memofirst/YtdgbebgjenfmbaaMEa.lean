/- around: its cells, one behind the other. -/
import Derived.Test.YtdgbebgjenfmbaaMRg
namespace Go.Proofs.Ytdgbebgjenfmbaa.M
open Go.RowKit Go.Shelf
set_option maxRecDepth 100000

/-- The iterator's variables: the ring, and where it begins. -/
structure Vars (w : World) (a : Option Addr) (b1 b2 c n h : Nat) : Prop where
  ring : w.heap[b1]? = some (.cells #[.slice a n n] 71 (0, 0))
  row : 0 < n → a = some ⟨c, 0, none⟩
  at_ : w.heap[b2]? = some (.cells #[.int .i64 (h : Int)] 3 (0, 0))
theorem Vars.kp {w w' : World} {a : Option Addr} {b1 b2 c n h : Nat} (v : Vars w a b1 b2 c n h) (k : KpP b1 b2 w w') : Vars w' a b1 b2 c n h := ⟨k.2.1.trans v.ring, v.row, k.2.2.trans v.at_⟩
theorem Vars.below {w w' : World} {a : Option Addr} {b1 b2 c n h : Nat} (v : Vars w a b1 b2 c n h) (k : Below w.heap.size w w') : Vars w' a b1 b2 c n h :=
  ⟨(k.block b1 (Array.getElem?_eq_some_iff.1 v.ring).1).trans v.ring, v.row, (k.block b2 (Array.getElem?_eq_some_iff.1 v.at_).1).trans v.at_⟩
/-- What a round says. -/
def Gone (J : Nat → World → Prop) (Jx : World → Prop) (b1 b2 i : Nat) (A : World) (b : Bool) (B : World) : Prop := (b = true ∧ J (i + 1) B ∧ KpP b1 b2 A B) ∨ (b = false ∧ Jx B)
theorem tmod_nat (h i n : Nat) (hh : h ≤ 65536) (hi : i ≤ 65536) : (IntKind.i64.wrap ((h : Int) + (i : Int))).tmod (n : Int) = (((h + i) % n : Nat) : Int) := by
  have : IntKind.i64.wrap ((h : Int) + (i : Int)) = ((h + i : Nat) : Int) := by rw [IntKind.wrap_i64]; omega
  rw [this]
  simp [Int.tmod]
set_option maxHeartbeats 2000000 in
theorem around_told {w : World} {a : Option Addr} {b1 b2 c n h : Nat} (hV : Vars w a b1 b2 c n h) (hn : n ≤ 65536) (hh : h ≤ 65536) : Told 41 #[.pointer (some ⟨b1, 0, none⟩), .pointer (some ⟨b2, 0, none⟩)] (KpP b1 b2) (fun i => .pointer (some ⟨c, (h + i) % n, none⟩)) n w := by
  intro q l J Jx hJ hJx hY h0
  have HJ := hid_mk hJ
  have HJx := hid_mk hJx
  have HY : Hid (∀ k i A, J i A → i < n → ∃ fn tmps assign body, (Instr.yield l #[.pointer (some ⟨c, (h + i) % n, none⟩)]).run Try.prog A = .ok (.round l fn tmps assign body) A ∧ RoundIn Fence.wide k Try.prog l fn tmps assign body A fun e B => ∃ b, e = .returned (.bool b) ∧ Gone J Jx b1 b2 i A b B) := fun k i A hj hi => by
    obtain ⟨fn, tmps, assign, body, h1, h2⟩ := hY k i A hj hi
    refine ⟨fn, tmps, assign, body, h1, h2.mono ?_⟩
    rintro e B (⟨rfl, h3, h4⟩ | ⟨rfl, h3⟩)
    · exact ⟨true, rfl, .inl ⟨rfl, h3, h4⟩⟩
    · exact ⟨false, rfl, .inr ⟨rfl, h3⟩⟩
  have HV := hid_mk hV
  have HST := hid_mk h0
  clear hJ hJx hY h0 hV
  refine callsIn_wide.2 ?_
  show Calls Try.prog 41 #[.func (.yield l) #[] #[], .pointer (some ⟨b1, 0, none⟩), .pointer (some ⟨b2, 0, none⟩)] w _
  obtain ⟨r1, _⟩ := box_cell HV.out.ring
  go_enter Try.func41, Try.ntmps41
  go_wp2
  clear r1
  go_loopw [7] (fun p wr => ∃ i : Nat, p = .int .i64 (i : Int) ∧ i ≤ n ∧ Hid (Vars wr a b1 b2 c n h) ∧ Hid (J i wr)) (fun p _ => n + 1 - (intOf p).toNat)
  case atStart => exact ⟨0, rfl, Nat.zero_le _, HV, HST⟩
  case round =>
    clear HV HST
    obtain ⟨i, rfl, hi, HV, HJI⟩ := hrel
    by_cases hlt : i < n
    · have hr1 := HV.out.ring
      rw [HV.out.row (by omega)] at hr1
      obtain ⟨r1, _⟩ := box_cell hr1
      clear hr1
      obtain ⟨r2, _⟩ := box_cell HV.out.at_
      have hd : (i : Int) < (n : Int) := by omega
      obtain ⟨j, hj⟩ : ∃ j, j = (h + i) % n := ⟨_, rfl⟩
      have hjn : j < n := by rw [hj]; exact Nat.mod_lt _ (by omega)
      have hmod : (IntKind.i64.wrap ((h : Int) + (i : Int))).tmod (n : Int) = (j : Int) := by rw [hj]; exact tmod_nat h i n hh (by omega)
      obtain ⟨fn, tmps, assign, body, hy, hR⟩ := HY.out 8 i wr.drew (HJ.out i wr wr.drew HJI.out (Below.refl _ wr).drew) hlt
      rw [← hj] at hy
      have HJN := hid_mk hj
      clear hj
      refine (wpIn_wide (n := 9)).1 ?_
      gi_wp2
      have hn0 : ¬ (n : Int) = 0 := by omega
      have hn1 : ¬ n = 0 := by omega
      have hmix : Try.prog.follows .mixedOrders = true := by kernel_rfl
      gi_region_with_o (refine hR.mono ?_; rintro e W3 ⟨b, rfl, hG⟩)
      all_goals
        have HG := hid_mk hG
        clear hR hy hG r1 r2 hmod hn0 hn1 HY
        cases b with
        | false =>
          have HX : Hid (Jx W3) := by
            rcases HG.out with ⟨h, _⟩ | ⟨_, h⟩
            · cases h
            · exact h
          clear HG
          gi_wp2
          go_wp2
          refine bodyPost_ret (results_none rfl _ _ _) rfl ?_
          exact ⟨⟨_, rfl⟩, .inr HX.out⟩
        | true =>
          have HN : Hid (J (i + 1) W3 ∧ Vars W3 a b1 b2 c n h) := by
            rcases HG.out with ⟨_, h1, h2⟩ | ⟨h, _⟩
            · exact ⟨h1, (HV.out.below (w' := wr.drew) (Below.refl _ wr).drew).kp h2⟩
            · cases h
          clear HG HV HJI
          gi_wp2
          go_wp2
          go_roundw
          case rel => exact ⟨i + 1, by go_num, by omega, HN.out.2, HN.out.1⟩
          case measure => simp only [intOf]; omega
    · have hie : i = n := by omega
      subst hie
      clear HY
      go_wp2
      go_end0
      exact ⟨⟨_, rfl⟩, .inl HJI.out⟩
end Go.Proofs.Ytdgbebgjenfmbaa.M
