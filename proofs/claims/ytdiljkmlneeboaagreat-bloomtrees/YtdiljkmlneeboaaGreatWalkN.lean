/- trie.node's find, way and put. -/
import Derived.Test.YtdiljkmlneeboaaGreatNodeN
import Derived.Test.YtdiljkmlneeboaaGreatModel
import Derived.LaidEqlPtr
namespace Go.Proofs.YtdiljkmlneeboaaGreat.N
open Go.RowKit
set_option maxRecDepth 100000

theorem fld0 (x y : Value) (w : World) : (Instr.field 148 (.agg #[x, y]) 0).run Tryz.prog w = .ok x w := by
  simp [Instr.field, part, go_sem, run_underlying Tryz.underlying148, asAgg]
theorem fld1 (x y : Value) (w : World) : (Instr.field 148 (.agg #[x, y]) 1).run Tryz.prog w = .ok y w := by
  simp [Instr.field, part, go_sem, run_underlying Tryz.underlying148, asAgg]
set_option maxHeartbeats 800000 in
theorem find_any {W0 : World} {t : T} (h : Held (151, 76) W0 t) (w : World) (hw : Below W0.heap.size W0 w) (n : Nat) : Calls Tryz.prog 122 #[t.bp, .int .i64 n] w fun e w' => e = .returned (findT 5 t n).vp ∧ Below w.heap.size w w' := by
  have HH := hid_mk (Held.keep hw h)
  clear h hw
  have hf0 := fld0
  have hf1 := fld1
  obtain ⟨P0, hP0⟩ : ∃ P0, P0 = t.bp := ⟨_, rfl⟩
  rw [← hP0]
  go_enter Tryz.func122, Tryz.ntmps122
  go_wp2
  go_loopw [0, 5] (fun a0 a5 wr => ∃ (L : Nat) (u : T), L ≤ 4 ∧ a0 = u.bp ∧ a5 = .int .i64 ((4 * L : Nat) : Int) ∧ Held (151, 76) w u ∧ findT 5 t n = findT (L + 1) u n ∧ Below w.heap.size w wr) (fun _ a5 _ => (intOf a5).toNat)
  case atStart => exact ⟨4, t, Nat.le_refl _, hP0, rfl, HH.out, rfl, Below.refl _ _⟩
  case round =>
    obtain ⟨L, u, hL, rfl, rfl, hu, hf, hB⟩ := hrel
    have HU := hid_mk hu
    have HF := hid_mk hf
    have HB := hid_mk hB
    clear hu hf hB
    obtain ⟨P1, hP1⟩ : ∃ P1, P1 = u.bp := ⟨_, rfl⟩
    have HP := hid_mk hP1
    rw [← hP1]
    clear hP1 hP0 HH
    have hpart := fun w' => part_any n L (by omega) w'
    have hat : ∀ w', Below w.heap.size w w' → Calls Tryz.prog 124 #[P1, .int .i64 (prt n L)] w' fun e w'' => e = .returned (.agg #[(u.kid (prt n L)).bp, (u.kid (prt n L)).vp]) ∧ Below w'.heap.size w' w'' := fun w' hw' => by
      rw [HP.out]
      exact at_any HU.out w' hw' _ (prt_lt _ _)
    have HAT := hid_mk hat
    clear hat
    cases L with
    | zero =>
      have hpart0 : ∀ w', Calls Tryz.prog 123 #[.int .i64 n, .int .i64 0] w' fun e w'' => e = .returned (.int .i64 (prt n 0)) ∧ w'' = w' := hpart
      clear hpart
      go_wp2_with (first | (go_at_call 123; refine (hpart0 _).mono ?_; rintro e w1 ⟨rfl, rfl⟩) | (go_at_call 124; refine (HAT.out _ HB.out).mono ?_; rintro e w1 ⟨rfl, hb1⟩))
      go_ret
      exact ⟨by rw [HF.out]; rfl, HB.out.trans (hb1.mono HB.out.size)⟩
    | succ L =>
      go_wp2_with (first | (go_at_call 123; refine (hpart _).mono ?_; rintro e w1 ⟨rfl, rfl⟩) | (go_at_call 124; refine (HAT.out _ HB.out).mono ?_; rintro e w1 ⟨rfl, hb1⟩))
      go_roundw
      case rel => exact ⟨L, u.kid (prt n (L + 1)), by omega, rfl, congrArg (Value.int .i64) (by omega), HU.out.kid _ (prt_lt _ _), HF.out, HB.out.trans (hb1.mono HB.out.size)⟩
      case measure => simp [intOf]; omega

set_option maxHeartbeats 800000 in
theorem way_any {W0 : World} {t : T} (h : Held (151, 76) W0 t) (hwf : wfT 5 t) (w : World) (hw : Below W0.heap.size W0 w) (n : Nat) : Calls Tryz.prog 93 #[t.bp, .int .i64 n] w fun e w' => e = .returned (.int .i64 (wayT 5 t n)) ∧ Below w.heap.size w w' := by
  have HH := hid_mk (Held.keep hw h)
  have HWF := hid_mk hwf
  clear h hw hwf
  have hf0 := fld0
  have hf1 := fld1
  obtain ⟨P0, hP0⟩ : ∃ P0, P0 = t.bp := ⟨_, rfl⟩
  rw [← hP0]
  go_enter Tryz.func93, Tryz.ntmps93
  go_wp2
  go_loopw [0, 5, 6] (fun a0 a5 a6 wr => ∃ (L c : Nat) (u : T), L ≤ 5 ∧ c + L = 5 ∧ a0 = u.bp ∧ a5 = .int .i64 (c : Int) ∧ a6 = .int .i64 (((4 * L : Nat) : Int) - 4) ∧ Held (151, 76) w u ∧ wfT L u ∧ wayT 5 t n = c + wayT L u n ∧ Below w.heap.size w wr) (fun _ _ a6 _ => (intOf a6 + 4).toNat)
  case atStart => exact ⟨5, 0, t, Nat.le_refl _, rfl, hP0, rfl, rfl, HH.out, HWF.out, by simp, Below.refl _ _⟩
  case round =>
    obtain ⟨L, c, u, hL, hc, rfl, rfl, rfl, hu, huw, hf, hB⟩ := hrel
    have HU := hid_mk hu
    have HW := hid_mk huw
    have HF := hid_mk hf
    have HB := hid_mk hB
    clear hu hf hB huw hP0 HH HWF
    by_cases hk : ∀ b k, u ≠ .node b k
    · obtain ⟨q1, q2⟩ := T.bp_nil hk
      have hz : Hid (wayT L u n = 0) := by
        show _ = _
        cases L with
        | zero => rfl
        | succ L => cases u with
          | nil => rfl
          | val b v => rfl
          | node b k => exact absurd rfl (hk b k)
      rw [q1]
      go_wp2
      go_ret
      exact ⟨by rw [HF.out, hz.out]; rfl, HB.out⟩
    · obtain ⟨b, k, rfl⟩ : ∃ b k, u = .node b k := by
        cases u with
        | nil => exact absurd (fun b k => by simp) hk
        | val b v => exact absurd (fun b k => by simp) hk
        | node b k => exact ⟨b, k, rfl⟩
      cases L with
      | zero => exact absurd rfl (HW.out b k)
      | succ L =>
        have hpart : ∀ w', Calls Tryz.prog 123 #[.int .i64 n, .int .i64 (((4 * (L + 1) : Nat) : Int) - 4)] w' fun e w'' => e = .returned (.int .i64 (prt n L)) ∧ w'' = w' := fun w' => by
          rw [show (((4 * (L + 1) : Nat) : Int) - 4) = ((4 * L : Nat) : Int) by omega]
          exact part_any n L (by omega) w'
        have hat : ∀ w', Below w.heap.size w w' → Calls Tryz.prog 124 #[.pointer (some ⟨b, 0, none⟩), .int .i64 (prt n L)] w' fun e w'' => e = .returned (.agg #[(k (prt n L)).bp, (k (prt n L)).vp]) ∧ Below w'.heap.size w' w'' := fun w' hw' => at_any HU.out w' hw' _ (prt_lt _ _)
        have HAT := hid_mk hat
        have HPT := hid_mk hpart
        clear hat hpart
        show Code.wp _ _ _ ⟨#[.pointer (some ⟨b, 0, none⟩), _, _, _, _, _, _, _, _, _, _, _, _, _, _, _, _, _, _, _], _⟩ _
        go_wp2_with (first | (go_at_call 123; refine (HPT.out _).mono ?_; rintro e w1 ⟨rfl, rfl⟩) | (go_at_call 124; refine (HAT.out _ HB.out).mono ?_; rintro e w1 ⟨rfl, hb1⟩))
        refine ⟨⟨L, c + 1, k (prt n L), by omega, by omega, rfl, rfl, congrArg (Value.int .i64) (by omega), HU.out.2 _ (prt_lt _ _), HW.out _ (prt_lt _ _), ?_, HB.out.trans (hb1.mono HB.out.size)⟩, by simp only [intOf]; omega⟩
        rw [HF.out, wayT]
        omega

set_option maxHeartbeats 800000 in
theorem put_any (n bv : Nat) (v : Value) : ∀ (L : Nat), L ≤ 4 → ∀ (t : T) (w : World), Held (151, 76) w t → Held (151, 76) w (.val bv v) → Calls Tryz.prog 119 #[t.bp, .int .i64 n, .int .i64 ((4 * L : Nat) : Int), .pointer (some ⟨bv, 0, none⟩)] w fun e w' =>
    ∃ t', e = .returned t'.bp ∧ Held (151, 76) w' t' ∧ PutT w.heap.size L t n (.val bv v) t' ∧ Below w.heap.size w w' := by
  intro L
  induction L with
  | zero =>
    intro hL t w ht hv
    have hpart : ∀ w', Calls Tryz.prog 123 #[.int .i64 n, .int .i64 0] w' fun e w'' => e = .returned (.int .i64 (prt n 0)) ∧ w'' = w' := fun w' => part_any n 0 (by omega) w'
    have HPT := hid_mk hpart
    have HWI := hid_mk (with_any ht w (Below.refl _ _) (prt n 0) (prt_lt _ _) (x := .val bv v))
    have HT := hid_mk ht
    have HV := hid_mk hv
    clear ht hv hpart
    obtain ⟨P0, hP0⟩ : ∃ P0, P0 = t.bp := ⟨_, rfl⟩
    rw [← hP0] at HWI
    rw [← hP0]
    clear hP0
    show Calls Tryz.prog 119 #[P0, .int .i64 n, .int .i64 0, .pointer (some ⟨bv, 0, none⟩)] w _
    go_enter Tryz.func119, Tryz.ntmps119
    go_wp2_with (first | (go_at_call 123; refine (HPT.out _).mono ?_; rintro e w1 ⟨rfl, rfl⟩) | (go_at_call 125; refine HWI.out.mono ?_; rintro e w1 ⟨b1, rfl, hb1, hc1, hB1⟩))
    go_ret
    exact ⟨.node b1 (t.upd (prt n 0) (.val bv v)), rfl, ⟨hc1, Held.upd (HT.out.keep hB1) (HV.out.keep hB1) _⟩, ⟨b1, hb1, rfl⟩, hB1⟩
  | succ L ih =>
    intro hL t w ht hv
    have hpart := fun w' => part_any n (L + 1) (by omega) w'
    have HPT := hid_mk hpart
    have HAT := hid_mk (at_any ht w (Below.refl _ _) (prt n (L + 1)) (prt_lt _ _))
    have HIH := hid_mk (ih (by omega))
    have HT := hid_mk ht
    have HV := hid_mk hv
    have hf0 := fld0
    have HWI : Hid (∀ w' x, Below w.heap.size w w' → _) := fun w' x hw' => with_any ht w' hw' (prt n (L + 1)) (prt_lt _ _) (x := x)
    clear ht hv hpart ih
    obtain ⟨P0, hP0⟩ : ∃ P0, P0 = t.bp := ⟨_, rfl⟩
    rw [← hP0] at HAT
    rw [← hP0]
    have HP := hid_mk hP0
    clear hP0
    go_enter Tryz.func119, Tryz.ntmps119
    go_wp2_with (first | (go_at_call 123; refine (HPT.out _).mono ?_; rintro e w1 ⟨rfl, rfl⟩) | (go_at_call 124; refine HAT.out.mono ?_; rintro e w1 ⟨rfl, hB1⟩) | (go_at_call 119; rw [show ((4 : Int) * ((L : Int) + 1) - 4) = ((4 * L : Nat) : Int) by omega]; refine (HIH.out _ _ ((HT.out.keep hB1).kid _ (prt_lt _ _)) (HV.out.keep hB1)).mono ?_; rintro e w2 ⟨t2, rfl, hH2, hP2, hB2⟩; obtain ⟨b2, k2, hb2, rfl⟩ := hP2.node; rw [show (T.node b2 k2).bp = .pointer (some ⟨b2, 0, none⟩) from rfl]; have hB02 := hB1.trans (hB2.mono hB1.size); have HW2 := hid_mk (HWI.out w2 (.node b2 k2) hB02); rw [← HP.out] at HW2; clear HWI) | (go_at_call 125; refine HW2.out.mono ?_; rintro e w3 ⟨b3, rfl, hb3, hc3, hB3⟩))
    go_ret
    exact ⟨.node b3 (t.upd (prt n (L + 1)) (.node b2 k2)), rfl, ⟨hc3, Held.upd (HT.out.keep (hB02.trans (hB3.mono hB02.size))) (hH2.keep hB3) _⟩, ⟨b3, .node b2 k2, Nat.le_trans hB02.size hb3, hP2.mono hB1.size, rfl⟩, hB02.trans (hB3.mono hB02.size)⟩

theorem eql_nil (w : World) (a : Addr) : (binOp .eql 146 (.pointer (some a)) (.pointer none)).run Tryz.prog w = .ok (.bool false) w := by
  have h : ∀ d : Nat, (Op.equalIn (d + 1) 146 (.pointer (some a)) (.pointer none)).run Tryz.prog w = .ok false w := fun d => by
    simp [Op.equalIn, run_underlying Tryz.underlying146]
  simp only [binOp]
  simp [Op.equal, Op.maxDepth, h 9999]
theorem node_info : ∃ j, Tryz.prog.info? 151 = some j ∧ j.size ≠ 0 := by
  have h := info107
  cases hj : Tryz.prog.info? 151 with
  | none => rw [hj] at h; cases h
  | some j =>
    rw [hj] at h
    have : j.size = 32 := by simpa using h
    exact ⟨j, rfl, by omega⟩
end Go.Proofs.YtdiljkmlneeboaaGreat.N
