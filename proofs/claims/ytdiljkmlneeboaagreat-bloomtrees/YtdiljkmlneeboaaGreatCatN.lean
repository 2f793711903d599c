/- slices.Concat of three. -/
import Derived.Test.YtdiljkmlneeboaaGreatRowN
import Derived.Maps.AppendAt
import Derived.Deep.DeepMust
namespace Go.Proofs.YtdiljkmlneeboaaGreat.N
open Go.RowKit
set_option maxRecDepth 100000

theorem run_append_empty {w : World} {base size n : Nat} {t t' e : TypeId} {i : TypeInfo} {v : Value} {xs : List Value} (ht : Tryz.prog.underlying t = some (.slice e)) (hi : Tryz.prog.info? e = some i) (hown : w.ownsRow base e size v n xs) (x : Option Addr) (c : Nat) :
    (Builtin.append_ #[t, t] t' #[v, .slice x 0 c]).run Tryz.prog w = .ok v w := by
  obtain ⟨hl, h⟩ := hown
  rcases h with ⟨rfl, hn⟩ | ⟨g, cap, cur, rfl, _, hg, hnc, hcm, hsz, hx⟩
  · cases x <;> simp [Builtin.append_, run_underlying ht, sizeOf, typeInfo, hi, Builtin.lenOf, Builtin.firstCells, loadCells, loadCellsFrom]
  · cases x <;> simp [Builtin.append_, run_underlying ht, sizeOf, typeInfo, hi, Builtin.lenOf, Builtin.firstCells, loadCells, loadCellsFrom, storeCells, hnc]
theorem wpList_append_same {P : Program} (w : World) {ops : Array Oper} {rest : List Oper} {o : Oper} {a : Act} {Q : Exit → Act → World → Prop} (hgd : o.guard = none) (s x : Operand) (t : TypeId)
    (ho : o.op = .call { callee := .builtin .append, args := #[s, x], argTypes := #[t, t] }) (v u : Value) (hs : a.eval s = v) (hx : a.eval x = u) (hr : (Builtin.append_ #[t, t] o.type #[v, u]).run P w = .ok v w) (h : wpList P ops Q rest (a.put o.dst v) w) : wpList P ops Q (o :: rest) a w := by
  refine wpList_plain hgd fun K hK => ?_
  unfold Oper.wp execOp
  simp only [ho, resolve, invoke, builtin, Sem.run_bind, Sem.run_pure, Result.andThen_ok, List.map_toArray, List.map_cons, List.map_nil, hs, hx, hr]
  exact hK _ _ h
/-- An append of whatever a slice speaks of to a row of one's own. -/
theorem wpList_append_rowAt {ops : Array Oper} {rest : List Oper} {o : Oper} {a : Act} {Q : Exit → Act → World → Prop} {w : World} (hgd : o.guard = none) (s x : Operand) (t : TypeId) (ho : o.op = .call { callee := .builtin .append, args := #[s, x], argTypes := #[t, t] })
    {B : Nat} {e : TypeId} {i : TypeInfo} {z : Value} {size bytes : Nat} (ht : Tryz.prog.underlying t = some (.slice e)) (hi : Tryz.prog.info? e = some i) (hz : i.zero = some z) (hsize : i.size = size) (hby : i.bytes = bytes) (hzs : z.cells.size = size) (hsz : 0 < size) (hbl : bytes ≤ 1000)
    {v : Value} {ua : Option Addr} {n m c : Nat} {xs ys : List Value} (hs : a.eval s = v) (hx : a.eval x = .slice ua m c) (hown : w.ownsRow B e size v n xs) (hsrc : RowAt w size ua m c ys) (hn : n + m ≤ 1000000) (hB : B ≤ w.heap.size)
    (h : ∀ v' w', w'.ownsRow B e size v' (n + m) (xs ++ ys) → w.grownBy w' v.ownBlock → (v'.ownBlock = v.ownBlock ∨ v'.ownBlock = some w.heap.size) → wpList Tryz.prog ops Q rest (a.put o.dst v') w') : wpList Tryz.prog ops Q (o :: rest) a w := by
  obtain ⟨hl, hmc, hcm, h1, hc⟩ := hsrc
  rcases hc with ⟨rfl, rfl⟩ | ⟨b, off, rfl, _, hcell⟩
  · obtain rfl : m = 0 := by omega
    have hy0 : ys = [] := List.length_eq_zero_iff.1 (by simpa using hl)
    subst hy0
    refine wpList_append_same w hgd s x t ho v _ hs hx (run_append_empty ht hi hown _ _) ?_
    exact h v w (by simpa using hown) ⟨rfl, rfl, rfl, Nat.le_refl _, fun _ _ _ => rfl⟩ (.inl rfl)
  · refine wpList_append_own_at w hgd s x t ho B e i z size bytes ht hi hz hsize hby hzs hsz v n xs hs hown ⟨b, off, none⟩ m c ys hx hl (fun j y hy => by rw [Addr.add_mid]; exact hcell j y hy) h1 (by unfold maxLen; omega) ?_ hB ?_
    · exact Nat.le_trans (Nat.mul_le_mul hn hbl) (by decide)
    · intro v' w' q1 q2 _ q4
      exact h v' w' q1 q2 q4
def sumN (n : Nat → Nat) : Nat → Nat
  | 0 => 0
  | k + 1 => sumN n k + n k
def catN (x : Nat → List Value) : Nat → List Value
  | 0 => []
  | k + 1 => catN x k ++ x k
theorem catN_one {x : Nat → List Value} : ∀ m, (∀ k, k < m → ∀ u ∈ x k, u.oneCell' = true) → ∀ u ∈ catN x m, u.oneCell' = true
  | 0, _, u, hu => by cases hu
  | m + 1, h, u, hu => by
    rcases List.mem_append.1 hu with hu | hu
    · exact catN_one m (fun k hk => h k (by omega)) u hu
    · exact h m (by omega) u hu
theorem sumN_le {n : Nat → Nat} {N : Nat} (h : ∀ k, k < 3 → n k ≤ N) : ∀ k, k ≤ 3 → sumN n k ≤ 3 * N := by
  have h0 := h 0 (by omega)
  have h1 := h 1 (by omega)
  have h2 := h 2 (by omega)
  intro k hk
  have : k = 0 ∨ k = 1 ∨ k = 2 ∨ k = 3 := by omega
  rcases this with rfl | rfl | rfl | rfl <;> simp only [sumN] <;> omega
set_option maxHeartbeats 400000 in
theorem catI {w : World} {b : Nat} {p : Nat → Option Addr} {n c : Nat → Nat} {x : Nat → List Value} (hb : b < w.heap.size) (hp : ∀ k, k < 3 → w.cell? ⟨b, k, none⟩ = some (.slice (p k) (n k) (c k))) (hr : ∀ k, k < 3 → RowAt w 1 (p k) (n k) (c k) (x k)) (hn : ∀ k, k < 3 → n k ≤ 300000) :
    Calls Tryz.prog 121 #[.slice (some ⟨b, 0, none⟩) 3 3] w fun e w' => ∃ a' c', e = .returned (.slice a' (sumN n 3) c') ∧ RowAt w' 1 a' (sumN n 3) c' (catN x 3) ∧ NewAt w.heap.size a' ∧ Below w.heap.size w w' := by
  obtain ⟨i0, hi0, hz0, hz1, hz2⟩ := info_parts Tryz.info3
  have hsum := sumN_le hn
  have H1 : Hid (∀ u ∈ catN x 3, u.oneCell' = true) := catN_one 3 (fun k hk => (hr k hk).2.2.2.1)
  have HP := hid_mk hp
  have HR := hid_mk hr
  have HN := hid_mk hn
  have HS := hid_mk hsum
  clear hp hr hn hsum
  go_enter Tryz.func121, Tryz.ntmps121
  go_wp2
  go_loopw [3, 11] (fun a3 a11 wr => ∃ k : Nat, a11 = .int .i64 k ∧ a3 = .int .i64 (sumN n k : Nat) ∧ k ≤ 3 ∧ wr = w) (fun _ a11 _ => 4 - (intOf a11).toNat)
  case atStart => exact ⟨0, rfl, rfl, by omega, rfl⟩
  case round =>
    obtain ⟨k, rfl, rfl, hk, hwr⟩ := hrel
    have hwr2 := hwr.symm
    subst hwr2
    clear hwr
    by_cases hlt : k < 3
    · have q0 := HP.out k hlt
      have s0 := HS.out k hk
      have s1 := HS.out (k + 1) (by omega)
      have HE : Hid (sumN n (k + 1) = sumN n k + n k) := (rfl : _ = _)
      rw [HE.out] at s1
      have hnn : ¬ ((sumN n k : Nat) : Int) + (n k : Nat) < 0 := by omega
      generalize sumN n k = sk at *
      generalize n k = nk at *
      generalize p k = pk at *
      generalize c k = ck at *
      go_wp2
      go_roundw
      case rel => exact ⟨k + 1, by go_num, by rw [HE.out]; go_num, by omega, trivial⟩
      case measure => simp [intOf]; omega
    · obtain rfl : k = 3 := by omega
      have s3 := HS.out 3 (Nat.le_refl _)
      have hg := growI (w := w) (n := sumN n 3) (by omega)
      have hbig := HS.out 3 (Nat.le_refl _)
      obtain ⟨S3, HS3⟩ : ∃ S3, Hid (sumN n 3 = S3) := ⟨_, hid_mk rfl⟩
      rw [HS3.out] at hg s3 hbig
      simp only [HS3.out]
      go_wp2_with (go_at_call 143; fail)
      refine hg.mono ?_
      rintro e w1 ⟨v1, rfl, hown, hB1⟩
      have HO := hid_mk hown
      have HB1 := hid_mk hB1
      clear hg hown hB1
      go_wp2
      go_loopw [6, 27] (fun a6 a27 wq => ∃ k : Nat, a27 = .int .i64 k ∧ k ≤ 3 ∧ wq.ownsRow w.heap.size 3 1 a6 (sumN n k) (catN x k) ∧ Below w.heap.size w wq) (fun _ a27 _ => 4 - (intOf a27).toNat)
      case atStart => exact ⟨0, rfl, by omega, HO.out, HB1.out⟩
      case round =>
        obtain ⟨k, rfl, hk, hown, hB⟩ := hrel
        by_cases hlt : k < 3
        · have q0 := (hB.cell (p := ⟨b, k, none⟩) hb).trans (HP.out k hlt)
          have hbx : b < wr.heap.size := Nat.lt_of_lt_of_le hb hB.size
          have hrow := (HR.out k hlt).keep hB
          have hsk := HS.out (k + 1) (by omega)
          have HE : Hid (sumN n (k + 1) = sumN n k + n k) := (rfl : _ = _)
          have HC : Hid (catN x (k + 1) = catN x k ++ x k) := (rfl : _ = _)
          rw [HE.out] at hsk
          have hBs := hB.size
          have HBB := hid_mk hB
          clear hB HP HR HN HS HO HB1
          generalize sumN n k = sk at *
          generalize catN x k = xk at *
          generalize n k = nk at *
          generalize p k = pk at *
          generalize c k = ck at *
          generalize x k = yk at *
          go_wp2_with (at_builtin; go_must (refine wpList_append_rowAt rfl _ _ 43 rfl (B := w.heap.size) Tryz.underlying43 hi0 hz0 hz1 hz2 rfl (by decide) (by decide) rfl rfl hown hrow (by omega) hBs ?_); intro v' w7 hown7 hgrow7 _; have HO7 := hid_mk hown7; have HG7 := hid_mk hgrow7; clear hown7 hgrow7)
          go_roundw
          case rel => exact ⟨k + 1, by go_num, by omega, by rw [HE.out, HC.out]; exact HO7.out, HBB.out.grown HG7.out HBB.out.size (fun k hk => (hown.lt k hk).1)⟩
          case measure => simp [intOf]; omega
        · obtain rfl : k = 3 := by omega
          have h3 := HS3.out
          obtain ⟨a', c', rfl, hrow, hnw⟩ := RowAt.of_owns hown H1.out
          have HNW := hid_mk hnw
          clear hnw
          rw [h3] at hrow
          have HRR := hid_mk hrow
          have HBB := hid_mk hB
          clear hrow hB hown
          go_wp2
          go_ret
          refine ⟨a', c', ?_, ?_, HNW.out, HBB.out⟩
          · rw [h3]
            rfl
          · rw [h3]
            exact HRR.out
set_option maxHeartbeats 400000 in
theorem catA {w : World} {b : Nat} {p : Nat → Option Addr} {n c : Nat → Nat} {x : Nat → List Value} (hb : b < w.heap.size) (hp : ∀ k, k < 3 → w.cell? ⟨b, k, none⟩ = some (.slice (p k) (n k) (c k))) (hr : ∀ k, k < 3 → RowAt w 2 (p k) (n k) (c k) (x k)) (hn : ∀ k, k < 3 → n k ≤ 300000) :
    Calls Tryz.prog 127 #[.slice (some ⟨b, 0, none⟩) 3 3] w fun e w' => ∃ a' c', e = .returned (.slice a' (sumN n 3) c') ∧ RowAt w' 2 a' (sumN n 3) c' (catN x 3) ∧ NewAt w.heap.size a' ∧ Below w.heap.size w w' := by
  obtain ⟨i0, hi0, hz0, hz1, hz2⟩ := info_parts Tryz.info128
  have hsum := sumN_le hn
  have H1 : Hid (∀ u ∈ catN x 3, u.oneCell' = true) := catN_one 3 (fun k hk => (hr k hk).2.2.2.1)
  have HP := hid_mk hp
  have HR := hid_mk hr
  have HN := hid_mk hn
  have HS := hid_mk hsum
  clear hp hr hn hsum
  go_enter Tryz.func127, Tryz.ntmps127
  go_wp2
  go_loopw [3, 11] (fun a3 a11 wr => ∃ k : Nat, a11 = .int .i64 k ∧ a3 = .int .i64 (sumN n k : Nat) ∧ k ≤ 3 ∧ wr = w) (fun _ a11 _ => 4 - (intOf a11).toNat)
  case atStart => exact ⟨0, rfl, rfl, by omega, rfl⟩
  case round =>
    obtain ⟨k, rfl, rfl, hk, hwr⟩ := hrel
    have hwr2 := hwr.symm
    subst hwr2
    clear hwr
    by_cases hlt : k < 3
    · have q0 := HP.out k hlt
      have s0 := HS.out k hk
      have s1 := HS.out (k + 1) (by omega)
      have HE : Hid (sumN n (k + 1) = sumN n k + n k) := (rfl : _ = _)
      rw [HE.out] at s1
      have hnn : ¬ ((sumN n k : Nat) : Int) + (n k : Nat) < 0 := by omega
      generalize sumN n k = sk at *
      generalize n k = nk at *
      generalize p k = pk at *
      generalize c k = ck at *
      go_wp2
      go_roundw
      case rel => exact ⟨k + 1, by go_num, by rw [HE.out]; go_num, by omega, trivial⟩
      case measure => simp [intOf]; omega
    · obtain rfl : k = 3 := by omega
      have s3 := HS.out 3 (Nat.le_refl _)
      have hg := growA (w := w) (n := sumN n 3) (by omega)
      have hbig := HS.out 3 (Nat.le_refl _)
      obtain ⟨S3, HS3⟩ : ∃ S3, Hid (sumN n 3 = S3) := ⟨_, hid_mk rfl⟩
      rw [HS3.out] at hg s3 hbig
      simp only [HS3.out]
      go_wp2_with (go_at_call 145; fail)
      refine hg.mono ?_
      rintro e w1 ⟨v1, rfl, hown, hB1⟩
      have HO := hid_mk hown
      have HB1 := hid_mk hB1
      clear hg hown hB1
      go_wp2
      go_loopw [6, 27] (fun a6 a27 wq => ∃ k : Nat, a27 = .int .i64 k ∧ k ≤ 3 ∧ wq.ownsRow w.heap.size 128 2 a6 (sumN n k) (catN x k) ∧ Below w.heap.size w wq) (fun _ a27 _ => 4 - (intOf a27).toNat)
      case atStart => exact ⟨0, rfl, by omega, HO.out, HB1.out⟩
      case round =>
        obtain ⟨k, rfl, hk, hown, hB⟩ := hrel
        by_cases hlt : k < 3
        · have q0 := (hB.cell (p := ⟨b, k, none⟩) hb).trans (HP.out k hlt)
          have hbx : b < wr.heap.size := Nat.lt_of_lt_of_le hb hB.size
          have hrow := (HR.out k hlt).keep hB
          have hsk := HS.out (k + 1) (by omega)
          have HE : Hid (sumN n (k + 1) = sumN n k + n k) := (rfl : _ = _)
          have HC : Hid (catN x (k + 1) = catN x k ++ x k) := (rfl : _ = _)
          rw [HE.out] at hsk
          have hBs := hB.size
          have HBB := hid_mk hB
          clear hB HP HR HN HS HO HB1
          generalize sumN n k = sk at *
          generalize catN x k = xk at *
          generalize n k = nk at *
          generalize p k = pk at *
          generalize c k = ck at *
          generalize x k = yk at *
          go_wp2_with (at_builtin; go_must (refine wpList_append_rowAt rfl _ _ 74 rfl (B := w.heap.size) Tryz.underlying74 hi0 hz0 hz1 hz2 rfl (by decide) (by decide) rfl rfl hown hrow (by omega) hBs ?_); intro v' w7 hown7 hgrow7 _; have HO7 := hid_mk hown7; have HG7 := hid_mk hgrow7; clear hown7 hgrow7)
          go_roundw
          case rel => exact ⟨k + 1, by go_num, by omega, by rw [HE.out, HC.out]; exact HO7.out, HBB.out.grown HG7.out HBB.out.size (fun k hk => (hown.lt k hk).1)⟩
          case measure => simp [intOf]; omega
        · obtain rfl : k = 3 := by omega
          have h3 := HS3.out
          obtain ⟨a', c', rfl, hrow, hnw⟩ := RowAt.of_owns hown H1.out
          have HNW := hid_mk hnw
          clear hnw
          rw [h3] at hrow
          have HRR := hid_mk hrow
          have HBB := hid_mk hB
          clear hrow hB hown
          go_wp2
          go_ret
          refine ⟨a', c', ?_, ?_, HNW.out, HBB.out⟩
          · rw [h3]
            rfl
          · rw [h3]
            exact HRR.out

end Go.Proofs.YtdiljkmlneeboaaGreat.N
