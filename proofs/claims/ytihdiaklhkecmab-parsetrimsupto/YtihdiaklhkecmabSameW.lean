/- parse.Same of two slices of values: true just if they hold the same tree. -/
import Derived.Test.YtihdiaklhkecmabSameV
namespace Go.Proofs.Ytihdiaklhkecmab
open Go.RowKit
set_option maxRecDepth 100000

theorem bytes_eq {a b : ByteArray} (h : a.toList = b.toList) : a = b := by
  rw [ByteArray.toList_eq, ByteArray.toList_eq] at h
  exact ByteArray.ext (Array.toList_inj.mp h)
theorem below_two (w : World) (o o' : Obj) : Below w.heap.size w ((w.alloc o).alloc o') := ((Below.refl _ w).alloc (Nat.le_refl _) o).alloc (by simp) o'
set_option maxHeartbeats 400000 in
theorem psame1_any {w : World} (t s : T5) (k1 k2 : Value) (p : Bool) (hp : t = s → ∀ w', Below w.heap.size w w' → Calls Try.prog 7 #[k1, k2] w' fun e w'' => e = .returned (.bool p) ∧ Below w'.heap.size w' w'') (hq : t ≠ s → p = false) :
    Calls Try.prog 16 #[.agg (vCells t k1).toArray, .agg (vCells s k2).toArray] w fun e w' => e = .returned (.bool p) ∧ Below w.heap.size w w' := by
  obtain ⟨tk, tx, un, wh, fl⟩ := t
  obtain ⟨sk, sx, vn, xh, gl⟩ := s
  simp only [vCells, List.toArray] at *
  have HP := hid_mk hp
  have HQ := hid_mk hq
  clear hp hq
  go_enter Try.func16, Try.ntmps16
  go_wp2_with (go_at_call 7; fail)
  · have e1 : tk = sk := by assumption
    have e2 : tx.toList = sx.toList := by assumption
    have e3 : un.toList = vn.toList := by assumption
    have e4 : wh = xh := by assumption
    have e5 : fl = gl := by assumption
    have e2' := bytes_eq e2
    have e3' := bytes_eq e3
    have hc := HP.out (by rw [e1, e2', e3', e4, e5]) _ (below_two w (.cells #[.int .i64 sk, .string tx, .string un, .bool xh, .bool gl, k1] 29) (.cells #[.int .i64 sk, .string sx, .string vn, .bool xh, .bool gl, k2] 29))
    refine hc.mono ?_
    rintro e w' ⟨rfl, hB⟩
    have HB : Hid (Below w.heap.size w w') := (below_two w _ _).trans (hB.mono (by simp; omega))
    clear hB hc
    go_wp2
    go_ret
    exact ⟨rfl, HB.out⟩
  all_goals
    rename_i hne
    have hpf : p = false := HQ.out (fun e => by injection e; subst_vars; exact hne rfl)
    subst hpf
    go_ret
    exact ⟨rfl, below_two w _ _⟩

theorem V.eq_iff (x y : V) : x = y ↔ x.tok = y.tok ∧ x.kids = y.kids := by
  cases x
  cases y
  simp [V.tok, V.kids]
set_option maxHeartbeats 400000 in
theorem psame_any {P Q : Nat → Prop} {W : World} {v : Value} {vs : List V} (h : VsAt P W v vs) : ∀ u us, VsAt Q W u us → ∀ w, Below W.heap.size W w → ∀ p : Bool, (p = true ↔ vs = us) →
    Calls Try.prog 7 #[v, u] w fun e w' => e = .returned (.bool p) ∧ Below w.heap.size w w' := by
  induction h with
  | mk a cap vs b off kv h1 h2 ha hc hr ih =>
    intro u us hu w hw p hp
    obtain ⟨a', cap', rfl, h1', h2'⟩ := hu.slice
    obtain ⟨_, _, _, hu'⟩ := hu.cells
    have HA := hid_mk ha
    have HC := hid_mk hc
    have HR := hid_mk hr
    have HI := hid_mk ih
    have HU := hid_mk hu'
    have HW := hid_mk hw
    have HP := hid_mk hp
    clear hu ha hc hr ih hu' hw hp
    have h43 : Hid (Calls Try.prog 15 #[.slice a vs.length cap, .slice a' us.length cap', .func (.func 16) #[] #[]] w fun e w' => e = .returned (.bool p) ∧ Below w.heap.size w w') := by
      show Calls _ _ _ _ _
      by_cases hle : vs.length = us.length
      · go_enter Try.func15, Try.ntmps15
        go_wp2
        go_loopw [17] (fun i wr => ∃ (k : Nat), i = .int .i64 k ∧ k ≤ vs.length ∧ vs.take k = us.take k ∧ Below w.heap.size w wr) (fun i _ => vs.length + 1 - (intOf i).toNat)
        case atStart => exact ⟨0, rfl, Nat.zero_le _, by simp, Below.refl _ _⟩
        case round =>
          obtain ⟨k, rfl, hk, htk, hB⟩ := hrel
          by_cases hlt : k < vs.length
          · have hlt' : k < us.length := by omega
            obtain ⟨rfl, hb, -⟩ := HA.out (by omega)
            obtain ⟨b', off', kv', rfl, hb', hc', hr'⟩ := HU.out k hlt'
            have hWr : Below W.heap.size W wr := HW.out.trans (hB.mono HW.out.size)
            have hal : ∀ o o', Below wr.heap.size wr ((wr.alloc o).alloc o') := below_two wr
            have hbx : b < wr.heap.size := Nat.lt_of_lt_of_le hb hWr.size
            have hby : b' < wr.heap.size := Nat.lt_of_lt_of_le hb' hWr.size
            have ac := fun j y hy => (hWr.cell (p := ⟨b, off + k * 6 + j, none⟩) hb).trans (HC.out k hlt j y hy)
            have bc := fun j y hy => (hWr.cell (p := ⟨b', off' + k * 6 + j, none⟩) hb').trans (hc' j y hy)
            obtain ⟨q, hq⟩ : ∃ q : Bool, q = true ↔ vs[k]'hlt = us[k]'hlt' := by
              classical exact ⟨decide (vs[k]'hlt = us[k]'hlt'), decide_eq_true_iff⟩
            have hcall : ∀ w1, Below wr.heap.size wr w1 → Calls Try.prog 16 #[.agg (vCells (vs[k]'hlt).tok (kv k)).toArray, .agg (vCells (us[k]'hlt').tok kv').toArray] w1 fun e w' => e = .returned (.bool q) ∧ Below w1.heap.size w1 w' := by
              intro w1 hw1
              refine psame1_any _ _ _ _ q (fun et w2 hw2 => ?_) (fun hne => ?_)
              · refine HI.out k hlt kv' _ hr' w2 ((hWr.trans (hw1.mono hWr.size)).trans (hw2.mono (hWr.trans (hw1.mono hWr.size)).size)) q ?_
                rw [hq, V.eq_iff]
                exact ⟨fun h => h.2, fun h => ⟨et, h⟩⟩
              · cases q
                · rfl
                · exact absurd (congrArg V.tok (hq.1 rfl)) hne
            have HQ : Hid (q = true → vs.take (k + 1) = us.take (k + 1)) := fun h => by
              rw [List.take_succ_eq_append_getElem hlt, List.take_succ_eq_append_getElem hlt', htk, hq.1 h]
            have HN : Hid (q = false → p = false) := fun h => by
              cases p
              · rfl
              · have e := HP.out.1 rfl
                subst e
                rw [hq.2 rfl] at h
                cases h
            obtain ⟨x1, c1, e1, _, _⟩ := (HR.out k hlt).slice
            obtain ⟨x2, c2, e2, _, _⟩ := hr'.slice
            rw [e1] at ac hcall
            rw [e2] at bc hcall
            generalize (vs[k]'hlt).kids.length = kn at *
            generalize (us[k]'hlt').kids.length = km at *
            generalize (vs[k]'hlt).tok = t at *
            generalize (us[k]'hlt').tok = s at *
            obtain ⟨tk, tx, un, wh, fl⟩ := t
            obtain ⟨sk, sx, vn, xh, gl⟩ := s
            simp only [vCells] at hcall ac bc
            have a0 := ac 0 _ rfl
            have a1' := ac 1 _ rfl
            have a2' := ac 2 _ rfl
            have a3 := ac 3 _ rfl
            have a4 := ac 4 _ rfl
            have a5 := ac 5 _ rfl
            have b0 := bc 0 _ rfl
            have b1 := bc 1 _ rfl
            have b2 := bc 2 _ rfl
            have b3 := bc 3 _ rfl
            have b4 := bc 4 _ rfl
            have b5 := bc 5 _ rfl
            simp only [Nat.add_zero] at a0 b0
            have HCALL := hid_mk hcall
            have HAL := hid_mk hal
            have HB := hid_mk hB
            clear ac bc hc' hr' hWr HA HC HR HI HU HW hq htk hcall hal hB HP e1 e2
            go_wp2_with (go_at_call 16; fail)
            refine (HCALL.out _ (HAL.out _ _)).mono ?_
            rintro e w1 ⟨rfl, hB1⟩
            have HB1 : Hid (Below w.heap.size w w1) := by
              have h := (HAL.out _ _).trans (hB1.mono (HAL.out _ _).size)
              exact HB.out.trans (h.mono HB.out.size)
            clear HCALL HAL HB hB1 a0 a1' a2' a3 a4 a5 b0 b1 b2 b3 b4 b5
            cases q
            · have hpf := HN.out rfl
              subst hpf
              go_wp2
              go_ret
              exact ⟨rfl, HB1.out⟩
            · go_wp2
              go_roundw
              case rel => exact ⟨k + 1, by go_num, by omega, HQ.out (by first | trivial | rfl), HB1.out⟩
              case measure => simp [intOf]; omega
          · have e : vs = us := by
              have h3 : k = vs.length := by omega
              rw [h3, List.take_length, hle, List.take_length] at htk
              exact htk
            have hpt : p = true := HP.out.2 e
            subst hpt
            go_wp2
            go_ret
            exact ⟨rfl, hB⟩
      · have hpf : p = false := by
          cases p
          · rfl
          · exact absurd (congrArg List.length (HP.out.1 rfl)) hle
        subst hpf
        go_enter Try.func15, Try.ntmps15
        go_wp2
        go_ret
        exact ⟨rfl, Below.refl _ _⟩
    go_enter Try.func7, Try.ntmps7
    go_wp2_with (go_at_call 15; fail)
    refine h43.out.mono ?_
    rintro e w' ⟨rfl, hB⟩
    have HB := hid_mk hB
    clear hB h43
    go_wp2
    go_ret
    exact ⟨rfl, HB.out⟩

end Go.Proofs.Ytihdiaklhkecmab
