/- The tokens of values, and that they are read as those values again. parse.Flat: the tokens of values. gouacheref03.Deep: whether values are nested deeper than some. -/
import Derived.Test.YtihdiaklhkecmaaValuesV
import Derived.Test.YtihdiaklhkecmaaPValues
namespace Go.Proofs.Ytihdiaklhkecmaa
open Go.RowKit

/-- The token that closes what a kind opens. -/
def endT (k : Int) : T5 := ⟨k, ⟨#[]⟩, ⟨#[]⟩, false, false⟩
mutual
/-- The tokens of a value, of values. -/
def flatV : V → List T5
  | .mk t ks => t :: (if closeZ t.k = 0 then [] else flatL ks ++ [endT (closeZ t.k)])
def flatL : List V → List T5
  | [] => []
  | v :: r => flatV v ++ flatL r
end
theorem flatL_append (a b : List V) : flatL (a ++ b) = flatL a ++ flatL b := by
  induction a with
  | nil => rfl
  | cons x r ih => rw [List.cons_append, flatL, flatL, ih, List.append_assoc]
theorem flatL_take (vs : List V) (k : Nat) (h : k < vs.length) : flatL (vs.take (k + 1)) = flatL (vs.take k) ++ flatV (vs[k]'h) := by
  rw [List.take_succ_eq_append_getElem h, flatL_append]
  simp [flatL]
theorem flatL_take_len (vs : List V) (k : Nat) : (flatL (vs.take k)).length ≤ (flatL vs).length := by
  have h : flatL vs = flatL (vs.take k) ++ flatL (vs.drop k) := by rw [← flatL_append, List.take_append_drop]
  rw [h, List.length_append]
  omega
/-- Values as they are read, up to what closes them, so deep. -/
inductive Ok : Int → Int → List V → Prop
  | nil (c n : Int) : Ok c n []
  | flat {c n : Int} {t : T5} {r : List V} (h1 : ¬(c ≠ 0 ∧ t.k = c)) (h2 : closeZ t.k = 0) (hr : Ok c n r) : Ok c n (.mk t [] :: r)
  | block {c n : Int} {t : T5} {ks r : List V} (h1 : ¬(c ≠ 0 ∧ t.k = c)) (h2 : closeZ t.k ≠ 0) (h3 : n + 1 ≤ 64) (hk : Ok (closeZ t.k) (n + 1) ks) (hr : Ok c n r) : Ok c n (.mk t ks :: r)
theorem some_ok : ∀ (f : Nat) (l : List T5) (c n : Int), Ok c n (someZ f l c n).1
  | 0, _, c, n => .nil c n
  | _ + 1, [], c, n => .nil c n
  | f + 1, t :: r, c, n => by
    rw [someZ]
    split
    · exact .nil c n
    · split
      · exact .flat (by assumption) (by assumption) (some_ok f r c n)
      · split
        · exact some_ok f _ c n
        · exact .block (by assumption) (by assumption) (by omega) (some_ok f r _ _) (some_ok f _ c n)
theorem some_fuel : ∀ (f g : Nat) (l : List T5) (c n : Int), l.length ≤ f → l.length ≤ g → someZ f l c n = someZ g l c n
  | f, g, [], c, n, _, _ => by rw [someZ_nil, someZ_nil]
  | 0, _, t :: r, _, _, h, _ => by simp at h
  | _ + 1, 0, t :: r, _, _, _, h => by simp at h
  | f + 1, g + 1, t :: r, c, n, hf, hg => by
    rw [List.length_cons] at hf hg
    have h1 := some_fuel f g r c n (by omega) (by omega)
    have h2 := some_fuel f g r (closeZ t.k) (n + 1) (by omega) (by omega)
    have hl := some_len f r (closeZ t.k) (n + 1)
    have h3 := some_fuel f g (someZ f r (closeZ t.k) (n + 1)).2 c n (by omega) (by omega)
    rw [someZ, someZ, h1, h3, h2]
theorem some_back {c n : Int} {vs : List V} (h : Ok c n vs) : ∀ (f : Nat) (R : List T5), (flatL vs ++ R).length ≤ f → someZ f (flatL vs ++ R) c n = (vs ++ (someZ f R c n).1, (someZ f R c n).2) := by
  induction h with
  | nil c n => intro f R _; simp [flatL]
  | @flat c n t r h1 h2 hr ih =>
    intro f R hf
    have e : flatL (V.mk t [] :: r) ++ R = t :: (flatL r ++ R) := by simp [flatL, flatV, h2]
    rw [e] at hf ⊢
    obtain ⟨f, rfl⟩ : ∃ g, f = g + 1 := ⟨f - 1, by rw [List.length_cons] at hf; omega⟩
    rw [List.length_cons] at hf
    have hR : R.length ≤ f := by rw [List.length_append] at hf; omega
    rw [someZ, if_neg h1, if_pos h2, ih f R (by omega), some_fuel f (f + 1) R c n hR (by omega)]
    rfl
  | @block c n t ks r h1 h2 h3 hk hr ihk ihr =>
    intro f R hf
    have e : flatL (V.mk t ks :: r) ++ R = t :: (flatL ks ++ (endT (closeZ t.k) :: (flatL r ++ R))) := by simp [flatL, flatV, h2]
    rw [e] at hf ⊢
    obtain ⟨f, rfl⟩ : ∃ g, f = g + 1 := ⟨f - 1, by rw [List.length_cons] at hf; omega⟩
    rw [List.length_cons] at hf
    have hl := hf
    rw [List.length_append, List.length_cons] at hl
    have hR : R.length ≤ f := by rw [List.length_append] at hl; omega
    have hc : someZ f (endT (closeZ t.k) :: (flatL r ++ R)) (closeZ t.k) (n + 1) = ([], flatL r ++ R) := by
      obtain ⟨g, rfl⟩ : ∃ g, f = g + 1 := ⟨f - 1, by omega⟩
      rw [someZ, if_pos ⟨h2, rfl⟩]
    rw [someZ, if_neg h1, if_neg h2, if_neg (by omega), ihk f _ (by omega), hc, ihr f R (by omega), some_fuel f (f + 1) R c n hR (by omega)]
    simp
theorem back_vals (ts : List T5) : valsZ (flatL (valsZ ts)) = valsZ ts := by
  have h := some_back (some_ok ts.length ts 0 0) (flatL (valsZ ts)).length [] (by rw [List.append_nil]; exact Nat.le_refl _)
  rw [List.append_nil, someZ_nil] at h
  show (someZ (flatL (valsZ ts)).length (flatL (valsZ ts)) 0 0).1 = valsZ ts
  rw [show flatL (valsZ ts) = flatL (someZ ts.length ts 0 0).1 from rfl] at h ⊢
  rw [h]
  simp [valsZ]
theorem some_twice : ∀ (f : Nat) (l : List T5) (c n : Int), (flatL (someZ f l c n).1).length + 2 * (someZ f l c n).2.length ≤ 2 * l.length
  | 0, l, _, _ => by simp [someZ, flatL]
  | _ + 1, [], _, _ => by simp [someZ, flatL]
  | f + 1, t :: r, c, n => by
    have h1 := some_twice f r c n
    have h2 := some_twice f r (closeZ t.k) (n + 1)
    have h3 := some_twice f (someZ f r (closeZ t.k) (n + 1)).2 c n
    rw [someZ, List.length_cons]
    split
    · simp [flatL]; omega
    · split
      · rename_i _ e
        simp only [flatL, flatV, if_pos e, List.length_append, List.length_cons, List.length_nil]
        omega
      · split
        · omega
        · rename_i _ e _
          simp only [flatL, flatV, if_neg e, List.length_append, List.length_cons, List.length_nil]
          omega
theorem flat_twice (ts : List T5) : (flatL (valsZ ts)).length ≤ 2 * ts.length := by
  have := some_twice ts.length ts 0 0
  show (flatL (someZ ts.length ts 0 0).1).length ≤ _
  omega
mutual
/-- Nested deeper than some? -/
def deepV : V → Int → Bool
  | .mk _ ks, m => decide (0 < ks.length) && (decide (m < 1) || deepL ks (m - 1))
def deepL : List V → Int → Bool
  | [], _ => false
  | v :: r, m => deepV v m || deepL r m
end
theorem ok_deep {c n : Int} {vs : List V} (h : Ok c n vs) : deepL vs (64 - n) = false := by
  induction h with
  | nil c n => rfl
  | flat h1 h2 hr ih => simp [deepL, deepV, ih]
  | @block c n t ks r h1 h2 h3 hk hr ihk ihr =>
    have e : 64 - n - 1 = 64 - (n + 1) := by omega
    have e2 : decide (64 - n < 1) = false := decide_eq_false (by omega)
    rw [deepL, deepV, ihr, e, ihk, e2]
    simp
theorem vals_deep (ts : List T5) : deepL (valsZ ts) 64 = false := ok_deep (some_ok ts.length ts 0 0)

end Go.Proofs.Ytihdiaklhkecmaa
namespace Go.Proofs.Ytihdiaklhkecmaa
open Go.RowKit
set_option maxRecDepth 100000

/-- A row of tokens of one's own. -/
def TRow (B : Nat) (w : World) (out : Value) (ts : List T5) : Prop := w.ownsRow B 44 5 out ts.length (ts.flatMap t5Cells)
theorem TRow.push {B : Nat} {w : World} {v : Value} {ts : List T5} {t : T5} (h : w.ownsRow B 44 5 v (ts.length + 1) (ts.flatMap t5Cells ++ t5Cells t)) : TRow B w v (ts ++ [t]) := by
  unfold TRow
  rw [List.length_append, List.flatMap_append, List.flatMap_singleton]
  exact h
set_option maxHeartbeats 400000 in
theorem flatten_any {P : Nat → Prop} {W : World} {v : Value} {vs : List V} (h : VsAt P W v vs) : ∀ w out ts, Below W.heap.size W w → TRow W.heap.size w out ts → ts.length + (flatL vs).length ≤ 1000000 →
    Calls Try.prog 38 #[out, v] w fun e w' => ∃ out', e = .returned out' ∧ TRow W.heap.size w' out' (ts ++ flatL vs) ∧ Below W.heap.size W w' := by
  obtain ⟨i0, hi0, hz0, hz1, hz2⟩ := info_parts Try.info44
  induction h with
  | mk a cap vs b off kv h1 h2 ha hc hr ih =>
    intro w out ts hw hown hn
    have HA := hid_mk ha
    have HC := hid_mk hc
    have HR := hid_mk hr
    have HI := hid_mk ih
    have HW := hid_mk hw
    have HO := hid_mk hown
    clear ha hc hr ih hw hown
    go_enter Try.func38, Try.ntmps38
    go_wp2
    go_loopw [0, 10] (fun a0 a10 wr => ∃ (k : Nat), a10 = .int .i64 k ∧ k ≤ vs.length ∧ TRow W.heap.size wr a0 (ts ++ flatL (vs.take k)) ∧ Below W.heap.size W wr) (fun _ a10 _ => vs.length + 1 - (intOf a10).toNat)
    case atStart => exact ⟨0, rfl, Nat.zero_le _, by simpa [flatL] using HO.out, HW.out⟩
    case round =>
      obtain ⟨k, rfl, hk, hrow, hB⟩ := hrel
      clear HO HW
      by_cases hlt : k < vs.length
      · obtain ⟨rfl, hb, -⟩ := HA.out (by omega)
        have hq := fun j y hy => (hB.cell (p := ⟨b, off + k * 6 + j, none⟩) hb).trans (HC.out k hlt j y hy)
        have hbx : b < wr.heap.size := Nat.lt_of_lt_of_le hb hB.size
        have HT : Hid (flatL (vs.take (k + 1)) = flatL (vs.take k) ++ (vs[k]'hlt).tok :: (if closeZ (vs[k]'hlt).tok.k = 0 then [] else flatL (vs[k]'hlt).kids ++ [endT (closeZ (vs[k]'hlt).tok.k)])) := by
          show _ = _
          rw [flatL_take vs k hlt]
          cases vs[k]'hlt
          rfl
        have hsz := flatL_take_len vs (k + 1)
        have HI2 := hid_mk (HI.out k hlt)
        obtain ⟨x1, c1, e1, _, _⟩ := (HR.out k hlt).slice
        rw [e1] at hq HI2
        generalize (vs[k]'hlt).tok = t at *
        generalize (vs[k]'hlt).kids = ks at *
        obtain ⟨tk, tx, un, wh, fl⟩ := t
        have q0 : wr.cell? ⟨b, off + k * 6, none⟩ = some (.int .i64 tk) := hq 0 _ rfl
        have q1 : wr.cell? ⟨b, off + k * 6 + 1, none⟩ = some (.string tx) := hq 1 _ rfl
        have q2 : wr.cell? ⟨b, off + k * 6 + 2, none⟩ = some (.string un) := hq 2 _ rfl
        have q3 : wr.cell? ⟨b, off + k * 6 + 3, none⟩ = some (.bool wh) := hq 3 _ rfl
        have q4 : wr.cell? ⟨b, off + k * 6 + 4, none⟩ = some (.bool fl) := hq 4 _ rfl
        have q5 : wr.cell? ⟨b, off + k * 6 + 5, none⟩ = some (.slice x1 ks.length c1) := hq 5 _ rfl
        have hx0 := heap_alloc_new wr (.cells #[.int .i64 tk, .string tx, .string un, .bool wh, .bool fl, .slice x1 ks.length c1] 46)
        have hrow1 : TRow W.heap.size (wr.alloc (.cells #[.int .i64 tk, .string tx, .string un, .bool wh, .bool fl, .slice x1 ks.length c1] 46)) u0 (ts ++ flatL (vs.take k)) := World.ownsRow.alloc hrow _
        have hB1 := hB.alloc hB.size (.cells #[.int .i64 tk, .string tx, .string un, .bool wh, .bool fl, .slice x1 ks.length c1] 46)
        have hbs := hB1.size
        have hlt0 : ∀ g, u0.ownBlock = some g → g < wr.heap.size := fun g hg => (World.ownsRow.lt hrow g hg).2
        rw [HT.out] at hsz
        generalize flatL (vs.take k) = FT at *
        have HS : Hid (ts.length + (FT ++ (⟨tk, tx, un, wh, fl⟩ : T5) :: (if closeZ tk = 0 then [] else flatL ks ++ [endT (closeZ tk)])).length ≤ 1000000) := by
          show _ ≤ _
          dsimp only at hsz
          omega
        have hs1 : (ts ++ FT).length + 1 ≤ 1000000 := by
          have := HS.out
          simp only [List.length_append, List.length_cons] at this ⊢
          omega
        clear hq hrow hB hsz hn e1 HA HC HR HI
        go_upto_region 4 with fail
        generalize wr.alloc (.cells #[.int .i64 tk, .string tx, .string un, .bool wh, .bool fl, .slice x1 ks.length c1] 46) = w1 at *
        obtain ⟨y0, y1, y2, y3, y4, y5⟩ := tok6 hx0
        have hown1 := hrow1
        unfold TRow at hown1
        obtain ⟨TS, HTS⟩ : ∃ TS, Hid (TS = ts ++ FT) := ⟨_, hid_mk rfl⟩
        rw [← HTS.out] at hown1 hrow1 hs1
        have HX7 : Hid (∀ o w7, (w1.alloc o).grownBy w7 u0.ownBlock → w7.heap[wr.heap.size]? = some (.cells #[.int .i64 tk, .string tx, .string un, .bool wh, .bool fl, .slice x1 ks.length c1] 46 (0, 0))) := by
          intro o w7 hgrow7
          have hl := (Array.getElem?_eq_some_iff.1 hx0).1
          rw [hgrow7.block _ (by simp; omega) (fun e => by have := hlt0 _ e.symm; omega), Below.heap_alloc w1 _ _ hl]
          exact hx0
        clear q0 q1 q2 q3 q4 q5 hx0
        go_wp2_with (at_builtin; go_must (refine wpList_append_own _ rfl _ _ 22 rfl W.heap.size 44 i0 _ 5 48 Try.underlying22 hi0 hz0 hz1 hz2 rfl (by decide) _ _ _ rfl (hown1.alloc _) ⟨w1.heap.size, 0, none⟩ 1 1 [.int .i64 tk, .string tx, .string un, .bool wh, .bool fl] rfl rfl (news5 w1 _ _ _ _ _) (by intro u hu; simp at hu; rcases hu with rfl | rfl | rfl | rfl | rfl <;> rfl) (by unfold maxLen; omega) (by omega) (by simp; omega) ?_); intro v' w7 hown7 hgrow7 _; have HV7 := hid_mk (HX7.out _ _ hgrow7); clear y0 y1 y2 y3 y4 y5; obtain ⟨y0, y1, y2, y3, y4, y5⟩ := tok6 HV7.out)
        have hB7 : Below W.heap.size W w7 := (hB1.alloc hbs _).grown hgrow7 (by simp; omega) (fun k hk => (hown1.lt k hk).1)
        have hrow7 : TRow W.heap.size w7 v' (TS ++ [⟨tk, tx, un, wh, fl⟩]) := TRow.push hown7
        have hbs7 := hB7.size
        clear hown7 hgrow7 hown1 hrow1 hB1 hbs hlt0
        have HB7 := hid_mk hB7
        have HROW7 := hid_mk hrow7
        have HCO : Hid (∀ w, Calls Try.prog 47 #[.int .i64 tk] w fun e w' => e = .returned (.int .i64 (closeZ tk)) ∧ w = w') := fun w => closeOf_any tk w
        clear hB7 hrow7
        refine (HCO.out _).mono ?_
        rintro e w8 ⟨rfl, rfl⟩
        by_cases h0 : closeZ tk = 0
        · have z0 : (closeZ tk != 0) = false := by simp [h0]
          have HT2 : Hid (TRow W.heap.size w7 v' (ts ++ flatL (vs.take (k + 1)))) := by
            show TRow _ _ _ _
            have h := HROW7.out
            rw [HTS.out] at h
            rw [HT.out, if_pos h0, ← List.append_assoc]
            exact h
          go_wp2
          go_roundw
          case rel => exact ⟨k + 1, by go_num, by omega, HT2.out, HB7.out⟩
          case measure => simp [intOf]; omega
        · have z0 : (closeZ tk != 0) = true := by simpa using h0
          have HS2 : Hid (TS.length + 1 + (flatL ks).length + 1 ≤ 1000000) := by
            show _ ≤ _
            have h := HS.out
            have h2 := HTS.out
            rw [if_neg h0] at h
            rw [h2]
            simp only [List.length_append, List.length_cons, List.length_nil] at h ⊢
            omega
          have hs2 := HS2.out
          have hcl := HI2.out w7 v' _ HB7.out HROW7.out (by simp only [List.length_append, List.length_cons, List.length_nil]; omega)
          have HF : Hid (ts ++ flatL (vs.take (k + 1)) = TS ++ [⟨tk, tx, un, wh, fl⟩] ++ flatL ks ++ [endT (closeZ tk)]) := by
            show _ = _
            rw [HT.out, HTS.out, if_neg h0]
            simp
          generalize closeZ tk = ck at *
          clear HI2 HT HTS HS HX7 HV7 y0 y1 y2 y3 y4 HROW7 HB7 hbs7
          go_wp2_with (go_at_call 38; fail)
          refine hcl.mono ?_
          rintro e w8 ⟨o8, rfl, hrow8, hB8⟩
          have hbs8 := hB8.size
          have hown8 := hrow8
          unfold TRow at hown8
          have hl8 : (TS ++ [(⟨tk, tx, un, wh, fl⟩ : T5)] ++ flatL ks).length + 1 ≤ 1000000 := by simp only [List.length_append, List.length_cons, List.length_nil]; omega
          generalize TS ++ [(⟨tk, tx, un, wh, fl⟩ : T5)] ++ flatL ks = TT at *
          clear hcl hrow8 y5
          go_wp2_with (at_builtin; go_must (refine wpList_append_own _ rfl _ _ 22 rfl W.heap.size 44 i0 _ 5 48 Try.underlying22 hi0 hz0 hz1 hz2 rfl (by decide) _ _ _ rfl (hown8.alloc _) ⟨w8.heap.size, 0, none⟩ 1 1 [.int .i64 ck, .string ⟨#[]⟩, .string ⟨#[]⟩, .bool false, .bool false] rfl rfl (news5 w8 _ _ _ _ _) (by intro u hu; simp at hu; rcases hu with rfl | rfl | rfl | rfl | rfl <;> rfl) (by unfold maxLen; omega) (by omega) (by simp; omega) ?_); intro v9 w9 hown9 hgrow9 _)
          have HB9 : Hid (Below W.heap.size W w9) := (hB8.alloc hbs8 _).grown hgrow9 (by simp; omega) (fun k hk => (hown8.lt k hk).1)
          have HROW9 : Hid (TRow W.heap.size w9 v9 (ts ++ flatL (vs.take (k + 1)))) := by
            show TRow _ _ _ _
            rw [HF.out]
            exact TRow.push (t := endT ck) hown9
          clear hown9 hgrow9 hown8 hB8
          go_roundw
          case rel => exact ⟨k + 1, by go_num, by omega, HROW9.out, HB9.out⟩
          case measure => simp [intOf]; omega
      · have e : vs.take k = vs := List.take_of_length_le (by omega)
        rw [e] at hrow
        have HR1 := hid_mk hrow
        have HB1 := hid_mk hB
        clear hrow hB
        go_wp2
        go_ret
        exact ⟨_, rfl, HR1.out, HB1.out⟩
theorem TRow.ts {B : Nat} {w : World} {v : Value} {ts : List T5} (h : TRow B w v ts) : TsAt w v ts := TsAt.own5 h
set_option maxHeartbeats 400000 in
theorem flat_any {P : Nat → Prop} {W : World} {v : Value} {vs : List V} (h : VsAt P W v vs) (hn : (flatL vs).length ≤ 1000000) :
    Calls Try.prog 17 #[v] W fun e w' => ∃ out, e = .returned out ∧ TsAt w' out (flatL vs) ∧ Below W.heap.size W w' := by
  have hc := flatten_any h W (.slice none 0 0) [] (Below.refl _ _) (World.ownsRow_nil _ _ _ _) (by simpa using hn)
  rw [List.nil_append] at hc
  obtain ⟨a, cap, rfl, _, _⟩ := h.slice
  go_enter Try.func17, Try.ntmps17
  go_wp2_with (go_at_call 38; fail)
  refine hc.mono ?_
  rintro e w1 ⟨out, rfl, ho, hb⟩
  have HO := hid_mk ho.ts
  obtain ⟨oa, oc, rfl, _⟩ := ho.ts
  clear ho hc
  go_wp2
  go_ret
  exact ⟨_, rfl, HO.out, hb⟩

end Go.Proofs.Ytihdiaklhkecmaa
namespace Go.Proofs.Ytihdiaklhkecmaa
open Go.RowKit
set_option maxRecDepth 100000

theorem deepL_append (a b : List V) (m : Int) : deepL (a ++ b) m = (deepL a m || deepL b m) := by
  induction a with
  | nil => rfl
  | cons x r ih => rw [List.cons_append, deepL, deepL, ih, Bool.or_assoc]
theorem deepL_take (vs : List V) (k : Nat) (h : k < vs.length) (m : Int) : deepL (vs.take (k + 1)) m = (deepL (vs.take k) m || deepV (vs[k]'h) m) := by
  rw [List.take_succ_eq_append_getElem h, deepL_append]
  simp [deepL]
theorem deepL_yes (vs : List V) (k : Nat) (m : Int) (h : deepL (vs.take k) m = true) : deepL vs m = true := by
  have e : deepL vs m = (deepL (vs.take k) m || deepL (vs.drop k) m) := by rw [← deepL_append, List.take_append_drop]
  rw [e, h]
  rfl
set_option maxHeartbeats 400000 in
theorem deep_any {P : Nat → Prop} {W : World} {v : Value} {vs : List V} (h : VsAt P W v vs) : ∀ (w : World) (m : Int), Below W.heap.size W w → 0 ≤ m → m ≤ 1000 →
    Calls Try.prog 25 #[v, .int .i64 m] w fun e w' => e = .returned (.bool (deepL vs m)) ∧ Below w.heap.size w w' := by
  induction h with
  | mk a cap vs b off kv h1 h2 ha hc hr ih =>
    intro w m hw hm0 hm1
    have HA := hid_mk ha
    have HC := hid_mk hc
    have HR := hid_mk hr
    have HI := hid_mk ih
    have HW := hid_mk hw
    clear ha hc hr ih hw
    go_enter Try.func25, Try.ntmps25
    go_wp2
    go_loopw [9] (fun a9 wr => ∃ (k : Nat), a9 = .int .i64 k ∧ k ≤ vs.length ∧ deepL (vs.take k) m = false ∧ Below w.heap.size w wr) (fun a9 _ => vs.length + 1 - (intOf a9).toNat)
    case atStart => exact ⟨0, rfl, Nat.zero_le _, by simp [deepL], Below.refl _ _⟩
    case round =>
      obtain ⟨k, rfl, hk, hfa, hB⟩ := hrel
      by_cases hlt : k < vs.length
      · obtain ⟨rfl, hb, -⟩ := HA.out (by omega)
        have hWr : Below W.heap.size W wr := HW.out.trans (hB.mono HW.out.size)
        have hq := fun j y hy => (hWr.cell (p := ⟨b, off + k * 6 + j, none⟩) hb).trans (HC.out k hlt j y hy)
        have hbx : b < wr.heap.size := Nat.lt_of_lt_of_le hb hWr.size
        have HT : Hid (deepL (vs.take (k + 1)) m = (decide (0 < (vs[k]'hlt).kids.length) && (decide (m < 1) || deepL (vs[k]'hlt).kids (m - 1)))) := by
          show _ = _
          rw [deepL_take vs k hlt, hfa]
          cases vs[k]'hlt
          rfl
        have HY : Hid (deepL (vs.take (k + 1)) m = true → deepL vs m = true) := deepL_yes vs (k + 1) m
        have HI2 := hid_mk (HI.out k hlt)
        obtain ⟨x1, c1, e1, _, _⟩ := (HR.out k hlt).slice
        rw [e1] at hq HI2
        generalize (vs[k]'hlt).tok = t at *
        generalize (vs[k]'hlt).kids = ks at *
        obtain ⟨tk, tx, un, wh, fl⟩ := t
        have q0 : wr.cell? ⟨b, off + k * 6, none⟩ = some (.int .i64 tk) := hq 0 _ rfl
        have q1 : wr.cell? ⟨b, off + k * 6 + 1, none⟩ = some (.string tx) := hq 1 _ rfl
        have q2 : wr.cell? ⟨b, off + k * 6 + 2, none⟩ = some (.string un) := hq 2 _ rfl
        have q3 : wr.cell? ⟨b, off + k * 6 + 3, none⟩ = some (.bool wh) := hq 3 _ rfl
        have q4 : wr.cell? ⟨b, off + k * 6 + 4, none⟩ = some (.bool fl) := hq 4 _ rfl
        have q5 : wr.cell? ⟨b, off + k * 6 + 5, none⟩ = some (.slice x1 ks.length c1) := hq 5 _ rfl
        have hal : ∀ o, Below wr.heap.size wr (wr.alloc o) := fun o => (Below.refl _ wr).alloc (Nat.le_refl _) o
        have HBA : Hid (∀ o, Below w.heap.size w (wr.alloc o)) := fun o => hB.trans ((hal o).mono hB.size)
        have HWA : Hid (∀ o, Below W.heap.size W (wr.alloc o)) := fun o => hWr.trans ((hal o).mono hWr.size)
        clear hq e1 HA HC HR HI HW hWr hB hal hfa
        by_cases h0 : 0 < ks.length
        · have z0 : decide ((0 : Int) < (ks.length : Int)) = true := by simpa using h0
          by_cases hm : m < 1
          · have z1 : decide (m < 1) = true := by simpa using hm
            have HD : Hid (deepL vs m = true) := HY.out (by rw [HT.out]; simp [h0, hm])
            go_wp2
            go_ret
            exact ⟨by rw [HD.out]; rfl, HBA.out _⟩
          · have z1 : decide (m < 1) = false := by simpa using hm
            have hcl := fun o => HI2.out _ (m - 1) (HWA.out o) (by omega) (by omega)
            obtain ⟨dd, hdd⟩ : ∃ dd, dd = deepL ks (m - 1) := ⟨_, rfl⟩
            rw [← hdd] at hcl
            have HDD := hid_mk hdd
            clear hdd
            go_wp2_with (go_at_call 25; fail)
            refine (hcl _).mono ?_
            rintro e w2 ⟨rfl, hB2⟩
            have HB2 : Hid (Below w.heap.size w w2) := (HBA.out _).trans (hB2.mono (HBA.out _).size)
            clear hcl hB2 q0 q1 q2 q3 q4 q5
            cases dd
            · have HD : Hid (deepL (vs.take (k + 1)) m = false) := by
                show _ = _
                rw [HT.out, ← HDD.out]
                simp [hm]
              go_wp2
              go_roundw
              case rel => exact ⟨k + 1, by go_num, by omega, HD.out, HB2.out⟩
              case measure => simp [intOf]; omega
            · have HD : Hid (deepL vs m = true) := HY.out (by rw [HT.out, ← HDD.out]; simp [h0])
              go_wp2
              go_ret
              exact ⟨by rw [HD.out]; rfl, HB2.out⟩
        · have z0 : decide ((0 : Int) < (ks.length : Int)) = false := by simpa using h0
          have HD : Hid (deepL (vs.take (k + 1)) m = false) := by
            show _ = _
            rw [HT.out]
            simp [h0]
          go_wp2
          go_roundw
          case rel => exact ⟨k + 1, by go_num, by omega, HD.out, HBA.out _⟩
          case measure => simp [intOf]; omega
      · have e : vs.take k = vs := List.take_of_length_le (by omega)
        rw [e] at hfa
        have HD := hid_mk hfa
        have HB1 := hid_mk hB
        clear hfa hB
        go_wp2
        go_ret
        exact ⟨by rw [HD.out]; rfl, HB1.out⟩

end Go.Proofs.Ytihdiaklhkecmaa
