/- parse.Flat: the tokens of values. -/
import Derived.Test.YtihdiaklhkecmaaFlatZ
import Derived.Test.YtihdiaklhkecmaaPValues
namespace Go.Proofs.Ytihdiaklhkecmaa
open Go.RowKit
set_option maxRecDepth 100000

/-- A row of tokens of one's own. -/
def TRow (B : Nat) (w : World) (out : Value) (ts : List T5) : Prop := w.ownsRow B 44 5 out ts.length (ts.flatMap t5Cells)
theorem TRow.push {B : Nat} {w : World} {v : Value} {ts : List T5} {t : T5} (h : w.ownsRow B 44 5 v (ts.length + 1) (ts.flatMap t5Cells ++ t5Cells t)) : TRow B w v (ts ++ [t]) := by
  unfold TRow
  rw [List.length_append, List.flatMap_append, List.flatMap_singleton]
  exact h
set_option maxHeartbeats 400000 in
theorem flatten_any {P : Nat → Prop} {W : World} {v : Value} {vs : List V} (h : VsAt P W v vs) : ∀ w out ts, Below W.heap.size W w → TRow W.heap.size w out ts → ts.length + (flatL vs).length ≤ 1000000 →
    Calls Try.prog 38 #[out, v] w fun e w' => ∃ out', e = .returned out' ∧ TRow W.heap.size w' out' (ts ++ flatL vs) ∧ Below W.heap.size W w' := by
  obtain ⟨i0, hi0, hz0, hz1, hz2⟩ := info_parts Try.info44
  induction h with
  | mk a cap vs b off kv h1 h2 ha hc hr ih =>
    intro w out ts hw hown hn
    have HA := hid_mk ha
    have HC := hid_mk hc
    have HR := hid_mk hr
    have HI := hid_mk ih
    have HW := hid_mk hw
    have HO := hid_mk hown
    clear ha hc hr ih hw hown
    go_enter Try.func38, Try.ntmps38
    go_wp2
    go_loopw [0, 10] (fun a0 a10 wr => ∃ (k : Nat), a10 = .int .i64 k ∧ k ≤ vs.length ∧ TRow W.heap.size wr a0 (ts ++ flatL (vs.take k)) ∧ Below W.heap.size W wr) (fun _ a10 _ => vs.length + 1 - (intOf a10).toNat)
    case atStart => exact ⟨0, rfl, Nat.zero_le _, by simpa [flatL] using HO.out, HW.out⟩
    case round =>
      obtain ⟨k, rfl, hk, hrow, hB⟩ := hrel
      clear HO HW
      by_cases hlt : k < vs.length
      · obtain ⟨rfl, hb, -⟩ := HA.out (by omega)
        have hq := fun j y hy => (hB.cell (p := ⟨b, off + k * 6 + j, none⟩) hb).trans (HC.out k hlt j y hy)
        have hbx : b < wr.heap.size := Nat.lt_of_lt_of_le hb hB.size
        have HT : Hid (flatL (vs.take (k + 1)) = flatL (vs.take k) ++ (vs[k]'hlt).tok :: (if closeZ (vs[k]'hlt).tok.k = 0 then [] else flatL (vs[k]'hlt).kids ++ [endT (closeZ (vs[k]'hlt).tok.k)])) := by
          show _ = _
          rw [flatL_take vs k hlt]
          cases vs[k]'hlt
          rfl
        have hsz := flatL_take_len vs (k + 1)
        have HI2 := hid_mk (HI.out k hlt)
        obtain ⟨x1, c1, e1, _, _⟩ := (HR.out k hlt).slice
        rw [e1] at hq HI2
        generalize (vs[k]'hlt).tok = t at *
        generalize (vs[k]'hlt).kids = ks at *
        obtain ⟨tk, tx, un, wh, fl⟩ := t
        have q0 : wr.cell? ⟨b, off + k * 6, none⟩ = some (.int .i64 tk) := hq 0 _ rfl
        have q1 : wr.cell? ⟨b, off + k * 6 + 1, none⟩ = some (.string tx) := hq 1 _ rfl
        have q2 : wr.cell? ⟨b, off + k * 6 + 2, none⟩ = some (.string un) := hq 2 _ rfl
        have q3 : wr.cell? ⟨b, off + k * 6 + 3, none⟩ = some (.bool wh) := hq 3 _ rfl
        have q4 : wr.cell? ⟨b, off + k * 6 + 4, none⟩ = some (.bool fl) := hq 4 _ rfl
        have q5 : wr.cell? ⟨b, off + k * 6 + 5, none⟩ = some (.slice x1 ks.length c1) := hq 5 _ rfl
        have hx0 := heap_alloc_new wr (.cells #[.int .i64 tk, .string tx, .string un, .bool wh, .bool fl, .slice x1 ks.length c1] 46)
        have hrow1 : TRow W.heap.size (wr.alloc (.cells #[.int .i64 tk, .string tx, .string un, .bool wh, .bool fl, .slice x1 ks.length c1] 46)) u0 (ts ++ flatL (vs.take k)) := World.ownsRow.alloc hrow _
        have hB1 := hB.alloc hB.size (.cells #[.int .i64 tk, .string tx, .string un, .bool wh, .bool fl, .slice x1 ks.length c1] 46)
        have hbs := hB1.size
        have hlt0 : ∀ g, u0.ownBlock = some g → g < wr.heap.size := fun g hg => (World.ownsRow.lt hrow g hg).2
        rw [HT.out] at hsz
        generalize flatL (vs.take k) = FT at *
        have HS : Hid (ts.length + (FT ++ (⟨tk, tx, un, wh, fl⟩ : T5) :: (if closeZ tk = 0 then [] else flatL ks ++ [endT (closeZ tk)])).length ≤ 1000000) := by
          show _ ≤ _
          dsimp only at hsz
          omega
        have hs1 : (ts ++ FT).length + 1 ≤ 1000000 := by
          have := HS.out
          simp only [List.length_append, List.length_cons] at this ⊢
          omega
        clear hq hrow hB hsz hn e1 HA HC HR HI
        go_upto_region 4 with fail
        generalize wr.alloc (.cells #[.int .i64 tk, .string tx, .string un, .bool wh, .bool fl, .slice x1 ks.length c1] 46) = w1 at *
        obtain ⟨y0, y1, y2, y3, y4, y5⟩ := tok6 hx0
        have hown1 := hrow1
        unfold TRow at hown1
        obtain ⟨TS, HTS⟩ : ∃ TS, Hid (TS = ts ++ FT) := ⟨_, hid_mk rfl⟩
        rw [← HTS.out] at hown1 hrow1 hs1
        have HX7 : Hid (∀ o w7, (w1.alloc o).grownBy w7 u0.ownBlock → w7.heap[wr.heap.size]? = some (.cells #[.int .i64 tk, .string tx, .string un, .bool wh, .bool fl, .slice x1 ks.length c1] 46 (0, 0))) := by
          intro o w7 hgrow7
          have hl := (Array.getElem?_eq_some_iff.1 hx0).1
          rw [hgrow7.block _ (by simp; omega) (fun e => by have := hlt0 _ e.symm; omega), Below.heap_alloc w1 _ _ hl]
          exact hx0
        clear q0 q1 q2 q3 q4 q5 hx0
        go_wp2_with (at_builtin; go_must (refine wpList_append_own _ rfl _ _ 22 rfl W.heap.size 44 i0 _ 5 48 Try.underlying22 hi0 hz0 hz1 hz2 rfl (by decide) _ _ _ rfl (hown1.alloc _) ⟨w1.heap.size, 0, none⟩ 1 1 [.int .i64 tk, .string tx, .string un, .bool wh, .bool fl] rfl rfl (news5 w1 _ _ _ _ _) (by intro u hu; simp at hu; rcases hu with rfl | rfl | rfl | rfl | rfl <;> rfl) (by unfold maxLen; omega) (by omega) (by simp; omega) ?_); intro v' w7 hown7 hgrow7 _; have HV7 := hid_mk (HX7.out _ _ hgrow7); clear y0 y1 y2 y3 y4 y5; obtain ⟨y0, y1, y2, y3, y4, y5⟩ := tok6 HV7.out)
        have hB7 : Below W.heap.size W w7 := (hB1.alloc hbs _).grown hgrow7 (by simp; omega) (fun k hk => (hown1.lt k hk).1)
        have hrow7 : TRow W.heap.size w7 v' (TS ++ [⟨tk, tx, un, wh, fl⟩]) := TRow.push hown7
        have hbs7 := hB7.size
        clear hown7 hgrow7 hown1 hrow1 hB1 hbs hlt0
        have HB7 := hid_mk hB7
        have HROW7 := hid_mk hrow7
        have HCO : Hid (∀ w, Calls Try.prog 47 #[.int .i64 tk] w fun e w' => e = .returned (.int .i64 (closeZ tk)) ∧ w = w') := fun w => closeOf_any tk w
        clear hB7 hrow7
        refine (HCO.out _).mono ?_
        rintro e w8 ⟨rfl, rfl⟩
        by_cases h0 : closeZ tk = 0
        · have z0 : (closeZ tk != 0) = false := by simp [h0]
          have HT2 : Hid (TRow W.heap.size w7 v' (ts ++ flatL (vs.take (k + 1)))) := by
            show TRow _ _ _ _
            have h := HROW7.out
            rw [HTS.out] at h
            rw [HT.out, if_pos h0, ← List.append_assoc]
            exact h
          go_wp2
          go_roundw
          case rel => exact ⟨k + 1, by go_num, by omega, HT2.out, HB7.out⟩
          case measure => simp [intOf]; omega
        · have z0 : (closeZ tk != 0) = true := by simpa using h0
          have HS2 : Hid (TS.length + 1 + (flatL ks).length + 1 ≤ 1000000) := by
            show _ ≤ _
            have h := HS.out
            have h2 := HTS.out
            rw [if_neg h0] at h
            rw [h2]
            simp only [List.length_append, List.length_cons, List.length_nil] at h ⊢
            omega
          have hs2 := HS2.out
          have hcl := HI2.out w7 v' _ HB7.out HROW7.out (by simp only [List.length_append, List.length_cons, List.length_nil]; omega)
          have HF : Hid (ts ++ flatL (vs.take (k + 1)) = TS ++ [⟨tk, tx, un, wh, fl⟩] ++ flatL ks ++ [endT (closeZ tk)]) := by
            show _ = _
            rw [HT.out, HTS.out, if_neg h0]
            simp
          generalize closeZ tk = ck at *
          clear HI2 HT HTS HS HX7 HV7 y0 y1 y2 y3 y4 HROW7 HB7 hbs7
          go_wp2_with (go_at_call 38; fail)
          refine hcl.mono ?_
          rintro e w8 ⟨o8, rfl, hrow8, hB8⟩
          have hbs8 := hB8.size
          have hown8 := hrow8
          unfold TRow at hown8
          have hl8 : (TS ++ [(⟨tk, tx, un, wh, fl⟩ : T5)] ++ flatL ks).length + 1 ≤ 1000000 := by simp only [List.length_append, List.length_cons, List.length_nil]; omega
          generalize TS ++ [(⟨tk, tx, un, wh, fl⟩ : T5)] ++ flatL ks = TT at *
          clear hcl hrow8 y5
          go_wp2_with (at_builtin; go_must (refine wpList_append_own _ rfl _ _ 22 rfl W.heap.size 44 i0 _ 5 48 Try.underlying22 hi0 hz0 hz1 hz2 rfl (by decide) _ _ _ rfl (hown8.alloc _) ⟨w8.heap.size, 0, none⟩ 1 1 [.int .i64 ck, .string ⟨#[]⟩, .string ⟨#[]⟩, .bool false, .bool false] rfl rfl (news5 w8 _ _ _ _ _) (by intro u hu; simp at hu; rcases hu with rfl | rfl | rfl | rfl | rfl <;> rfl) (by unfold maxLen; omega) (by omega) (by simp; omega) ?_); intro v9 w9 hown9 hgrow9 _)
          have HB9 : Hid (Below W.heap.size W w9) := (hB8.alloc hbs8 _).grown hgrow9 (by simp; omega) (fun k hk => (hown8.lt k hk).1)
          have HROW9 : Hid (TRow W.heap.size w9 v9 (ts ++ flatL (vs.take (k + 1)))) := by
            show TRow _ _ _ _
            rw [HF.out]
            exact TRow.push (t := endT ck) hown9
          clear hown9 hgrow9 hown8 hB8
          go_roundw
          case rel => exact ⟨k + 1, by go_num, by omega, HROW9.out, HB9.out⟩
          case measure => simp [intOf]; omega
      · have e : vs.take k = vs := List.take_of_length_le (by omega)
        rw [e] at hrow
        have HR1 := hid_mk hrow
        have HB1 := hid_mk hB
        clear hrow hB
        go_wp2
        go_ret
        exact ⟨_, rfl, HR1.out, HB1.out⟩
theorem TRow.ts {B : Nat} {w : World} {v : Value} {ts : List T5} (h : TRow B w v ts) : TsAt w v ts := TsAt.own5 h
set_option maxHeartbeats 400000 in
theorem flat_any {P : Nat → Prop} {W : World} {v : Value} {vs : List V} (h : VsAt P W v vs) (hn : (flatL vs).length ≤ 1000000) :
    Calls Try.prog 17 #[v] W fun e w' => ∃ out, e = .returned out ∧ TsAt w' out (flatL vs) ∧ Below W.heap.size W w' := by
  have hc := flatten_any h W (.slice none 0 0) [] (Below.refl _ _) (World.ownsRow_nil _ _ _ _) (by simpa using hn)
  rw [List.nil_append] at hc
  obtain ⟨a, cap, rfl, _, _⟩ := h.slice
  go_enter Try.func17, Try.ntmps17
  go_wp2_with (go_at_call 38; fail)
  refine hc.mono ?_
  rintro e w1 ⟨out, rfl, ho, hb⟩
  have HO := hid_mk ho.ts
  obtain ⟨oa, oc, rfl, _⟩ := ho.ts
  clear ho hc
  go_wp2
  go_ret
  exact ⟨_, rfl, HO.out, hb⟩

end Go.Proofs.Ytihdiaklhkecmaa
