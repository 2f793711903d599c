/- gouacheref03.Count and gouachelaw03.great of any values. gouacheref03.Flat of any values; gouacheref02.Same of like tokens. gouacheref03.Rules of any values. -/
import Derived.Test.YtihdiaklhkecmaaAppF
import Derived.Deep.DeepCutAuto
namespace Go.Proofs.Ytihdiaklhkecmaa
open Go.RowKit
set_option maxRecDepth 100000

mutual
/-- How many values there are, with those within. -/
def countV : V → Nat
  | .mk _ ks => 1 + countL ks
def countL : List V → Nat
  | [] => 0
  | v :: r => countV v + countL r
end
mutual
theorem flatV_count : ∀ v, (flatV v).length ≤ 2 * countV v
  | .mk t ks => by
    have := flatL_count ks
    rw [flatV, countV]
    split
    · simp; omega
    · simp; omega
theorem flatL_count : ∀ vs, (flatL vs).length ≤ 2 * countL vs
  | [] => by simp [flatL]
  | v :: r => by
    have h1 := flatV_count v
    have h2 := flatL_count r
    rw [flatL, countL, List.length_append]
    omega
end
theorem countL_append (a b : List V) : countL (a ++ b) = countL a + countL b := by
  induction a with
  | nil => simp [countL]
  | cons x r ih => rw [List.cons_append, countL, countL, ih, Nat.add_assoc]
theorem countL_take (vs : List V) (k : Nat) (h : k < vs.length) : countL (vs.take (k + 1)) = countL (vs.take k) + countV (vs[k]'h) := by
  rw [List.take_succ_eq_append_getElem h, countL_append]
  simp [countL]
theorem countL_take_le (vs : List V) (k : Nat) : countL (vs.take k) ≤ countL vs := by
  have h : countL vs = countL (vs.take k) + countL (vs.drop k) := by rw [← countL_append, List.take_append_drop]
  omega
theorem count_len (vs : List V) : vs.length ≤ countL vs := by
  induction vs with
  | nil => simp
  | cons x r ih =>
    rw [countL, List.length_cons]
    cases x
    rw [countV]
    omega
theorem count_kid {x : V} {vs : List V} (h : x ∈ vs) : countL x.kids + 1 ≤ countL vs := by
  induction vs with
  | nil => cases h
  | cons y r ih =>
    rw [countL]
    rcases List.mem_cons.1 h with rfl | h
    · cases x
      rw [countV]
      show countL _ + 1 ≤ _
      simp only [V.kids]
      omega
    · have := ih h
      omega
theorem count_most : ∀ (n : Nat) (vs : List V), countL vs ≤ n → countL vs ≤ 1000000000 → V.most vs
  | 0, vs, h, _ => by
    have := count_len vs
    have e : vs = [] := List.length_eq_zero_iff.1 (by omega)
    subst e
    exact .mk _ (by simp) (fun x hx => by cases hx)
  | n + 1, vs, h, h2 => .mk _ (Nat.le_trans (count_len vs) h2) (fun x hx => by
    have := count_kid hx
    exact count_most n x.kids (by omega) (by omega))
set_option maxHeartbeats 400000 in
theorem count_any {P : Nat → Prop} {W : World} {v : Value} {vs : List V} (h : VsAt P W v vs) : ∀ w, Below W.heap.size W w → countL vs ≤ 2000000 →
    Calls Try.prog 31 #[v] w fun e w' => e = .returned (.int .i64 (countL vs : Nat)) ∧ Below w.heap.size w w' := by
  induction h with
  | mk a cap vs b off kv h1 h2 ha hc hr ih =>
    intro w hw hn
    have HA := hid_mk ha
    have HC := hid_mk hc
    have HR := hid_mk hr
    have HI := hid_mk ih
    have HW := hid_mk hw
    have HN := hid_mk hn
    clear ha hc hr ih hw hn
    go_enter Try.func31, Try.ntmps31
    go_wp2
    go_loopw [3, 8] (fun a3 a8 wr => ∃ (k : Nat), a8 = .int .i64 k ∧ a3 = .int .i64 (countL (vs.take k) : Nat) ∧ k ≤ vs.length ∧ Below w.heap.size w wr) (fun _ a8 _ => vs.length + 1 - (intOf a8).toNat)
    case atStart => exact ⟨0, rfl, by simp [countL], Nat.zero_le _, Below.refl _ _⟩
    case round =>
      obtain ⟨k, rfl, rfl, hk, hB⟩ := hrel
      by_cases hlt : k < vs.length
      · obtain ⟨rfl, hb, -⟩ := HA.out (by omega)
        have hWr : Below W.heap.size W wr := HW.out.trans (hB.mono HW.out.size)
        have hq := fun j y hy => (hWr.cell (p := ⟨b, off + k * 6 + j, none⟩) hb).trans (HC.out k hlt j y hy)
        have hbx : b < wr.heap.size := Nat.lt_of_lt_of_le hb hWr.size
        have hct := countL_take vs k hlt
        have hcl := countL_take_le vs (k + 1)
        have hcv : countV (vs[k]'hlt) = 1 + countL (vs[k]'hlt).kids := by cases vs[k]'hlt; rfl
        have HT : Hid (countL (vs.take (k + 1)) = countL (vs.take k) + (1 + countL (vs[k]'hlt).kids)) := by show _ = _; rw [hct, hcv]
        have hnn := HN.out
        have hkk : countL (vs.take k) + (1 + countL (vs[k]'hlt).kids) ≤ 2000000 := by have := HT.out; omega
        have HI2 := hid_mk (HI.out k hlt)
        obtain ⟨x1, c1, e1, _, _⟩ := (HR.out k hlt).slice
        rw [e1] at hq HI2
        generalize (vs[k]'hlt).tok = t at *
        generalize (vs[k]'hlt).kids = ks at *
        generalize countL (vs.take k) = ck at *
        obtain ⟨tk, tx, un, wh, fl⟩ := t
        have q0 : wr.cell? ⟨b, off + k * 6, none⟩ = some (.int .i64 tk) := hq 0 _ rfl
        have q1 : wr.cell? ⟨b, off + k * 6 + 1, none⟩ = some (.string tx) := hq 1 _ rfl
        have q2 : wr.cell? ⟨b, off + k * 6 + 2, none⟩ = some (.string un) := hq 2 _ rfl
        have q3 : wr.cell? ⟨b, off + k * 6 + 3, none⟩ = some (.bool wh) := hq 3 _ rfl
        have q4 : wr.cell? ⟨b, off + k * 6 + 4, none⟩ = some (.bool fl) := hq 4 _ rfl
        have q5 : wr.cell? ⟨b, off + k * 6 + 5, none⟩ = some (.slice x1 ks.length c1) := hq 5 _ rfl
        have hcall := fun o => HI2.out (wr.alloc o) (hWr.trans (((Below.refl _ wr).alloc (Nat.le_refl _) o).mono hWr.size)) (by omega)
        have HBA : Hid (∀ o, Below w.heap.size w (wr.alloc o)) := fun o => hB.trans (((Below.refl _ wr).alloc (Nat.le_refl _) o).mono hB.size)
        clear hq e1 HA HC HR HI HW hWr hB hct hcl hcv hnn HN HI2
        generalize countL ks = cks at *
        go_wp2_with (go_at_call 31; fail)
        refine (hcall _).mono ?_
        rintro e w2 ⟨rfl, hB2⟩
        have HB2 : Hid (Below w.heap.size w w2) := (HBA.out _).trans (hB2.mono (HBA.out _).size)
        clear hcall hB2 HBA q0 q1 q2 q3 q4 q5
        go_wp2
        go_roundw
        case rel => exact ⟨k + 1, by go_num, by rw [HT.out]; go_num, by omega, HB2.out⟩
        case measure => simp [intOf]; omega
      · have e : vs.take k = vs := List.take_of_length_le (by omega)
        rw [e]
        have HB1 := hid_mk hB
        clear hB
        go_wp2
        go_ret
        exact ⟨rfl, HB1.out⟩
/-- More, or nested deeper, than are looked at. -/
def greatZ (vs : List V) : Bool := deepL vs 100 || decide (3000 < countL vs)
set_option maxHeartbeats 400000 in
theorem great_any {P : Nat → Prop} {W : World} {v : Value} {vs : List V} (h : VsAt P W v vs) (w : World) (hw : Below W.heap.size W w) (hn : countL vs ≤ 2000000) :
    Calls Try.prog 13 #[v] w fun e w' => e = .returned (.bool (greatZ vs)) ∧ Below w.heap.size w w' := by
  have h25 := deep_any h w 100 hw (by omega) (by omega)
  have h31 := fun w' (hb : Below w.heap.size w w') => count_any h w' (hw.trans (hb.mono hw.size)) hn
  obtain ⟨a, cap, rfl, _, _⟩ := h.slice
  have HG : Hid (greatZ vs = (deepL vs 100 || decide (3000 < countL vs))) := (rfl : _ = _)
  clear h hw
  generalize deepL vs 100 = dd at *
  generalize countL vs = cc at *
  generalize greatZ vs = gg at *
  go_enter Try.func13, Try.ntmps13
  go_wp2_with (go_at_call 25; fail)
  refine h25.mono ?_
  rintro e w1 ⟨rfl, hb1⟩
  have h32 := h31 w1 hb1
  have HB1 := hid_mk hb1
  clear h25 h31 hb1
  cases dd
  · go_wp2_with (go_at_call 31; fail)
    refine h32.mono ?_
    rintro e w2 ⟨rfl, hb2⟩
    have HB2 : Hid (Below w.heap.size w w2) := HB1.out.trans (hb2.mono HB1.out.size)
    clear h32 hb2
    go_wp2
    go_ret
    refine ⟨?_, HB2.out⟩
    rw [HG.out]
    simp
    omega
  · go_wp2
    go_ret
    exact ⟨by rw [HG.out]; rfl, HB1.out⟩

end Go.Proofs.Ytihdiaklhkecmaa
namespace Go.Proofs.Ytihdiaklhkecmaa
open Go.RowKit
set_option maxRecDepth 100000

theorem TRow.ones (ts : List T5) : ∀ y ∈ ts.flatMap t5Cells, y.oneCell' = true := by
  intro u hu
  obtain ⟨t, _, ht⟩ := List.mem_flatMap.1 hu
  simp [t5Cells] at ht
  rcases ht with rfl | rfl | rfl | rfl | rfl <;> rfl
theorem TRow.keep {B : Nat} {w w' : World} {out : Value} {ts : List T5} (h : TRow B w out ts) (hb : Below w.heap.size w w') : TRow B w' out ts := ownsRow_below h hb
theorem TRow.cat {B : Nat} {w : World} {v : Value} {ts us : List T5} (h : w.ownsRow B 44 5 v (ts.length + us.length) (ts.flatMap t5Cells ++ us.flatMap t5Cells)) : TRow B w v (ts ++ us) := by
  unfold TRow
  rw [List.length_append, List.flatMap_append]
  exact h
set_option maxHeartbeats 400000 in
theorem tsame_yes {W : World} {v u : Value} {ts : List T5} (h : TsAt W v ts) (h' : TsAt W u ts) (w : World) (hw : Below W.heap.size W w) : Calls Try.prog 16 #[v, u] w fun e w' => e = .returned (.bool true) ∧ ∃ m, w' = w.drewN m := by
  obtain ⟨a, cap, rfl, h1, h2, hc⟩ := h
  obtain ⟨a', cap', rfl, h1', h2', hc'⟩ := h'
  have HA := hid_mk hc
  have HA' := hid_mk hc'
  have HW := hid_mk hw
  clear hc hc' hw
  go_enter Try.func16, Try.ntmps16
  go_wp2
  go_loopw [13] (fun i wr => ∃ (k m : Nat), i = .int .i64 k ∧ wr = w.drewN m ∧ k ≤ ts.length) (fun i _ => ts.length + 1 - (intOf i).toNat)
  case atStart => exact ⟨0, 0, rfl, rfl, Nat.zero_le _⟩
  case round =>
    obtain ⟨k, m, rfl, rfl, hk⟩ := hrel
    by_cases hlt : k < ts.length
    · obtain ⟨b, off, rfl, hb, hc⟩ := HA.out (by omega)
      obtain ⟨b', off', rfl, hb', hc'⟩ := HA'.out (by omega)
      have hw := HW.out
      have ac := fun j y hy => (hw.cell (p := ⟨b, off + k * 5 + j, none⟩) hb).trans (hc k hlt j y hy)
      have bc := fun j y hy => (hw.cell (p := ⟨b', off' + k * 5 + j, none⟩) hb').trans (hc' k hlt j y hy)
      generalize ts[k]'hlt = t at *
      obtain ⟨tk, tx, un, wh, fl⟩ := t
      have a0 : w.cell? ⟨b, off + k * 5, none⟩ = some (.int .i64 tk) := ac 0 _ rfl
      have a1 : w.cell? ⟨b, off + k * 5 + 1, none⟩ = some (.string tx) := ac 1 _ rfl
      have a2 : w.cell? ⟨b, off + k * 5 + 2, none⟩ = some (.string un) := ac 2 _ rfl
      have a3 : w.cell? ⟨b, off + k * 5 + 3, none⟩ = some (.bool wh) := ac 3 _ rfl
      have a4 : w.cell? ⟨b, off + k * 5 + 4, none⟩ = some (.bool fl) := ac 4 _ rfl
      have b0 : w.cell? ⟨b', off' + k * 5, none⟩ = some (.int .i64 tk) := bc 0 _ rfl
      have b1 : w.cell? ⟨b', off' + k * 5 + 1, none⟩ = some (.string tx) := bc 1 _ rfl
      have b2 : w.cell? ⟨b', off' + k * 5 + 2, none⟩ = some (.string un) := bc 2 _ rfl
      have b3 : w.cell? ⟨b', off' + k * 5 + 3, none⟩ = some (.bool wh) := bc 3 _ rfl
      have b4 : w.cell? ⟨b', off' + k * 5 + 4, none⟩ = some (.bool fl) := bc 4 _ rfl
      clear ac bc hc hc' hw HA HA' HW
      go_wp2
      go_quiet (fail)
      go_wp2
      go_roundw
      case rel => exact ⟨k + 1, _, by go_num, rfl, by omega⟩
      case measure => simp [intOf]; omega
    · go_wp2
      go_ret
      exact ⟨rfl, m, rfl⟩
set_option maxHeartbeats 400000 in
theorem rflat_any {P : Nat → Prop} {W : World} {v : Value} {vs : List V} (h : VsAt P W v vs) : ∀ w, Below W.heap.size W w → (flatL vs).length ≤ 1000000 →
    Calls Try.prog 18 #[v] w fun e w' => ∃ out, e = .returned out ∧ TRow w.heap.size w' out (flatL vs) ∧ Below w.heap.size w w' := by
  obtain ⟨i0, hi0, hz0, hz1, hz2⟩ := info_parts Try.info44
  induction h with
  | mk a cap vs b off kv h1 h2 ha hc hr ih =>
    intro w hw hn
    have HA := hid_mk ha
    have HC := hid_mk hc
    have HR := hid_mk hr
    have HI := hid_mk ih
    have HW := hid_mk hw
    clear ha hc hr ih hw
    go_enter Try.func18, Try.ntmps18
    go_wp2
    go_loopw [3, 9] (fun a3 a9 wr => ∃ (k : Nat), a9 = .int .i64 k ∧ k ≤ vs.length ∧ TRow w.heap.size wr a3 (flatL (vs.take k)) ∧ Below w.heap.size w wr) (fun _ a9 _ => vs.length + 1 - (intOf a9).toNat)
    case atStart => exact ⟨0, rfl, Nat.zero_le _, by simp only [List.take_zero, flatL]; exact World.ownsRow_nil _ _ _ _, Below.refl _ _⟩
    case round =>
      obtain ⟨k, rfl, hk, hrow, hB⟩ := hrel
      by_cases hlt : k < vs.length
      · obtain ⟨rfl, hb, -⟩ := HA.out (by omega)
        have hWr : Below W.heap.size W wr := HW.out.trans (hB.mono HW.out.size)
        have hq := fun j y hy => (hWr.cell (p := ⟨b, off + k * 6 + j, none⟩) hb).trans (HC.out k hlt j y hy)
        have hbx : b < wr.heap.size := Nat.lt_of_lt_of_le hb hWr.size
        have HT : Hid (flatL (vs.take (k + 1)) = flatL (vs.take k) ++ (vs[k]'hlt).tok :: (if closeZ (vs[k]'hlt).tok.k = 0 then [] else flatL (vs[k]'hlt).kids ++ [endT (closeZ (vs[k]'hlt).tok.k)])) := by
          show _ = _
          rw [flatL_take vs k hlt]
          cases vs[k]'hlt
          rfl
        have hsz := flatL_take_len vs (k + 1)
        have HI2 := hid_mk (HI.out k hlt)
        obtain ⟨x1, c1, e1, _, _⟩ := (HR.out k hlt).slice
        rw [e1] at hq HI2
        generalize (vs[k]'hlt).tok = t at *
        generalize (vs[k]'hlt).kids = ks at *
        obtain ⟨tk, tx, un, wh, fl⟩ := t
        have q0 : wr.cell? ⟨b, off + k * 6, none⟩ = some (.int .i64 tk) := hq 0 _ rfl
        have q1 : wr.cell? ⟨b, off + k * 6 + 1, none⟩ = some (.string tx) := hq 1 _ rfl
        have q2 : wr.cell? ⟨b, off + k * 6 + 2, none⟩ = some (.string un) := hq 2 _ rfl
        have q3 : wr.cell? ⟨b, off + k * 6 + 3, none⟩ = some (.bool wh) := hq 3 _ rfl
        have q4 : wr.cell? ⟨b, off + k * 6 + 4, none⟩ = some (.bool fl) := hq 4 _ rfl
        have q5 : wr.cell? ⟨b, off + k * 6 + 5, none⟩ = some (.slice x1 ks.length c1) := hq 5 _ rfl
        have hx0 := heap_alloc_new wr (.cells #[.int .i64 tk, .string tx, .string un, .bool wh, .bool fl, .slice x1 ks.length c1] 46)
        have hrow1 : TRow w.heap.size (wr.alloc (.cells #[.int .i64 tk, .string tx, .string un, .bool wh, .bool fl, .slice x1 ks.length c1] 46)) u3 (flatL (vs.take k)) := World.ownsRow.alloc hrow _
        have hB1 := hB.alloc hB.size (.cells #[.int .i64 tk, .string tx, .string un, .bool wh, .bool fl, .slice x1 ks.length c1] 46)
        have hbs := hB1.size
        have hlt0 : ∀ g, u3.ownBlock = some g → g < wr.heap.size := fun g hg => (World.ownsRow.lt hrow g hg).2
        rw [HT.out] at hsz
        generalize flatL (vs.take k) = FT at *
        have HS : Hid ((FT ++ (⟨tk, tx, un, wh, fl⟩ : T5) :: (if closeZ tk = 0 then [] else flatL ks ++ [endT (closeZ tk)])).length ≤ 1000000) := by
          show _ ≤ _
          dsimp only at hsz
          omega
        have hs1 : FT.length + 1 ≤ 1000000 := by
          have := HS.out
          simp only [List.length_append, List.length_cons] at this ⊢
          omega
        clear hq hrow hB hsz hn e1 HA HC HR HI
        go_upto_region 5 with fail
        generalize wr.alloc (.cells #[.int .i64 tk, .string tx, .string un, .bool wh, .bool fl, .slice x1 ks.length c1] 46) = w1 at *
        obtain ⟨y0, y1, y2, y3, y4, y5⟩ := tok6 hx0
        have hown1 := hrow1
        unfold TRow at hown1
        obtain ⟨TS, HTS⟩ : ∃ TS, Hid (TS = FT) := ⟨_, hid_mk rfl⟩
        rw [← HTS.out] at hown1 hrow1 hs1
        have HX7 : Hid (∀ o w7, (w1.alloc o).grownBy w7 u3.ownBlock → w7.heap[wr.heap.size]? = some (.cells #[.int .i64 tk, .string tx, .string un, .bool wh, .bool fl, .slice x1 ks.length c1] 46 (0, 0))) := by
          intro o w7 hgrow7
          have hl := (Array.getElem?_eq_some_iff.1 hx0).1
          rw [hgrow7.block _ (by simp; omega) (fun e => by have := hlt0 _ e.symm; omega), Below.heap_alloc w1 _ _ hl]
          exact hx0
        clear q0 q1 q2 q3 q4 q5 hx0
        go_wp2_with (at_builtin; go_must (refine wpList_append_own _ rfl _ _ 22 rfl w.heap.size 44 i0 _ 5 48 Try.underlying22 hi0 hz0 hz1 hz2 rfl (by decide) _ _ _ rfl (hown1.alloc _) ⟨w1.heap.size, 0, none⟩ 1 1 [.int .i64 tk, .string tx, .string un, .bool wh, .bool fl] rfl rfl (news5 w1 _ _ _ _ _) (by intro u hu; simp at hu; rcases hu with rfl | rfl | rfl | rfl | rfl <;> rfl) (by unfold maxLen; omega) (by omega) (by simp; omega) ?_); intro v' w7 hown7 hgrow7 _; have HV7 := hid_mk (HX7.out _ _ hgrow7); clear y0 y1 y2 y3 y4 y5; obtain ⟨y0, y1, y2, y3, y4, y5⟩ := tok6 HV7.out)
        have hB7 : Below w.heap.size w w7 := (hB1.alloc hbs _).grown hgrow7 (by simp; omega) (fun k hk => (hown1.lt k hk).1)
        have hrow7 : TRow w.heap.size w7 v' (TS ++ [⟨tk, tx, un, wh, fl⟩]) := TRow.push hown7
        have hbs7 := hB7.size
        clear hown7 hgrow7 hown1 hrow1 hB1 hbs hlt0
        have HB7 := hid_mk hB7
        have HROW7 := hid_mk hrow7
        have HCO : Hid (∀ w, Calls Try.prog 39 #[.int .i64 tk] w fun e w' => e = .returned (.int .i64 (closeZ tk)) ∧ w = w') := fun w => rend_any tk w
        clear hB7 hrow7
        refine (HCO.out _).mono ?_
        rintro e w8 ⟨rfl, rfl⟩
        by_cases h0 : closeZ tk = 0
        · have z0 : (closeZ tk != 0) = false := by simp [h0]
          have HT2 : Hid (TRow w.heap.size w7 v' (flatL (vs.take (k + 1)))) := by
            show TRow _ _ _ _
            have h := HROW7.out
            rw [HTS.out] at h
            rw [HT.out, if_pos h0]
            exact h
          go_wp2
          go_roundw
          case rel => exact ⟨k + 1, by go_num, by omega, HT2.out, HB7.out⟩
          case measure => simp [intOf]; omega
        · have z0 : (closeZ tk != 0) = true := by simpa using h0
          have HS2 : Hid (TS.length + 1 + (flatL ks).length + 1 ≤ 1000000) := by
            show _ ≤ _
            have h := HS.out
            have h2 := HTS.out
            rw [if_neg h0] at h
            rw [h2]
            simp only [List.length_append, List.length_cons, List.length_nil] at h ⊢
            omega
          have hs2 := HS2.out
          have hcl := HI2.out w7 (HW.out.trans (HB7.out.mono HW.out.size)) (by omega)
          have hl7 : (TS ++ [(⟨tk, tx, un, wh, fl⟩ : T5)]).length + (flatL ks).length ≤ 1000000 := by simp only [List.length_append, List.length_cons, List.length_nil]; omega
          have HF : Hid (flatL (vs.take (k + 1)) = TS ++ [⟨tk, tx, un, wh, fl⟩] ++ flatL ks ++ [endT (closeZ tk)]) := by
            show _ = _
            rw [HT.out, HTS.out, if_neg h0]
            simp
          generalize closeZ tk = ck at *
          have HONE := hid_mk (TRow.ones (flatL ks))
          clear HI2 HT HTS HS HX7 HV7 y0 y1 y2 y3 y4
          go_wp2_with (go_at_call 18; fail)
          refine hcl.mono ?_
          rintro e w8 ⟨o8, rfl, hrow8, hB8⟩
          have hrv8 := HROW7.out.keep hB8
          have hBw8 : Below w.heap.size w w8 := HB7.out.trans (hB8.mono HB7.out.size)
          have hbw8 := hBw8.size
          unfold TRow at hrv8 hrow8
          clear hcl y5 HROW7 HB7 hbs7 HW
          go_upto_region 9 with (at_builtin; go_must (refine wpList_append_owns rfl _ _ 22 rfl Try.underlying22 hi0 hz0 hz1 hz2 rfl (by decide) (by decide) rfl rfl hrv8 hrow8 HONE.out hl7 hbw8 ?_); intro v8 w10 hown10 hg10 hat10)
          have hB10 : Below w.heap.size w w10 := bgrown hBw8 hg10 (fun k hk => (hrv8.lt k hk).1)
          have hrow10 : TRow w.heap.size w10 v8 (TS ++ [(⟨tk, tx, un, wh, fl⟩ : T5)] ++ flatL ks) := TRow.cat hown10
          have hbs10 := hB10.size
          have hown8 := hrow10
          unfold TRow at hown8
          have hl8 : (TS ++ [(⟨tk, tx, un, wh, fl⟩ : T5)] ++ flatL ks).length + 1 ≤ 1000000 := by simp only [List.length_append, List.length_cons, List.length_nil]; omega
          generalize TS ++ [(⟨tk, tx, un, wh, fl⟩ : T5)] ++ flatL ks = TT at *
          clear hrow10 hown10 hg10 hat10 hrv8 hrow8 hB8 hBw8 HONE hl7
          go_wp2_with (at_builtin; go_must (refine wpList_append_own _ rfl _ _ 22 rfl w.heap.size 44 i0 _ 5 48 Try.underlying22 hi0 hz0 hz1 hz2 rfl (by decide) _ _ _ rfl (hown8.alloc _) ⟨w10.heap.size, 0, none⟩ 1 1 [.int .i64 ck, .string ⟨#[]⟩, .string ⟨#[]⟩, .bool false, .bool false] rfl rfl (news5 w10 _ _ _ _ _) (by intro u hu; simp at hu; rcases hu with rfl | rfl | rfl | rfl | rfl <;> rfl) (by unfold maxLen; omega) (by omega) (by simp; omega) ?_); intro v9 w9 hown9 hgrow9 _)
          have HB9 : Hid (Below w.heap.size w w9) := (hB10.alloc hbs10 _).grown hgrow9 (by simp; omega) (fun k hk => (hown8.lt k hk).1)
          have HROW9 : Hid (TRow w.heap.size w9 v9 (flatL (vs.take (k + 1)))) := by
            show TRow _ _ _ _
            rw [HF.out]
            exact TRow.push (t := endT ck) hown9
          clear hown9 hgrow9 hown8 hB10
          go_roundw
          case rel => exact ⟨k + 1, by go_num, by omega, HROW9.out, HB9.out⟩
          case measure => simp [intOf]; omega
      · have e : vs.take k = vs := List.take_of_length_le (by omega)
        rw [e] at hrow
        have HR1 := hid_mk hrow
        have HB1 := hid_mk hB
        clear hrow hB
        go_wp2
        go_ret
        exact ⟨_, rfl, HR1.out, HB1.out⟩

end Go.Proofs.Ytihdiaklhkecmaa
namespace Go.Proofs.Ytihdiaklhkecmaa
open Go.RowKit
set_option maxRecDepth 100000

set_option maxHeartbeats 400000 in
theorem ris_any (w : World) (tk : Int) (tx un : ByteArray) (wh fl : Bool) (kid : Value) (k : Int) :
    Calls Try.prog 36 #[.agg #[.int .i64 tk, .string tx, .string un, .bool wh, .bool fl, kid], .int .i64 k] w fun e w' => e = .returned (.bool (tk == k)) ∧ Below w.heap.size w w' := by
  go_enter Try.func36, Try.ntmps36
  go_wp2
  go_ret
  exact ⟨rfl, (Below.refl _ w).alloc (Nat.le_refl _) _⟩
set_option maxHeartbeats 400000 in
theorem ratv_any {P : Nat → Prop} {w : World} {v : Value} {vs : List V} (hv : VsAt P w v vs) (_hn : vs.length ≤ 1000000000) :
    Calls Try.prog 37 #[v] w fun e w' => ∃ out, e = .returned out ∧ VsAt P w' out (vs.drop (nextZ [17, 23] vs + 1)) ∧ Below w.heap.size w w' := by
  obtain ⟨a, cap, rfl, hl, hcap⟩ := hv.slice
  have HV := hid_mk hv
  clear hv
  go_enter Try.func37, Try.ntmps37
  go_wp2
  go_loopw [7] (fun a7 wr => ∃ (k : Nat), a7 = .int .i64 k ∧ k ≤ vs.length ∧ nextZ [17, 23] vs = k + nextZ [17, 23] (vs.drop k) ∧ Below w.heap.size w wr) (fun a7 _ => vs.length + 1 - (intOf a7).toNat)
  case atStart => exact ⟨0, rfl, Nat.zero_le _, by simp, Below.refl _ _⟩
  case round =>
    obtain ⟨k, rfl, hk, hnx, hB⟩ := hrel
    have HNX := hid_mk hnx
    clear hnx
    by_cases hlt : k < vs.length
    · obtain ⟨_, _, _, hcs⟩ := HV.out.cells
      obtain ⟨b, off, kv, rfl, hb, hc', hr'⟩ := hcs k hlt
      have hq := fun j y hy => (hB.cell (p := ⟨b, off + k * 6 + j, none⟩) hb).trans (hc' j y hy)
      have hbx : b < wr.heap.size := Nat.lt_of_lt_of_le hb hB.size
      obtain ⟨x1, c1, e1, _, _⟩ := hr'.slice
      rw [e1] at hq
      have HN1 : Hid (hasZ [17, 23] (vs[k]'hlt).tok.k = true → nextZ [17, 23] vs = k) := fun h => by
        rw [HNX.out, List.drop_eq_getElem_cons hlt, nextZ, if_pos h]
        rfl
      have HN2 : Hid (hasZ [17, 23] (vs[k]'hlt).tok.k = false → nextZ [17, 23] vs = k + 1 + nextZ [17, 23] (vs.drop (k + 1))) := fun h => by
        rw [HNX.out, List.drop_eq_getElem_cons hlt, nextZ, if_neg (by rw [h]; decide)]
        omega
      clear hcs hc' hr' e1
      generalize (vs[k]'hlt).tok = t at *
      generalize (vs[k]'hlt).kids.length = kn at *
      obtain ⟨tk, tx, un, wh, fl⟩ := t
      have q0 : wr.cell? ⟨b, off + k * 6, none⟩ = some (.int .i64 tk) := hq 0 _ rfl
      have q1 : wr.cell? ⟨b, off + k * 6 + 1, none⟩ = some (.string tx) := hq 1 _ rfl
      have q2 : wr.cell? ⟨b, off + k * 6 + 2, none⟩ = some (.string un) := hq 2 _ rfl
      have q3 : wr.cell? ⟨b, off + k * 6 + 3, none⟩ = some (.bool wh) := hq 3 _ rfl
      have q4 : wr.cell? ⟨b, off + k * 6 + 4, none⟩ = some (.bool fl) := hq 4 _ rfl
      have q5 : wr.cell? ⟨b, off + k * 6 + 5, none⟩ = some (.slice x1 kn c1) := hq 5 _ rfl
      have hx0 := heap_alloc_new wr (.cells #[.int .i64 tk, .string tx, .string un, .bool wh, .bool fl, .slice x1 kn c1] 46)
      have hBA : Below w.heap.size w (wr.alloc (.cells #[.int .i64 tk, .string tx, .string un, .bool wh, .bool fl, .slice x1 kn c1] 46)) := balloc hB _
      have HIS : Hid (∀ w' k, Calls Try.prog 36 #[.agg #[.int .i64 tk, .string tx, .string un, .bool wh, .bool fl, .slice x1 kn c1], .int .i64 k] w' fun e w'' => e = .returned (.bool (tk == k)) ∧ Below w'.heap.size w' w'') := fun w' k => ris_any w' tk tx un wh fl _ k
      clear hq hB HNX
      go_upto_region 4 with fail
      generalize wr.alloc (.cells #[.int .i64 tk, .string tx, .string un, .bool wh, .bool fl, .slice x1 kn c1] 46) = wa at *
      obtain ⟨y0, y1, y2, y3, y4, y5⟩ := tok6 hx0
      have hxl : wr.heap.size < wa.heap.size := (Array.getElem?_eq_some_iff.1 hx0).1
      have HX0 := hid_mk hx0
      have HBA := hid_mk hBA
      clear hx0 hBA q0 q1 q2 q3 q4 q5
      go_wp2_with (go_at_call 36; fail)
      refine (HIS.out _ _).mono ?_
      rintro e w1 ⟨rfl, hb1⟩
      obtain ⟨z0, z1, z2, z3, z4, z5⟩ := tok6 ((hb1.block _ hxl).trans HX0.out)
      have HB1 : Hid (Below w.heap.size w w1) := HBA.out.trans (hb1.mono HBA.out.size)
      clear hb1 y0 y1 y2 y3 y4 y5 HX0 HBA
      by_cases h17 : tk = 17
      · have c17 : (tk == 17) = true := by simpa using h17
        have HK := hid_mk (HN1.out (by rw [h17]; decide))
        clear HN1 HN2 h17
        go_wp2
        all_goals
          go_ret
          refine ⟨_, rfl, ?_, HB1.out⟩
          rw [HK.out]
          first
            | exact (HV.out.keep HB1.out).dropO (k + 1) (by omega) rfl rfl (fun h => rfl)
            | exact (HV.out.keep HB1.out).dropO (k + 1) (by omega) (by omega) (by omega) (fun h => by exfalso; omega)
      · have c17 : (tk == 17) = false := by simpa using h17
        go_wp2_with (go_at_call 36; fail)
        refine (HIS.out _ _).mono ?_
        rintro e w2 ⟨rfl, hb2⟩
        have HB2 : Hid (Below w.heap.size w w2) := HB1.out.trans (hb2.mono HB1.out.size)
        clear hb2 z0 z1 z2 z3 z4 z5
        by_cases h23 : tk = 23
        · have c23 : (tk == 23) = true := by simpa using h23
          have HK := hid_mk (HN1.out (by rw [h23]; decide))
          clear HN1 HN2 h17 h23
          go_wp2
          all_goals
            go_ret
            refine ⟨_, rfl, ?_, HB2.out⟩
            rw [HK.out]
            first
              | exact (HV.out.keep HB2.out).dropO (k + 1) (by omega) rfl rfl (fun h => rfl)
              | exact (HV.out.keep HB2.out).dropO (k + 1) (by omega) (by omega) (by omega) (fun h => by exfalso; omega)
        · have c23 : (tk == 23) = false := by simpa using h23
          have HK := hid_mk (HN2.out (by simp [hasZ, h17, h23]))
          clear HN1 HN2 h17 h23
          go_wp2
          go_roundw
          case rel => exact ⟨k + 1, by go_num, by omega, HK.out, HB2.out⟩
          case measure => simp [intOf]; omega
    · have e : vs.drop k = [] := List.drop_eq_nil_of_le (by omega)
      have HD : Hid (vs.drop (nextZ [17, 23] vs + 1) = []) := by
        show _ = _
        rw [HNX.out]
        exact List.drop_eq_nil_of_le (by omega)
      have HB1 := hid_mk hB
      clear hB e
      go_wp2
      go_ret
      exact ⟨_, rfl, by rw [HD.out]; exact VsAt.nil _ _, HB1.out⟩
/-- A row of rules as the document's own Rules makes them. -/
def RowR (P : Nat → Prop) (B : Nat) (w : World) (out : Value) (ps : List B2) : Prop :=
  w.ownsRow B 37 2 out ps.length (ps.flatMap fun x => [x.p, x.b]) ∧ (∀ g, out.ownBlock = some g → P g) ∧ ∀ x ∈ ps, VsAt (fun b => P b ∧ out.ownBlock ≠ some b) w x.p x.pv ∧ VsAt (fun b => P b ∧ out.ownBlock ≠ some b) w x.b x.bv
theorem RowR.keep {P : Nat → Prop} {B : Nat} {w w' : World} {out : Value} {ps : List B2} (h : RowR P B w out ps) (hb : Below w.heap.size w w') : RowR P B w' out ps := ⟨ownsRow_below h.1 hb, h.2.1, fun p hp => ⟨VsAt.keep hb (h.2.2 p hp).1, VsAt.keep hb (h.2.2 p hp).2⟩⟩
theorem RowR.push {P : Nat → Prop} {B : Nat} {w w' : World} {o : Obj} {out v' : Value} {ps : List B2} {x : B2} (h : RowR P B w out ps) (hk1 : VsAt (fun b => P b ∧ out.ownBlock ≠ some b) w x.p x.pv) (hk2 : VsAt (fun b => P b ∧ out.ownBlock ≠ some b) w x.b x.bv)
    (hown : w'.ownsRow B 37 2 v' (ps.length + 1) ((ps.flatMap fun x => [x.p, x.b]) ++ [x.p, x.b])) (hg : (w.alloc o).grownBy w' out.ownBlock) (hat : v'.ownBlock = out.ownBlock ∨ v'.ownBlock = some (w.alloc o).heap.size) (hP : P (w.alloc o).heap.size) : RowR P B w' v' (ps ++ [x]) := by
  have hs : (w.alloc o).heap.size = w.heap.size + 1 := by simp
  have keep : ∀ {x : Value} {xs : List V}, VsAt (fun b => P b ∧ out.ownBlock ≠ some b) w x xs → VsAt (fun b => P b ∧ v'.ownBlock ≠ some b) w' x xs := by
    intro x xs hx
    have h1 : VsAt (fun b => (P b ∧ out.ownBlock ≠ some b) ∧ v'.ownBlock ≠ some b) w x xs := hx.wider (fun b hb hlt => ⟨hb, by
      rcases hat with e | e
      · rw [e]; exact hb.2
      · rw [e, hs]
        intro e2
        have := Option.some.inj e2
        omega⟩)
    have h2 := h1.stay (W' := w') (by have := hg.size; omega) (fun b hb hlt => by
      rw [hg.block b (by omega) (fun e => hb.1.2 e.symm)]
      exact Below.heap_alloc w o b hlt)
    exact h2.wider (fun b hb _ => ⟨hb.1.1, hb.2⟩)
  refine ⟨?_, ?_, ?_⟩
  · rw [List.length_append, List.flatMap_append, List.flatMap_singleton]
    exact hown
  · intro g hgo
    rcases hat with e | e
    · exact h.2.1 g (e.symm.trans hgo)
    · rw [e] at hgo
      cases hgo
      exact hP
  · intro p hp
    rcases List.mem_append.1 hp with hp | hp
    · exact ⟨keep (h.2.2 p hp).1, keep (h.2.2 p hp).2⟩
    · rw [List.mem_singleton.1 hp]
      exact ⟨keep hk1, keep hk2⟩
theorem Try.info37 : (Try.prog.info? 37).map (fun i => (i.zero, i.size, i.bytes)) = some (some (.agg #[.slice none 0 0, .slice none 0 0]), 2, 48) := by kernel_rfl
theorem news2R (w : World) (x0 x1 : Value) (j : Nat) (u : Value) (h : [x0, x1][j]? = some u) : (w.alloc (.cells #[x0, x1] 37)).cell? ((⟨w.heap.size, 0, none⟩ : Addr).add j) = some u :=
  World.news_of_block (cs := #[x0, x1]) (t := 37) (fr := (0, 0)) (heap_alloc_new w _) j u h
theorem nextZ_lt {ks : List Int} : ∀ (l : List V) (k : Nat) (h : k < l.length), k < nextZ ks l → hasZ ks (l[k]'h).tok.k = false
  | [], k, h, _ => by simp at h
  | x :: r, 0, _, h => by
    rw [nextZ] at h
    cases hx : hasZ ks x.tok.k with
    | true => rw [hx] at h; simp at h
    | false => exact hx
  | x :: r, k + 1, hk, h => by
    rw [nextZ] at h
    cases hx : hasZ ks x.tok.k with
    | true => rw [hx] at h; simp at h
    | false =>
      rw [hx] at h
      have h' : k < nextZ ks r := by simpa using h
      exact nextZ_lt r k (by simpa using hk) h'
theorem nextZ_at {ks : List Int} : ∀ (l : List V) (h : nextZ ks l < l.length), hasZ ks (l[nextZ ks l]'h).tok.k = true
  | [], h => by simp [nextZ] at h
  | x :: r, h => by
    cases hx : hasZ ks x.tok.k with
    | true =>
      have e : nextZ ks (x :: r) = 0 := by rw [nextZ, hx]; rfl
      simp only [e]
      exact hx
    | false =>
      have e : nextZ ks (x :: r) = nextZ ks r + 1 := by rw [nextZ, hx]; rfl
      have h' : nextZ ks r < r.length := by rw [e] at h; simpa using h
      simp only [e]
      exact nextZ_at r h'
set_option maxHeartbeats 2000000 in
theorem rrules_any {P : Nat → Prop} {W : World} {v : Value} {vs : List V} (hv : VsAt P W v vs) (hm : V.most vs) (hn : vs.length ≤ 1000000) :
    Calls Try.prog 15 #[v] W fun e w' => ∃ out ps, e = .returned out ∧ RowR (fun _ => True) W.heap.size w' out ps ∧ ps.map B2.said = rulesZ vs.length vs ∧ Below W.heap.size W w' := by
  obtain ⟨i0, hi0, hz0, hz1, hz2⟩ := info_parts Try.info37
  have HV : Hid (VsAt (fun b => b < W.heap.size) W v vs) := hv.wider (fun b _ h => h)
  have HM := hid_mk hm
  obtain ⟨a, cap, rfl, hl, hcap⟩ := hv.slice
  clear hv hm
  go_enter Try.func15, Try.ntmps15
  go_wp2
  go_loopw [0, 3] (fun a0 a3 wr => ∃ (g : Nat) (us : List V) (ps : List B2), us.length ≤ g ∧ VsAt (fun b => b < W.heap.size) wr a0 us ∧ V.most us ∧ RowR (fun _ => True) W.heap.size wr a3 ps ∧ Below W.heap.size W wr ∧ Hid (rulesZ vs.length vs = ps.map B2.said ++ rulesZ g us) ∧ ps.length + us.length ≤ vs.length) (fun a0 _ _ => sliceLen a0)
  case atStart => exact ⟨vs.length, vs, [], Nat.le_refl _, HV.out, HM.out, ⟨World.ownsRow_nil _ _ _ _, fun g hg => trivial, fun p hp => by cases hp⟩, Below.refl _ _, (rfl : _ = _), by simp⟩
  case round =>
    obtain ⟨g, us, ps, hg, hus, hmu, hrow, hB, hE, hpl⟩ := hrel
    clear HV HM
    cases us with
    | nil =>
      obtain ⟨a0, c0, rfl, _⟩ := hus.slice
      have HE : Hid (ps.map B2.said = rulesZ vs.length vs) := by
        show _ = _
        rw [hE.out, rulesZ_nil, List.append_nil]
      have HROW := hid_mk hrow
      clear hrow hE hus hmu
      go_wp2
      go_ret
      exact ⟨_, ps, rfl, HROW.out, HE.out, hB⟩
    | cons x r =>
      obtain ⟨g, rfl⟩ : ∃ g', g = g' + 1 := ⟨g - 1, by rw [List.length_cons] at hg; omega⟩
      obtain ⟨a0, c0, rfl, hl0, hc0⟩ := hus.slice
      have HUS := hid_mk hus
      have HMU := hid_mk hmu
      obtain ⟨_, _, _, hcs⟩ := hus.cells
      obtain ⟨b, off, kv, rfl, hbl, hcc, hkid⟩ := hcs 0 (by simp)
      simp only [Nat.zero_mul, Nat.add_zero, List.getElem_cons_zero] at hcc hkid
      obtain ⟨⟨tk, tx, un, wh, fl⟩, xk⟩ := x
      obtain ⟨ka, kc, rfl, _, _⟩ := hkid.slice
      have HQ : Hid (∀ w', Below wr.heap.size wr w' → w'.cell? ⟨b, off, none⟩ = some (.int .i64 tk) ∧ w'.cell? ⟨b, off + 1, none⟩ = some (.string tx) ∧ w'.cell? ⟨b, off + 2, none⟩ = some (.string un) ∧ w'.cell? ⟨b, off + 3, none⟩ = some (.bool wh) ∧ w'.cell? ⟨b, off + 4, none⟩ = some (.bool fl) ∧ w'.cell? ⟨b, off + 5, none⟩ = some (.slice ka xk.length kc)) := fun w' hw' =>
        have hq := fun j y hy => (hw'.cell (p := ⟨b, off + j, none⟩) hbl).trans (hcc j y hy)
        ⟨hq 0 _ rfl, hq 1 _ rfl, hq 2 _ rfl, hq 3 _ rfl, hq 4 _ rfl, hq 5 _ rfl⟩
      have HNE : Hid (rulesZ (g + 1) (V.mk ⟨tk, tx, un, wh, fl⟩ xk :: r) = if hasZ [13, 14, 15] tk then rulesZ g r else if hasZ [3] tk then rulesZ g ((V.mk ⟨tk, tx, un, wh, fl⟩ xk :: r).drop (nextZ [17, 23] (V.mk ⟨tk, tx, un, wh, fl⟩ xk :: r) + 1)) else if h : nextZ [23] (V.mk ⟨tk, tx, un, wh, fl⟩ xk :: r) < (V.mk ⟨tk, tx, un, wh, fl⟩ xk :: r).length then ((V.mk ⟨tk, tx, un, wh, fl⟩ xk :: r).take (nextZ [23] (V.mk ⟨tk, tx, un, wh, fl⟩ xk :: r)), ((V.mk ⟨tk, tx, un, wh, fl⟩ xk :: r)[nextZ [23] (V.mk ⟨tk, tx, un, wh, fl⟩ xk :: r)]'h).kids) :: rulesZ g ((V.mk ⟨tk, tx, un, wh, fl⟩ xk :: r).drop (nextZ [23] (V.mk ⟨tk, tx, un, wh, fl⟩ xk :: r) + 1)) else []) := by
        show _ = _
        rw [rulesZ]
        rfl
      have HIS : Hid (∀ w' k, Calls Try.prog 36 #[.agg #[.int .i64 tk, .string tx, .string un, .bool wh, .bool fl, .slice ka xk.length kc], .int .i64 k] w' fun e w'' => e = .returned (.bool (tk == k)) ∧ Below w'.heap.size w' w'') := fun w' k => ris_any w' tk tx un wh fl _ k
      rw [List.length_cons] at hg hl0 hpl
      simp only [List.length_cons]
      have HROW := hid_mk hrow
      have HBB := hid_mk hB
      clear hcs hcc hkid hus hmu hrow hB
      go_upto_region 3 with fail
      go_cut [8] (fun s8 wx => s8 = .bool (hasZ [13, 14, 15] tk) ∧ Below wr.heap.size wr wx)
      case first =>
        obtain ⟨q0, q1, q2, q3, q4, q5⟩ := HQ.out wr (Below.refl _ _)
        go_wp2_with (go_at_call 36; fail)
        refine (HIS.out _ _).mono ?_
        rintro e w1 ⟨rfl, hb1⟩
        by_cases h13 : tk = 13
        · have z13 : (tk == 13) = true := by simpa using h13
          have HZ : Hid (hasZ [13, 14, 15] tk = true) := by show _ = _; rw [h13]; decide
          clear h13
          go_wp2_with fail
          go_meet
          exact ⟨by rw [HZ.out], hb1⟩
        · have z13 : (tk == 13) = false := by simpa using h13
          obtain ⟨p0, p1, p2, p3, p4, p5⟩ := HQ.out w1 hb1
          clear q0 q1 q2 q3 q4 q5
          go_wp2_with (go_at_call 36; fail)
          refine (HIS.out _ _).mono ?_
          rintro e w2 ⟨rfl, hb2⟩
          have hB2 : Below wr.heap.size wr w2 := hb1.trans (hb2.mono hb1.size)
          by_cases h14 : tk = 14
          · have z14 : (tk == 14) = true := by simpa using h14
            have HZ : Hid (hasZ [13, 14, 15] tk = true) := by show _ = _; rw [h14]; decide
            clear h13 h14
            go_wp2_with fail
            go_meet
            exact ⟨by rw [HZ.out], hB2⟩
          · have z14 : (tk == 14) = false := by simpa using h14
            obtain ⟨q0, q1, q2, q3, q4, q5⟩ := HQ.out w2 hB2
            clear p0 p1 p2 p3 p4 p5
            go_wp2_with (go_at_call 36; fail)
            refine (HIS.out _ _).mono ?_
            rintro e w3 ⟨rfl, hb3⟩
            have hB3 : Below wr.heap.size wr w3 := hB2.trans (hb3.mono hB2.size)
            have HZ : Hid (hasZ [13, 14, 15] tk = (tk == 15)) := by
              show _ = _
              unfold hasZ
              simp [h13, h14]
              rfl
            clear h13 h14
            go_wp2_with fail
            go_meet
            exact ⟨by rw [HZ.out], hB3⟩
      case rest =>
      obtain ⟨rfl, hb1⟩ := hcut
      generalize hasZ [13, 14, 15] tk = y1 at *
      have HZ3 : Hid (hasZ [3] tk = (tk == 3)) := by show _ = _; unfold hasZ; simp; rfl
      rw [HZ3.out] at HNE
      clear HZ3
      have hB1 : Below W.heap.size W wc := HBB.out.trans (hb1.mono HBB.out.size)
      have HR1 := hid_mk (HROW.out.keep hb1)
      have HU1 := hid_mk (HUS.out.keep hb1)
      clear HROW HBB
      cases y1 with
      | true =>
        have HN : Hid (rulesZ vs.length vs = ps.map B2.said ++ rulesZ g r) := by
          show _ = _
          rw [hE.out, HNE.out, if_pos rfl]
        clear HNE hE HIS
        go_wp2
        go_roundw
        case rel => exact ⟨g, r, ps, by omega, HU1.out.dropO 1 (by simp) (by simp) rfl (fun h => by simp only [List.length_cons] at h; rw [if_neg (by omega)]), HMU.out.drop 1, HR1.out, hB1, HN.out, by omega⟩
        case measure => simp [sliceLen]
      | false =>
        obtain ⟨q0, q1, q2, q3, q4, q5⟩ := HQ.out wc hb1
        go_wp2_with (go_at_call 36; fail)
        refine (HIS.out _ _).mono ?_
        rintro e w2 ⟨rfl, hb2⟩
        have hB2 : Below W.heap.size W w2 := hB1.trans (hb2.mono hB1.size)
        have HR2 := hid_mk (HR1.out.keep hb2)
        have HU2 := hid_mk (HU1.out.keep hb2)
        clear HIS q0 q1 q2 q3 q4 q5 HR1 HU1 hB1 hb2 hb1 HQ HUS
        generalize (tk == 3) = y2 at *
        cases y2 with
        | true =>
          have HN : Hid (rulesZ vs.length vs = ps.map B2.said ++ rulesZ g ((V.mk ⟨tk, tx, un, wh, fl⟩ xk :: r).drop (nextZ [17, 23] (V.mk ⟨tk, tx, un, wh, fl⟩ xk :: r) + 1))) := by
            show _ = _
            rw [hE.out, HNE.out, if_neg (by decide), if_pos rfl]
          clear HNE hE
          have hba := ratv_any HU2.out HMU.out.len
          have hdl : ((V.mk ⟨tk, tx, un, wh, fl⟩ xk :: r).drop (nextZ [17, 23] (V.mk ⟨tk, tx, un, wh, fl⟩ xk :: r) + 1)).length ≤ r.length := by simp
          have HMD := hid_mk (HMU.out.drop (nextZ [17, 23] (V.mk ⟨tk, tx, un, wh, fl⟩ xk :: r) + 1))
          simp only [List.length_cons] at hba
          generalize (V.mk ⟨tk, tx, un, wh, fl⟩ xk :: r).drop (nextZ [17, 23] (V.mk ⟨tk, tx, un, wh, fl⟩ xk :: r) + 1) = ds at *
          clear HU2 HMU
          go_wp2_with (go_at_call 37; fail)
          refine hba.mono ?_
          rintro e w3 ⟨o3, rfl, ho3, hb3⟩
          have HO3 := hid_mk ho3
          obtain ⟨a3, c3, rfl, _, _⟩ := ho3.slice
          clear ho3 hba
          go_wp2
          go_roundw
          case rel => exact ⟨g, ds, ps, by omega, HO3.out, HMD.out, HR2.out.keep hb3, hB2.trans (hb3.mono hB2.size), HN.out, by omega⟩
          case measure => simp [sliceLen]; omega
        | false =>
          have HN : Hid (rulesZ vs.length vs = ps.map B2.said ++ (if h : nextZ [23] (V.mk ⟨tk, tx, un, wh, fl⟩ xk :: r) < (V.mk ⟨tk, tx, un, wh, fl⟩ xk :: r).length then ((V.mk ⟨tk, tx, un, wh, fl⟩ xk :: r).take (nextZ [23] (V.mk ⟨tk, tx, un, wh, fl⟩ xk :: r)), ((V.mk ⟨tk, tx, un, wh, fl⟩ xk :: r)[nextZ [23] (V.mk ⟨tk, tx, un, wh, fl⟩ xk :: r)]'h).kids) :: rulesZ g ((V.mk ⟨tk, tx, un, wh, fl⟩ xk :: r).drop (nextZ [23] (V.mk ⟨tk, tx, un, wh, fl⟩ xk :: r) + 1)) else [])) := by
            show _ = _
            rw [hE.out, HNE.out, if_neg (by decide), if_neg (by decide)]
          clear HNE hE
          have hle := nextZ_le [23] (V.mk ⟨tk, tx, un, wh, fl⟩ xk :: r)
          have HLT := hid_mk (nextZ_lt (ks := [23]) (V.mk ⟨tk, tx, un, wh, fl⟩ xk :: r))
          have HAT := hid_mk (nextZ_at (ks := [23]) (V.mk ⟨tk, tx, un, wh, fl⟩ xk :: r))
          have hlu : (V.mk ⟨tk, tx, un, wh, fl⟩ xk :: r).length = r.length + 1 := rfl
          rw [← hlu]
          rw [← hlu] at hg hl0 hpl
          have HLU := hid_mk hlu
          clear hlu
          generalize V.mk ⟨tk, tx, un, wh, fl⟩ xk :: r = us at *
          generalize nextZ [23] us = n at *
          go_wp2
          go_loopw [4] (fun a4 wx => ∃ (k : Nat), a4 = .int .i64 k ∧ k ≤ n ∧ Below w2.heap.size w2 wx) (fun a4 _ => n + 1 - (intOf a4).toNat)
          case atStart => exact ⟨0, rfl, Nat.zero_le _, Below.refl _ _⟩
          case round =>
            obtain ⟨k, rfl, hk, hBq⟩ := hrel
            by_cases hku : k < us.length
            · obtain ⟨_, _, _, hcs⟩ := HU2.out.cells
              obtain ⟨bb, oo, kv, ebo, hbb, hcc, hkid⟩ := hcs k hku
              have e1 : bb = b := by injection ebo with e; injection e with e1 e2; exact e1.symm
              have e2 : oo = off := by injection ebo with e; injection e with e1 e2; exact e2.symm
              subst e1 e2
              have HLK := hid_mk (fun h => HLT.out k hku h)
              have HAK : Hid (∀ (h : k = n), hasZ [23] (us[k]'hku).tok.k = true) := fun h => by subst h; exact HAT.out hku
              obtain ⟨kb, kd, rfl, _, _⟩ := hkid.slice
              have hq := fun j y hy => (hBq.cell (p := ⟨bb, oo + k * 6 + j, none⟩) hbb).trans (hcc j y hy)
              have hbq : bb < wr.heap.size := Nat.lt_of_lt_of_le hbb hBq.size
              clear hcs hcc hkid ebo
              generalize (us[k]'hku).tok = tq at *
              generalize (us[k]'hku).kids.length = kn at *
              obtain ⟨sk, sx, sn, sh, sl⟩ := tq
              have q0 : wr.cell? ⟨bb, oo + k * 6, none⟩ = some (.int .i64 sk) := hq 0 _ rfl
              have q1 : wr.cell? ⟨bb, oo + k * 6 + 1, none⟩ = some (.string sx) := hq 1 _ rfl
              have q2 : wr.cell? ⟨bb, oo + k * 6 + 2, none⟩ = some (.string sn) := hq 2 _ rfl
              have q3 : wr.cell? ⟨bb, oo + k * 6 + 3, none⟩ = some (.bool sh) := hq 3 _ rfl
              have q4 : wr.cell? ⟨bb, oo + k * 6 + 4, none⟩ = some (.bool sl) := hq 4 _ rfl
              have q5 : wr.cell? ⟨bb, oo + k * 6 + 5, none⟩ = some (.slice kb kn kd) := hq 5 _ rfl
              have h36 := ris_any wr sk sx sn sh sl (.slice kb kn kd) 23
              clear hq
              go_wp2_with (go_at_call 36; fail)
              refine h36.mono ?_
              rintro e w3 ⟨rfl, hb3⟩
              have HB3 : Hid (Below w2.heap.size w2 w3) := hBq.trans (hb3.mono hBq.size)
              clear h36 hb3 hBq q0 q1 q2 q3 q4 q5
              by_cases hkn : k < n
              · have hz := HLK.out hkn
                have z23 : (sk == 23) = false := by
                  have : hasZ [23] sk = false := hz
                  unfold hasZ at this
                  simpa using this
                clear hz HLK HAK
                go_wp2
                go_roundw
                case rel => exact ⟨k + 1, by go_num, by omega, HB3.out⟩
                case measure => simp [intOf]; omega
              · have hkk : k = n := by omega
                have hz := HAK.out hkk
                have z23 : (sk == 23) = true := by
                  have : hasZ [23] sk = true := hz
                  unfold hasZ at this
                  simpa using this
                clear hz HLK HAK
                subst hkk
                go_upto_region 12 with fail
                have hB3 : Below W.heap.size W w3 := hB2.trans (HB3.out.mono hB2.size)
                have HR3 := hid_mk (HR2.out.keep HB3.out)
                have HU3 := hid_mk (HU2.out.keep HB3.out)
                have HU0 := HU3.out
                obtain ⟨_, _, _, hcs⟩ := HU0.cells
                obtain ⟨b1, o1, kv1, ebo, hbl3, hcc, hkid⟩ := hcs k hku
                have e1 : b1 = bb := by injection ebo with e; injection e with e1 e2; exact e1.symm
                have e2 : o1 = oo := by injection ebo with e; injection e with e1 e2; exact e2.symm
                subst e1 e2
                have HKID := hid_mk hkid
                obtain ⟨k1, d1, rfl, _, _⟩ := hkid.slice
                have hkq : w3.cell? ⟨b1, o1 + k * 6 + 5, none⟩ = some (.slice k1 (us[k]'hku).kids.length d1) := hcc 5 _ rfl
                have hbW : b1 < W.heap.size := HU0.first (by omega)
                have HNN : Hid (rulesZ vs.length vs = ps.map B2.said ++ ((us.take k, (us[k]'hku).kids) :: rulesZ g (us.drop (k + 1)))) := by
                  show _ = _
                  rw [HN.out, dif_pos hku]
                generalize (us[k]'hku).kids = ks at *
                have hbs3 := hB3.size
                have hown3 := HR3.out.1
                have HLT3 : Hid (∀ j, u3.ownBlock = some j → W.heap.size ≤ j ∧ j < w3.heap.size) := hown3.lt
                have HF1 : Hid (∀ w', Below w3.heap.size w3 w' → w'.cell? ⟨b1, o1 + k * 6 + 5, none⟩ = some (.slice k1 ks.length d1)) := fun w' hw' => (hw'.cell (p := ⟨b1, o1 + k * 6 + 5, none⟩) hbl3).trans hkq
                have HF3 : Hid (∀ w' w7, Below w3.heap.size w3 w' → w'.grownBy w7 u3.ownBlock → w7.cell? ⟨b1, o1 + k * 6 + 5, none⟩ = some (.slice k1 ks.length d1)) := fun w' w7 hw' hg => (hg.cell_far ⟨b1, o1 + k * 6 + 5, none⟩ (by have := hw'.size; show b1 < _; omega) (fun e => by have := (hown3.lt b1 e.symm).1; omega)).trans (HF1.out w' hw')
                have gd : Below w3.heap.size w3 w3.drew := below_drewN5 _ w3 1
                have HOW : Hid (∀ w', Below w3.heap.size w3 w' → w'.ownsRow W.heap.size 37 2 u3 ps.length (ps.flatMap fun x => [x.p, x.b])) := fun w' hw' => ownsRow_below hown3 hw'
                have hmx : ps.length + 1 ≤ maxLen := by unfold maxLen; omega
                have hI1 : (0 : Int) ≤ (k : Int) := by omega
                have hI2 : (k : Int) ≤ (c0 : Int) := by omega
                have htk : (us.take k).length = k := by rw [List.length_take]; omega
                have HR0 : Hid (Row (fun b => u3.ownBlock ≠ some b) w3.heap.size (w3.drew.alloc (.cells #[] 46)) (.slice (some ⟨w3.heap.size, 0, none⟩) 0 0) []) := by
                  refine ⟨World.ownsRow_lit (base := w3.heap.size) (e := 46) (size := 6) w3.drew #[] 0 (Nat.le_refl _) (by decide) rfl, fun j hj e => ?_, fun p hp => by cases hp⟩
                  have e1 : w3.heap.size = j := Option.some.inj hj
                  have := (HLT3.out j e).2
                  omega
                have HS0 : Hid (VsAt (fun b => u3.ownBlock ≠ some b ∧ (Value.slice (some ⟨w3.heap.size, 0, none⟩) 0 0).ownBlock ≠ some b) (w3.drew.alloc (.cells #[] 46)) (.slice (some ⟨b1, o1, none⟩) k c0) (us.take k)) := by
                  have h := ((HU0.take k (by omega)).wider (Q := fun b => b < W.heap.size ∧ b < w3.heap.size) (fun b hb h => ⟨hb, h⟩)).keep (balloc gd (.cells #[] 46))
                  exact h.wider (fun b hb _ => ⟨fun e => by have := (HLT3.out b e).1; omega, fun e => by have : w3.heap.size = b := Option.some.inj e; omega⟩)
                have hn0 : ([] : List (T5 × Value × List V)).length + (us.take k).length ≤ 1000000 := by rw [htk]; simp; omega
                have HP0 : Hid (u3.ownBlock ≠ some (w3.drew.alloc (.cells #[] 46)).heap.size) := fun e => by
                  have := (HLT3.out _ e).2
                  have e2 : (w3.drew.alloc (.cells #[] 46)).heap.size = w3.heap.size + 1 := by simp
                  omega
                have HTK := hid_mk htk
                clear hcs hcc hkid ebo HU0 HN hkq hown3 htk HLT HAT HR2 HU2
                go_region_held3 (fun w' => w'.cell? ⟨b1, o1 + k * 6 + 5, none⟩ = some (.slice k1 ks.length d1)) (first | with_reducible exact HF1.out _ gd | exact HF1.out _ (balloc gd _) | with_reducible exact HF1.out _ g4 | exact HF1.out _ (balloc g4 _) | exact HF3.out _ w7 (balloc g4 _) hgrow7) (first
                  | (refine step_append_row (P := fun b => u3.ownBlock ≠ some b) (ps := []) (vs := us.take k) (by rfl) _ _ (by rfl) (by rfl) (by rfl) HR0.out HS0.out hn0 (balloc gd _).size HP0.out ?_; intro v4 w4 qs4 hrow4 hq4 hg4 hat4; have g4 := bgrown (balloc gd _) hg4 (fun j e => by have e1 : w3.heap.size = j := Option.some.inj e; omega); have hv4 := hrow4.vals; rw [List.map_append, List.map_nil, List.nil_append, hq4] at hv4; obtain ⟨va, vc, ev4, _, _⟩ := hv4.slice; rw [HTK.out] at ev4; subst ev4)
                  | (refine step_append_lies _ (by rfl) _ _ _ (by rfl) W.heap.size 37 i0 _ 2 48 Try.underlying31 hi0 hz0 hz1 hz2 rfl (by omega) _ ps.length (ps.flatMap fun x => [x.p, x.b]) (by rfl) ((HOW.out _ g4).alloc _) ⟨w4.heap.size, 0, none⟩ 1 1 [_, .slice k1 ks.length d1] (by rfl) (by rfl) (news2R w4 _ _) (by simp [Value.oneCell']) (by omega) hmx (by omega) (by have := g4.size; simp; omega) (w4.heap.size + 1) (by simp) ?_; intro gx cap7 w7 hown7 hgrow7 hgat7 hglt7))
                all_goals
                  have hg4s := g4.size
                  have hBx : Below W.heap.size W w4 := hB3.trans (g4.mono hbs3)
                  have hBw7 : Below W.heap.size W w7 := (hBx.alloc hBx.size _).grown hgrow7 (by simp; omega) (fun j hj => (HLT3.out j hj).1)
                  have hkid4 := (HKID.out.wider (Q := fun b => b < W.heap.size ∧ b < w3.heap.size) (fun b hb h => ⟨hb, h⟩)).keep g4
                  have HRP : Hid (RowR (fun _ => True) W.heap.size w7 (.slice (some ⟨gx, 0, none⟩) (ps.length + 1) cap7) (ps ++ [⟨.slice va k vc, us.take k, .slice k1 ks.length d1, ks⟩])) :=
                    (HR3.out.keep g4).push (x := ⟨.slice va k vc, us.take k, .slice k1 ks.length d1, ks⟩) (hv4.wider (fun b hb _ => ⟨trivial, hb⟩)) (hkid4.wider (fun b hb _ => ⟨trivial, fun e => by have := (HLT3.out b e).1; omega⟩)) hown7 hgrow7 (by
                      rcases hgat7 with e | e
                      · left; rw [e]; rfl
                      · right; rw [e]; simp [Value.ownBlock]) trivial
                  have HU7 : Hid (VsAt (fun b => b < W.heap.size) w7 (.slice (some ⟨b1, o1, none⟩) us.length c0) us) := HU3.out.stay (by have := hgrow7.size; simp at this; omega) (fun b hb _ => (hBw7.block b hb).trans (hB3.block b hb).symm)
                  have HNP : Hid (rulesZ vs.length vs = (ps ++ [(⟨.slice va k vc, us.take k, .slice k1 ks.length d1, ks⟩ : B2)]).map B2.said ++ rulesZ g (us.drop (k + 1))) := by
                    show _ = _
                    rw [HNN.out, List.map_append, List.append_assoc]
                    rfl
                  have HBW := hid_mk hBw7
                  clear hBw7 hBx hown7 hgrow7 hgat7 hglt7 hv4 g4 HF1 HF3 HOW HNN HU3 HR3 gd hkid4 hrow4 hq4 hg4 hat4 HR0 HS0 HP0 HKID
                  go_wp2
                  have hlu := HLU.out
                  exact ⟨⟨g, us.drop (k + 1), _, by rw [List.length_drop]; omega, HU7.out.dropO (k + 1) (by omega) rfl rfl (fun h => by rw [if_neg (by omega)]), HMU.out.drop (k + 1), HRP.out, HBW.out, HNP.out, by rw [List.length_append, List.length_drop, List.length_singleton]; omega⟩, by simp only [sliceLen]; omega⟩
            · have hkk : k = n := by omega
              have hkl : k = us.length := by omega
              have HF : Hid (ps.map B2.said = rulesZ vs.length vs) := by
                show _ = _
                rw [HN.out, dif_neg (by omega), List.append_nil]
              have HRF := hid_mk (HR2.out.keep hBq)
              have HBF : Hid (Below W.heap.size W wr) := hB2.trans (hBq.mono hB2.size)
              clear HN HLT HAT hkk hBq HR2 hB2
              subst hkl
              go_wp2
              go_ret
              exact ⟨_, ps, rfl, HRF.out, HF.out, HBF.out⟩

end Go.Proofs.Ytihdiaklhkecmaa
