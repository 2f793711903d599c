/- parse.read of any tokens. parse.Values and gouacheref03.Values of any tokens. selector.Text. -/
import Derived.Test.YtdibldcnklgcjaaGreatDoorYReadA
import Derived.Test.YtdibldcnklgcjaaGreatDoorLPw
import Derived.Test.YtdibldcnklgcjaaGreatDoorToks
namespace Go.Proofs.YtdibldcnklgcjaaGreatDoor.Y
open Go.RowKit
open Go.Proofs.YtdibldcnklgcjaaGreatDoor.L (T5 V VsAt t5Cells vCells cell_of_heap)
set_option maxRecDepth 100000

/-- Behind the store of what is within, wherever the value's block lies. -/
theorem opened2 {P0 B : Nat} {W wr WA w1 : World} {u8 : Value} {ps : List (T5 × Value × List V)} {x0 x1 x2 x3 x4 x5 : Value} {kv : Value} {kids : List V} (hrow : Row (fun b => P0 ≤ b) P0 wr u8 ps) (hB : Below P0 W wr) (hAW : Below wr.heap.size wr WA) (hb1 : Below WA.heap.size WA w1)
    (hx : WA.heap[B]? = some (.cells #[x0, x1, x2, x3, x4, x5] 97 (0, 0))) (hBs : wr.heap.size ≤ B) (hk : VsAt (fun b => WA.heap.size ≤ b) w1 kv kids) (hP : P0 ≤ wr.heap.size) :
    Row (fun b => P0 ≤ b) P0 (w1.setCell ⟨B, 5, none⟩ kv) u8 ps ∧ Below P0 W (w1.setCell ⟨B, 5, none⟩ kv) ∧ (w1.setCell ⟨B, 5, none⟩ kv).heap[B]? = some (.cells #[x0, x1, x2, x3, x4, kv] 97 (0, 0)) ∧ VsAt (fun b => P0 ≤ b ∧ u8.ownBlock ≠ some b) (w1.setCell ⟨B, 5, none⟩ kv) kv kids := by
  have hlt : B < WA.heap.size := (Array.getElem?_eq_some_iff.1 hx).1
  have h1 : Below wr.heap.size wr (w1.setCell ⟨B, 5, none⟩ kv) := (hAW.trans (hb1.mono hAW.size)).setCell (p := ⟨B, 5, none⟩) hBs kv
  have hx1 := (hb1.block _ hlt).trans hx
  refine ⟨hrow.keep h1, hB.trans (h1.mono hP), ?_, ?_⟩
  · have := heap_setCell_same w1 B 5 #[x0, x1, x2, x3, x4, x5] 97 kv hx1
    rw [this]
    rfl
  · have h2 := hk.stay (W' := w1.setCell ⟨B, 5, none⟩ kv) (by simp) (fun b hb _ => Below.heap_setCell w1 ⟨B, 5, none⟩ kv b (by show b ≠ B; omega))
    refine h2.wider (fun b hb _ => ⟨by have := hAW.size; omega, fun e => ?_⟩)
    have := (hrow.1.lt b e).2
    have := hAW.size
    omega
/-- The function that tells what ends the values: nothing (0), or a kind. -/
def EndF (W : World) (fv : Value) (c : Int) : Prop := (fv = .func (.func 18) #[] #[] ∧ c = 0) ∨ ∃ B, fv = .func (.func 72) #[] #[.pointer (some ⟨B, 0, none⟩)] ∧ c ≠ 0 ∧ W.heap[B]? = some (.cells #[.int .i64 c] 3 (0, 0))
theorem tok5c {W : World} {B : Nat} {x0 x1 x2 x3 x4 : Value} (h : W.heap[B]? = some (.cells #[x0, x1, x2, x3, x4] 69 (0, 0))) :
    W.cell? ⟨B, 0, none⟩ = some x0 ∧ W.cell? ⟨B, 1, none⟩ = some x1 ∧ W.cell? ⟨B, 2, none⟩ = some x2 ∧ W.cell? ⟨B, 3, none⟩ = some x3 ∧ W.cell? ⟨B, 4, none⟩ = some x4 := by
  refine ⟨?_, ?_, ?_, ?_, ?_⟩ <;> simp [World.cell?, h]

set_option maxHeartbeats 2000000 in
theorem read_any (f : Nat) : ∀ (ts : List T5), ts.length ≤ f → ∀ (W0 : World) (v : Value), TsAt W0 v ts → ∀ W, Below W0.heap.size W0 W → ∀ (c n : Int) (fv : Value), EndF W fv c → 0 ≤ n → n ≤ 64 → ts.length ≤ 100000 →
    Calls Tryz.prog 17 #[v, .int .i64 n, fv] W fun e w' => ∃ out rest, e = .returned (.tuple #[out, rest]) ∧ VsAt (fun b => W.heap.size ≤ b) w' out (someZ f ts c n).1 ∧ TsAt W0 rest (someZ f ts c n).2 ∧ Below W.heap.size W w' := by
  induction f using Nat.strongRecOn with
  | _ f ih =>
    intro ts hf W0 v hv W hW0 c n fv hfv hn0 hn1 hn2
    obtain ⟨i0, hi0, hz0, hz1, hz2⟩ := info_parts Tryz.info97
    have HV := hid_mk hv
    have HI := hid_mk ih
    obtain ⟨a, cap, rfl, hl, hcap, _⟩ := hv
    clear ih
    rcases hfv with ⟨rfl, hc0⟩ | ⟨BF, rfl, hcz, hBF⟩
    · have HEN : Hid (∀ (tk : Int) (tx un : ByteArray) (wh fl : Bool) (w : World), Below W.heap.size W w → Calls Tryz.prog 18 #[.agg #[.int .i64 tk, .string tx, .string un, .bool wh, .bool fl]] w fun e w' => e = .returned (.bool (decide (c ≠ 0 ∧ tk = c))) ∧ Below w.heap.size w w') := by
        intro tk tx un wh fl w _
        have : decide (c ≠ 0 ∧ tk = c) = false := by simp [hc0]
        rw [this]
        exact ends0_any _ w
      clear hc0
      go_enter Tryz.func17, Tryz.ntmps17
      go_wp2
      go_loopw [0, 8] (fun a0 a8 wr => ∃ (g : Nat) (r : List T5) (ps : List (T5 × Value × List V)), r.length ≤ g ∧ g ≤ f ∧ TsAt W0 a0 r ∧ Row (fun b => W.heap.size ≤ b) W.heap.size wr a8 ps ∧ Below W.heap.size W wr ∧ someZ f ts c n = (ps.map mkV ++ (someZ g r c n).1, (someZ g r c n).2) ∧ ps.length + r.length ≤ ts.length) (fun a0 _ _ => sliceLen a0)
      case atStart => exact ⟨f, ts, [], hf, Nat.le_refl _, HV.out, ⟨World.ownsRow_nil _ _ _ _, fun g hg => by simp [Value.ownBlock] at hg, fun p hp => by cases hp⟩, Below.refl _ _, rfl, by simp⟩
      case round =>
        obtain ⟨g, r, ps, hg, hgf, hts, hrow, hB, hE, hpl⟩ := hrel
        have HE := hid_mk hE
        clear hE HV
        have hW1 : Below W0.heap.size W0 wr := hW0.trans (hB.mono hW0.size)
        cases r with
        | nil =>
          obtain ⟨a0, c0, rfl, _⟩ := hts
          have HD := hid_mk (someZ_nil g c n)
          have hvs := hrow.vals
          have HR : Hid (VsAt (fun b => W.heap.size ≤ b) wr u8 (someZ f ts c n).1 ∧ (someZ f ts c n).2 = []) := by
            show _ ∧ _
            rw [HE.out, HD.out, List.append_nil]
            exact ⟨hvs, rfl⟩
          clear hrow hvs HI HE HD HEN
          go_wp2
          go_ret2
          exact ⟨_, _, rfl, HR.out.1, by rw [HR.out.2]; exact TsAt.nil _, hB⟩
        | cons t r =>
          obtain ⟨g, rfl⟩ : ∃ g', g = g' + 1 := ⟨g - 1, by rw [List.length_cons] at hg; omega⟩
          have HTS := hid_mk hts
          obtain ⟨a0, c0, rfl, hc1, hc2, hcell⟩ := hts
          obtain ⟨b, off, rfl, hbw, hcc⟩ := hcell (by simp)
          have hq := fun j y hy => (hW1.cell (p := ⟨b, off + 0 * 5 + j, none⟩) hbw).trans (hcc 0 (by simp) j y hy)
          simp only [Nat.zero_mul, Nat.add_zero, List.getElem_cons_zero] at hq
          rw [List.length_cons] at hg hpl hc1
          obtain ⟨tk, tx, un, wh, fl⟩ := t
          have q0 := hq 0 _ rfl
          have q1 := hq 1 _ rfl
          have q2 := hq 2 _ rfl
          have q3 := hq 3 _ rfl
          have q4 := hq 4 _ rfl
          simp only [Nat.add_zero] at q0
          clear hq hcc hcell
          have hen := fun w hw => HEN.out tk tx un wh fl w hw
          obtain ⟨en, he⟩ : ∃ en, en = decide (c ≠ 0 ∧ tk = c) := ⟨_, rfl⟩
          rw [← he] at hen
          have HQ := hid_mk he
          clear he HEN
          have HTL : Hid (∀ a', (0 < r.length → a' = ⟨b, off + 5, none⟩) → TsAt W0 (.slice (some a') r.length (c0 - 1)) r) := fun a' h => TsAt.tail HTS.out a' h
          have hAl : Below wr.heap.size wr (wr.alloc (.cells #[.int .i64 tk, .string tx, .string un, .bool wh, .bool fl] 69)) := (Below.refl _ wr).alloc (Nat.le_refl _) _
          have hBA : Below W.heap.size W (wr.alloc (.cells #[.int .i64 tk, .string tx, .string un, .bool wh, .bool fl] 69)) := hB.trans (hAl.mono hB.size)
          have hbl0 := heap_alloc_new wr (.cells #[.int .i64 tk, .string tx, .string un, .bool wh, .bool fl] 69)
          have hsA : (wr.alloc (.cells #[.int .i64 tk, .string tx, .string un, .bool wh, .bool fl] 69)).heap.size = wr.heap.size + 1 := by simp
          have HROW := hid_mk hrow
          clear hrow HTS
          go_wp2_with (go_at_call 18; fail)
          all_goals
            refine (hen _ hBA).mono ?_
            rintro e' w1 ⟨rfl, b1⟩
            have hw1 : Below wr.heap.size wr w1 := hAl.trans (b1.mono hAl.size)
            have hBw : Below W.heap.size W w1 := hB.trans (hw1.mono hB.size)
            have hWw : Below W0.heap.size W0 w1 := hW1.trans (hw1.mono hW1.size)
            have HRW := hid_mk (HROW.out.keep hw1)
            have hx : w1.heap[wr.heap.size]? = some (.cells #[.int .i64 tk, .string tx, .string un, .bool wh, .bool fl] 69 (0, 0)) := (b1.block _ (by omega)).trans hbl0
            have hsz : wr.heap.size < w1.heap.size := (Array.getElem?_eq_some_iff.1 hx).1
            clear q0 q1 q2 q3 q4
            obtain ⟨q0, q1, q2, q3, q4⟩ := tok5c hx
            have HT : Hid (∃ sl, TsAt W0 sl r) := ⟨_, HTL.out ⟨b, off + 5, none⟩ (fun h => rfl)⟩
            first
              | (have hc01 : c0 = 1 := by omega
                 subst hc01
                 have htl : TsAt W0 (.slice (some ⟨b, off, none⟩) r.length 0) r := HTL.out ⟨b, off, none⟩ (fun h => by exfalso; omega)
                 have HTT := hid_mk htl
                 clear htl)
              | (have htl := HTL.out ⟨b, off + 5, none⟩ (fun h => rfl)
                 have HTT := hid_mk htl
                 clear htl)
            clear b1 hen hBA hbl0 hAl hw1 HROW HTL HT hx hW1 hB
            have hbs := hBw.size
            by_cases hen1 : en = true
            · subst hen1
              have HZ : Hid (someZ (g + 1) (⟨tk, tx, un, wh, fl⟩ :: r) c n = ([], r)) := by show _ = _; rw [someZ, if_pos (of_decide_eq_true HQ.out.symm)]
              have HR : Hid (VsAt (fun b => W.heap.size ≤ b) w1 u8 (someZ f ts c n).1 ∧ (someZ f ts c n).2 = r) := by
                show _ ∧ _
                rw [HE.out, HZ.out, List.append_nil]
                exact ⟨HRW.out.vals, rfl⟩
              clear HRW HI HE HZ HQ
              go_wp2
              go_ret2
              exact ⟨_, _, rfl, HR.out.1, by rw [HR.out.2]; exact HTT.out, hBw⟩
            · have hen2 : en = false := by simpa using hen1
              subst hen2
              have HA : Hid (¬ (c ≠ 0 ∧ tk = c)) := of_decide_eq_false HQ.out.symm
              clear hen1 HQ
              have hco := fun w => closeOf_any tk w
              obtain ⟨e, he⟩ : ∃ e, e = closeZ tk := ⟨_, rfl⟩
              rw [← he] at hco
              have HEQ := hid_mk he
              clear he
              go_wp2_with (go_at_call 41; fail)
              refine (hco _).mono ?_
              rintro e' w' ⟨rfl, rfl⟩
              clear hco
              by_cases h0 : e = 0
              · subst h0
                have HNX : Hid (someZ f ts c n = ((ps ++ [((⟨tk, tx, un, wh, fl⟩ : T5), (Value.slice none 0 0), ([] : List V))]).map mkV ++ (someZ g r c n).1, (someZ g r c n).2)) := by
                  show _ = _
                  rw [HE.out, someZ, if_neg HA.out, if_pos HEQ.out.symm, List.map_append, List.append_assoc]
                  rfl
                have hown := HRW.out.1
                clear HI HE HA HEQ
                go_wp2_with (at_builtin; go_must (refine wpList_append_own_at _ rfl _ _ 44 rfl W.heap.size 97 i0 _ 6 72 Tryz.underlying44 hi0 hz0 hz1 hz2 rfl (by decide) _ _ _ rfl (hown.alloc _) ⟨w1.heap.size, 0, none⟩ 1 1 [.int .i64 tk, .string tx, .string un, .bool wh, .bool fl, .slice none 0 0] rfl rfl (news6 w1 _ _ _ _ _ _) (by intro u hu; simp at hu; rcases hu with rfl | rfl | rfl | rfl | rfl | rfl <;> rfl) (by unfold maxLen; omega) (by omega) (by simp; omega) ?_); intro v' w7 hown7 hgrow7 _ hat7)
                go_roundw
                case rel => exact ⟨g, r, _, by omega, by omega, HTT.out, HRW.out.push (t := ⟨tk, tx, un, wh, fl⟩) (VsAt.nil _ _) hown7 hgrow7 hat7 (by simp; omega), (hBw.alloc hbs _).grown hgrow7 (by simp; omega) (fun k hk => (hown.lt k hk).1), HNX.out, by simp; omega⟩
                case measure => simp [sliceLen]
              · have zE : (e == 0) = false := by simpa using h0
                have hrl := some_len g r e (n + 1)
                have HSZ : Hid (someZ f ts c n = if 64 < n + 1 then (ps.map mkV ++ (someZ g (someZ g r e (n + 1)).2 c n).1, (someZ g (someZ g r e (n + 1)).2 c n).2) else (ps.map mkV ++ (V.mk ⟨tk, tx, un, wh, fl⟩ (someZ g r e (n + 1)).1 :: (someZ g (someZ g r e (n + 1)).2 c n).1), (someZ g (someZ g r e (n + 1)).2 c n).2)) := by
                  show _ = _
                  rw [HE.out, someZ, if_neg HA.out, if_neg (by rw [← HEQ.out]; exact h0), ← HEQ.out]
                  by_cases h6 : 64 < n + 1
                  · rw [if_pos h6, if_pos h6]
                  · rw [if_neg h6, if_neg h6]
                have HRS : Hid (runS [closeZ tk] r = (someZ g r e (n + 1)).2) := by
                  show _ = _
                  rw [runS_some g r (by omega) (closeZ tk) (n + 1) [] (by rw [← HEQ.out]; exact h0), runS, ← HEQ.out]
                have HREC : Hid (∀ sl, TsAt W0 sl r → ∀ w', Below W0.heap.size W0 w' → ∀ fv, EndF w' fv e → n + 1 ≤ 64 → Calls Tryz.prog 17 #[sl, .int .i64 (n + 1), fv] w' fun e' w'' => ∃ out rest, e' = .returned (.tuple #[out, rest]) ∧ VsAt (fun b => w'.heap.size ≤ b) w'' out (someZ g r e (n + 1)).1 ∧ TsAt W0 rest (someZ g r e (n + 1)).2 ∧ Below w'.heap.size w' w'') :=
                  fun sl hsl w' hw' fv hfv hn => HI.out g (by omega) r (by omega) W0 sl hsl w' hw' e (n + 1) fv hfv (by omega) hn (by omega)
                have HBH : Hid (Calls Tryz.prog 42 #[_, .agg #[.int .i64 tk, .string tx, .string un, .bool wh, .bool fl]] w1 fun e w' => ∃ rest, e = .returned rest ∧ TsAt W0 rest (runS [closeZ tk] r) ∧ Below w1.heap.size w1 w') := behind_any r W0 w1 _ HTT.out hWw tk tx un wh fl (by omega)
                have HBH2 := HBH.out
                rw [HRS.out] at HBH2
                have HBK := hid_mk HBH2
                clear HBH HBH2
                generalize someZ g r e (n + 1) = Z at *
                obtain ⟨zk, zr⟩ := Z
                have HEQ2 := hid_mk HEQ.out
                clear HI HE HA HEQ HRS
                by_cases h6 : n = 64
                · have HNX : Hid (someZ f ts c n = (ps.map mkV ++ (someZ g zr c n).1, (someZ g zr c n).2)) := by
                    show _ = _
                    have := HSZ.out
                    rwa [if_pos (by omega)] at this
                  clear HSZ HREC
                  subst h6
                  go_wp2_with (go_at_call 42; fail)
                  refine HBK.out.mono ?_
                  rintro e' w2 ⟨rest, rfl, htr, hb2⟩
                  have HTR := hid_mk htr
                  obtain ⟨ra, rc, rfl, _⟩ := htr
                  clear HBK
                  go_wp2
                  go_roundw
                  case rel => exact ⟨g, zr, ps, by omega, by omega, HTR.out, HRW.out.keep hb2, hBw.trans (hb2.mono hbs), HNX.out, by omega⟩
                  case measure => simp [sliceLen]; omega
                · have z6 : (n == 64) = false := by simpa using h6
                  have HNX : Hid (∀ kv, someZ f ts c n = ((ps ++ [((⟨tk, tx, un, wh, fl⟩ : T5), (kv : Value), zk)]).map mkV ++ (someZ g zr c n).1, (someZ g zr c n).2)) := by
                    intro kv
                    have := HSZ.out
                    rw [if_neg (by omega)] at this
                    rw [this, List.map_append, List.append_assoc]
                    rfl
                  clear HSZ HBK
                  have hAv : Below w1.heap.size w1 (w1.alloc (.cells #[.int .i64 tk, .string tx, .string un, .bool wh, .bool fl, .slice none 0 0] 97)) := (Below.refl _ w1).alloc (Nat.le_refl _) _
                  have hbv := heap_alloc_new w1 (.cells #[.int .i64 tk, .string tx, .string un, .bool wh, .bool fl, .slice none 0 0] 97)
                  go_wp2_with (go_at_call 43; fail)
                  refine (closes_any tk tx un wh fl _).mono ?_
                  rintro e' wc ⟨BC, rfl, hBC, hcx, hbc⟩
                  have hsv : (w1.alloc (.cells #[.int .i64 tk, .string tx, .string un, .bool wh, .bool fl, .slice none 0 0] 97)).heap.size = w1.heap.size + 1 := by simp
                  have hxv : wc.heap[w1.heap.size]? = some (.cells #[.int .i64 tk, .string tx, .string un, .bool wh, .bool fl, .slice none 0 0] 97 (0, 0)) := (hbc.block _ (by omega)).trans hbv
                  have hAW : Below w1.heap.size w1 wc := hAv.trans (hbc.mono hAv.size)
                  rw [← HEQ2.out] at hcx
                  have hrec := HREC.out _ HTT.out wc (hWw.trans (hAW.mono hWw.size)) _ (.inr ⟨BC, rfl, h0, hcx⟩) (by omega)
                  have HXV := hid_mk hxv
                  have hvlt : w1.heap.size < wc.heap.size := (Array.getElem?_eq_some_iff.1 hxv).1
                  clear hxv hbv hcx hbc hAv HREC hsv hBC q0 q1 q2 q3 q4 hsz hsA
                  go_wp2_with (go_at_call 17; fail)
                  refine hrec.mono ?_
                  rintro e' wk ⟨kids, rest, rfl, hvk, htr, hbk⟩
                  have x1 : wk.heap[w1.heap.size]? = some (.cells #[.int .i64 tk, .string tx, .string un, .bool wh, .bool fl, .slice none 0 0] 97 (0, 0)) := (hbk.block _ hvlt).trans HXV.out
                  obtain ⟨y0, y1, y2, y3, y4, y5⟩ := tok6 x1
                  have yf := tok6f x1
                  obtain ⟨ka, kc, rfl, _, _⟩ := hvk.slice
                  obtain ⟨D1, D2, D3, D4⟩ := opened2 (P0 := W.heap.size) HRW.out hBw hAW hbk HXV.out (Nat.le_refl _) hvk hbs
                  have HD1 := hid_mk D1
                  have HD2 := hid_mk D2
                  have HD3 := hid_mk D3
                  have HD4 := hid_mk D4
                  have HTR := hid_mk htr
                  obtain ⟨ra, rc, rfl, _⟩ := htr
                  clear hrec x1 hvk hbk hAW HXV D1 D2 D3 D4 HRW hBw hWw
                  go_upto_region 7 with fail
                  generalize wk.setCell ⟨w1.heap.size, 5, none⟩ (.slice ka zk.length kc) = w2 at *
                  clear y0 y1 y2 y3 y4 y5 yf
                  obtain ⟨y0, y1, y2, y3, y4, y5⟩ := tok6 HD3.out
                  have hown := HD1.out.1
                  have hbs2 := HD2.out.size
                  go_wp2_with (at_builtin; go_must (refine wpList_append_own_at _ rfl _ _ 44 rfl W.heap.size 97 i0 _ 6 72 Tryz.underlying44 hi0 hz0 hz1 hz2 rfl (by decide) _ _ _ rfl (hown.alloc _) ⟨w2.heap.size, 0, none⟩ 1 1 [.int .i64 tk, .string tx, .string un, .bool wh, .bool fl, .slice ka zk.length kc] rfl rfl (news6 w2 _ _ _ _ _ _) (by intro u hu; simp at hu; rcases hu with rfl | rfl | rfl | rfl | rfl | rfl <;> rfl) (by unfold maxLen; omega) (by omega) (by simp; omega) ?_); intro v' w7 hown7 hgrow7 _ hat7)
                  go_roundw
                  case rel => exact ⟨g, zr, _, by omega, by omega, HTR.out, HD1.out.push (t := ⟨tk, tx, un, wh, fl⟩) HD4.out hown7 hgrow7 hat7 (by simp; omega), (HD2.out.alloc hbs2 _).grown hgrow7 (by simp; omega) (fun k hk => (hown.lt k hk).1), HNX.out _, by simp; omega⟩
                  case measure => simp [sliceLen]; omega
    · have HEN : Hid (∀ (tk : Int) (tx un : ByteArray) (wh fl : Bool) (w : World), Below W.heap.size W w → Calls Tryz.prog 72 #[.agg #[.int .i64 tk, .string tx, .string un, .bool wh, .bool fl], .pointer (some ⟨BF, 0, none⟩)] w fun e w' => e = .returned (.bool (decide (c ≠ 0 ∧ tk = c))) ∧ Below w.heap.size w w') := by
        intro tk tx un wh fl w hw
        have : decide (c ≠ 0 ∧ tk = c) = (tk == c) := by
          rw [Bool.eq_iff_iff]
          simp [hcz]
        rw [this]
        exact ends1_any tk c tx un wh fl w BF ((hw.block BF (Array.getElem?_eq_some_iff.1 hBF).1).trans hBF)
      clear hcz hBF
      go_enter Tryz.func17, Tryz.ntmps17
      go_wp2
      go_loopw [0, 8] (fun a0 a8 wr => ∃ (g : Nat) (r : List T5) (ps : List (T5 × Value × List V)), r.length ≤ g ∧ g ≤ f ∧ TsAt W0 a0 r ∧ Row (fun b => W.heap.size ≤ b) W.heap.size wr a8 ps ∧ Below W.heap.size W wr ∧ someZ f ts c n = (ps.map mkV ++ (someZ g r c n).1, (someZ g r c n).2) ∧ ps.length + r.length ≤ ts.length) (fun a0 _ _ => sliceLen a0)
      case atStart => exact ⟨f, ts, [], hf, Nat.le_refl _, HV.out, ⟨World.ownsRow_nil _ _ _ _, fun g hg => by simp [Value.ownBlock] at hg, fun p hp => by cases hp⟩, Below.refl _ _, rfl, by simp⟩
      case round =>
        obtain ⟨g, r, ps, hg, hgf, hts, hrow, hB, hE, hpl⟩ := hrel
        have HE := hid_mk hE
        clear hE HV
        have hW1 : Below W0.heap.size W0 wr := hW0.trans (hB.mono hW0.size)
        cases r with
        | nil =>
          obtain ⟨a0, c0, rfl, _⟩ := hts
          have HD := hid_mk (someZ_nil g c n)
          have hvs := hrow.vals
          have HR : Hid (VsAt (fun b => W.heap.size ≤ b) wr u8 (someZ f ts c n).1 ∧ (someZ f ts c n).2 = []) := by
            show _ ∧ _
            rw [HE.out, HD.out, List.append_nil]
            exact ⟨hvs, rfl⟩
          clear hrow hvs HI HE HD HEN
          go_wp2
          go_ret2
          exact ⟨_, _, rfl, HR.out.1, by rw [HR.out.2]; exact TsAt.nil _, hB⟩
        | cons t r =>
          obtain ⟨g, rfl⟩ : ∃ g', g = g' + 1 := ⟨g - 1, by rw [List.length_cons] at hg; omega⟩
          have HTS := hid_mk hts
          obtain ⟨a0, c0, rfl, hc1, hc2, hcell⟩ := hts
          obtain ⟨b, off, rfl, hbw, hcc⟩ := hcell (by simp)
          have hq := fun j y hy => (hW1.cell (p := ⟨b, off + 0 * 5 + j, none⟩) hbw).trans (hcc 0 (by simp) j y hy)
          simp only [Nat.zero_mul, Nat.add_zero, List.getElem_cons_zero] at hq
          rw [List.length_cons] at hg hpl hc1
          obtain ⟨tk, tx, un, wh, fl⟩ := t
          have q0 := hq 0 _ rfl
          have q1 := hq 1 _ rfl
          have q2 := hq 2 _ rfl
          have q3 := hq 3 _ rfl
          have q4 := hq 4 _ rfl
          simp only [Nat.add_zero] at q0
          clear hq hcc hcell
          have hen := fun w hw => HEN.out tk tx un wh fl w hw
          obtain ⟨en, he⟩ : ∃ en, en = decide (c ≠ 0 ∧ tk = c) := ⟨_, rfl⟩
          rw [← he] at hen
          have HQ := hid_mk he
          clear he HEN
          have HTL : Hid (∀ a', (0 < r.length → a' = ⟨b, off + 5, none⟩) → TsAt W0 (.slice (some a') r.length (c0 - 1)) r) := fun a' h => TsAt.tail HTS.out a' h
          have hAl : Below wr.heap.size wr (wr.alloc (.cells #[.int .i64 tk, .string tx, .string un, .bool wh, .bool fl] 69)) := (Below.refl _ wr).alloc (Nat.le_refl _) _
          have hBA : Below W.heap.size W (wr.alloc (.cells #[.int .i64 tk, .string tx, .string un, .bool wh, .bool fl] 69)) := hB.trans (hAl.mono hB.size)
          have hbl0 := heap_alloc_new wr (.cells #[.int .i64 tk, .string tx, .string un, .bool wh, .bool fl] 69)
          have hsA : (wr.alloc (.cells #[.int .i64 tk, .string tx, .string un, .bool wh, .bool fl] 69)).heap.size = wr.heap.size + 1 := by simp
          have HROW := hid_mk hrow
          clear hrow HTS
          go_wp2_with (go_at_call 72; fail)
          all_goals
            refine (hen _ hBA).mono ?_
            rintro e' w1 ⟨rfl, b1⟩
            have hw1 : Below wr.heap.size wr w1 := hAl.trans (b1.mono hAl.size)
            have hBw : Below W.heap.size W w1 := hB.trans (hw1.mono hB.size)
            have hWw : Below W0.heap.size W0 w1 := hW1.trans (hw1.mono hW1.size)
            have HRW := hid_mk (HROW.out.keep hw1)
            have hx : w1.heap[wr.heap.size]? = some (.cells #[.int .i64 tk, .string tx, .string un, .bool wh, .bool fl] 69 (0, 0)) := (b1.block _ (by omega)).trans hbl0
            have hsz : wr.heap.size < w1.heap.size := (Array.getElem?_eq_some_iff.1 hx).1
            clear q0 q1 q2 q3 q4
            obtain ⟨q0, q1, q2, q3, q4⟩ := tok5c hx
            have HT : Hid (∃ sl, TsAt W0 sl r) := ⟨_, HTL.out ⟨b, off + 5, none⟩ (fun h => rfl)⟩
            first
              | (have hc01 : c0 = 1 := by omega
                 subst hc01
                 have htl : TsAt W0 (.slice (some ⟨b, off, none⟩) r.length 0) r := HTL.out ⟨b, off, none⟩ (fun h => by exfalso; omega)
                 have HTT := hid_mk htl
                 clear htl)
              | (have htl := HTL.out ⟨b, off + 5, none⟩ (fun h => rfl)
                 have HTT := hid_mk htl
                 clear htl)
            clear b1 hen hBA hbl0 hAl hw1 HROW HTL HT hx hW1 hB
            have hbs := hBw.size
            by_cases hen1 : en = true
            · subst hen1
              have HZ : Hid (someZ (g + 1) (⟨tk, tx, un, wh, fl⟩ :: r) c n = ([], r)) := by show _ = _; rw [someZ, if_pos (of_decide_eq_true HQ.out.symm)]
              have HR : Hid (VsAt (fun b => W.heap.size ≤ b) w1 u8 (someZ f ts c n).1 ∧ (someZ f ts c n).2 = r) := by
                show _ ∧ _
                rw [HE.out, HZ.out, List.append_nil]
                exact ⟨HRW.out.vals, rfl⟩
              clear HRW HI HE HZ HQ
              go_wp2
              go_ret2
              exact ⟨_, _, rfl, HR.out.1, by rw [HR.out.2]; exact HTT.out, hBw⟩
            · have hen2 : en = false := by simpa using hen1
              subst hen2
              have HA : Hid (¬ (c ≠ 0 ∧ tk = c)) := of_decide_eq_false HQ.out.symm
              clear hen1 HQ
              have hco := fun w => closeOf_any tk w
              obtain ⟨e, he⟩ : ∃ e, e = closeZ tk := ⟨_, rfl⟩
              rw [← he] at hco
              have HEQ := hid_mk he
              clear he
              go_wp2_with (go_at_call 41; fail)
              refine (hco _).mono ?_
              rintro e' w' ⟨rfl, rfl⟩
              clear hco
              by_cases h0 : e = 0
              · subst h0
                have HNX : Hid (someZ f ts c n = ((ps ++ [((⟨tk, tx, un, wh, fl⟩ : T5), (Value.slice none 0 0), ([] : List V))]).map mkV ++ (someZ g r c n).1, (someZ g r c n).2)) := by
                  show _ = _
                  rw [HE.out, someZ, if_neg HA.out, if_pos HEQ.out.symm, List.map_append, List.append_assoc]
                  rfl
                have hown := HRW.out.1
                clear HI HE HA HEQ
                go_wp2_with (at_builtin; go_must (refine wpList_append_own_at _ rfl _ _ 44 rfl W.heap.size 97 i0 _ 6 72 Tryz.underlying44 hi0 hz0 hz1 hz2 rfl (by decide) _ _ _ rfl (hown.alloc _) ⟨w1.heap.size, 0, none⟩ 1 1 [.int .i64 tk, .string tx, .string un, .bool wh, .bool fl, .slice none 0 0] rfl rfl (news6 w1 _ _ _ _ _ _) (by intro u hu; simp at hu; rcases hu with rfl | rfl | rfl | rfl | rfl | rfl <;> rfl) (by unfold maxLen; omega) (by omega) (by simp; omega) ?_); intro v' w7 hown7 hgrow7 _ hat7)
                go_roundw
                case rel => exact ⟨g, r, _, by omega, by omega, HTT.out, HRW.out.push (t := ⟨tk, tx, un, wh, fl⟩) (VsAt.nil _ _) hown7 hgrow7 hat7 (by simp; omega), (hBw.alloc hbs _).grown hgrow7 (by simp; omega) (fun k hk => (hown.lt k hk).1), HNX.out, by simp; omega⟩
                case measure => simp [sliceLen]
              · have zE : (e == 0) = false := by simpa using h0
                have hrl := some_len g r e (n + 1)
                have HSZ : Hid (someZ f ts c n = if 64 < n + 1 then (ps.map mkV ++ (someZ g (someZ g r e (n + 1)).2 c n).1, (someZ g (someZ g r e (n + 1)).2 c n).2) else (ps.map mkV ++ (V.mk ⟨tk, tx, un, wh, fl⟩ (someZ g r e (n + 1)).1 :: (someZ g (someZ g r e (n + 1)).2 c n).1), (someZ g (someZ g r e (n + 1)).2 c n).2)) := by
                  show _ = _
                  rw [HE.out, someZ, if_neg HA.out, if_neg (by rw [← HEQ.out]; exact h0), ← HEQ.out]
                  by_cases h6 : 64 < n + 1
                  · rw [if_pos h6, if_pos h6]
                  · rw [if_neg h6, if_neg h6]
                have HRS : Hid (runS [closeZ tk] r = (someZ g r e (n + 1)).2) := by
                  show _ = _
                  rw [runS_some g r (by omega) (closeZ tk) (n + 1) [] (by rw [← HEQ.out]; exact h0), runS, ← HEQ.out]
                have HREC : Hid (∀ sl, TsAt W0 sl r → ∀ w', Below W0.heap.size W0 w' → ∀ fv, EndF w' fv e → n + 1 ≤ 64 → Calls Tryz.prog 17 #[sl, .int .i64 (n + 1), fv] w' fun e' w'' => ∃ out rest, e' = .returned (.tuple #[out, rest]) ∧ VsAt (fun b => w'.heap.size ≤ b) w'' out (someZ g r e (n + 1)).1 ∧ TsAt W0 rest (someZ g r e (n + 1)).2 ∧ Below w'.heap.size w' w'') :=
                  fun sl hsl w' hw' fv hfv hn => HI.out g (by omega) r (by omega) W0 sl hsl w' hw' e (n + 1) fv hfv (by omega) hn (by omega)
                have HBH : Hid (Calls Tryz.prog 42 #[_, .agg #[.int .i64 tk, .string tx, .string un, .bool wh, .bool fl]] w1 fun e w' => ∃ rest, e = .returned rest ∧ TsAt W0 rest (runS [closeZ tk] r) ∧ Below w1.heap.size w1 w') := behind_any r W0 w1 _ HTT.out hWw tk tx un wh fl (by omega)
                have HBH2 := HBH.out
                rw [HRS.out] at HBH2
                have HBK := hid_mk HBH2
                clear HBH HBH2
                generalize someZ g r e (n + 1) = Z at *
                obtain ⟨zk, zr⟩ := Z
                have HEQ2 := hid_mk HEQ.out
                clear HI HE HA HEQ HRS
                by_cases h6 : n = 64
                · have HNX : Hid (someZ f ts c n = (ps.map mkV ++ (someZ g zr c n).1, (someZ g zr c n).2)) := by
                    show _ = _
                    have := HSZ.out
                    rwa [if_pos (by omega)] at this
                  clear HSZ HREC
                  subst h6
                  go_wp2_with (go_at_call 42; fail)
                  refine HBK.out.mono ?_
                  rintro e' w2 ⟨rest, rfl, htr, hb2⟩
                  have HTR := hid_mk htr
                  obtain ⟨ra, rc, rfl, _⟩ := htr
                  clear HBK
                  go_wp2
                  go_roundw
                  case rel => exact ⟨g, zr, ps, by omega, by omega, HTR.out, HRW.out.keep hb2, hBw.trans (hb2.mono hbs), HNX.out, by omega⟩
                  case measure => simp [sliceLen]; omega
                · have z6 : (n == 64) = false := by simpa using h6
                  have HNX : Hid (∀ kv, someZ f ts c n = ((ps ++ [((⟨tk, tx, un, wh, fl⟩ : T5), (kv : Value), zk)]).map mkV ++ (someZ g zr c n).1, (someZ g zr c n).2)) := by
                    intro kv
                    have := HSZ.out
                    rw [if_neg (by omega)] at this
                    rw [this, List.map_append, List.append_assoc]
                    rfl
                  clear HSZ HBK
                  have hAv : Below w1.heap.size w1 (w1.alloc (.cells #[.int .i64 tk, .string tx, .string un, .bool wh, .bool fl, .slice none 0 0] 97)) := (Below.refl _ w1).alloc (Nat.le_refl _) _
                  have hbv := heap_alloc_new w1 (.cells #[.int .i64 tk, .string tx, .string un, .bool wh, .bool fl, .slice none 0 0] 97)
                  go_wp2_with (go_at_call 43; fail)
                  refine (closes_any tk tx un wh fl _).mono ?_
                  rintro e' wc ⟨BC, rfl, hBC, hcx, hbc⟩
                  have hsv : (w1.alloc (.cells #[.int .i64 tk, .string tx, .string un, .bool wh, .bool fl, .slice none 0 0] 97)).heap.size = w1.heap.size + 1 := by simp
                  have hxv : wc.heap[w1.heap.size]? = some (.cells #[.int .i64 tk, .string tx, .string un, .bool wh, .bool fl, .slice none 0 0] 97 (0, 0)) := (hbc.block _ (by omega)).trans hbv
                  have hAW : Below w1.heap.size w1 wc := hAv.trans (hbc.mono hAv.size)
                  rw [← HEQ2.out] at hcx
                  have hrec := HREC.out _ HTT.out wc (hWw.trans (hAW.mono hWw.size)) _ (.inr ⟨BC, rfl, h0, hcx⟩) (by omega)
                  have HXV := hid_mk hxv
                  have hvlt : w1.heap.size < wc.heap.size := (Array.getElem?_eq_some_iff.1 hxv).1
                  clear hxv hbv hcx hbc hAv HREC hsv hBC q0 q1 q2 q3 q4 hsz hsA
                  go_wp2_with (go_at_call 17; fail)
                  refine hrec.mono ?_
                  rintro e' wk ⟨kids, rest, rfl, hvk, htr, hbk⟩
                  have x1 : wk.heap[w1.heap.size]? = some (.cells #[.int .i64 tk, .string tx, .string un, .bool wh, .bool fl, .slice none 0 0] 97 (0, 0)) := (hbk.block _ hvlt).trans HXV.out
                  obtain ⟨y0, y1, y2, y3, y4, y5⟩ := tok6 x1
                  have yf := tok6f x1
                  obtain ⟨ka, kc, rfl, _, _⟩ := hvk.slice
                  obtain ⟨D1, D2, D3, D4⟩ := opened2 (P0 := W.heap.size) HRW.out hBw hAW hbk HXV.out (Nat.le_refl _) hvk hbs
                  have HD1 := hid_mk D1
                  have HD2 := hid_mk D2
                  have HD3 := hid_mk D3
                  have HD4 := hid_mk D4
                  have HTR := hid_mk htr
                  obtain ⟨ra, rc, rfl, _⟩ := htr
                  clear hrec x1 hvk hbk hAW HXV D1 D2 D3 D4 HRW hBw hWw
                  go_upto_region 7 with fail
                  generalize wk.setCell ⟨w1.heap.size, 5, none⟩ (.slice ka zk.length kc) = w2 at *
                  clear y0 y1 y2 y3 y4 y5 yf
                  obtain ⟨y0, y1, y2, y3, y4, y5⟩ := tok6 HD3.out
                  have hown := HD1.out.1
                  have hbs2 := HD2.out.size
                  go_wp2_with (at_builtin; go_must (refine wpList_append_own_at _ rfl _ _ 44 rfl W.heap.size 97 i0 _ 6 72 Tryz.underlying44 hi0 hz0 hz1 hz2 rfl (by decide) _ _ _ rfl (hown.alloc _) ⟨w2.heap.size, 0, none⟩ 1 1 [.int .i64 tk, .string tx, .string un, .bool wh, .bool fl, .slice ka zk.length kc] rfl rfl (news6 w2 _ _ _ _ _ _) (by intro u hu; simp at hu; rcases hu with rfl | rfl | rfl | rfl | rfl | rfl <;> rfl) (by unfold maxLen; omega) (by omega) (by simp; omega) ?_); intro v' w7 hown7 hgrow7 _ hat7)
                  go_roundw
                  case rel => exact ⟨g, zr, _, by omega, by omega, HTR.out, HD1.out.push (t := ⟨tk, tx, un, wh, fl⟩) HD4.out hown7 hgrow7 hat7 (by simp; omega), (HD2.out.alloc hbs2 _).grown hgrow7 (by simp; omega) (fun k hk => (hown.lt k hk).1), HNX.out _, by simp; omega⟩
                  case measure => simp [sliceLen]; omega

end Go.Proofs.YtdibldcnklgcjaaGreatDoor.Y
namespace Go.Proofs.YtdibldcnklgcjaaGreatDoor.Y
open Go.RowKit
open Go.Proofs.YtdibldcnklgcjaaGreatDoor.L (T5 V VsAt t5Cells vCells cell_of_heap)
set_option maxRecDepth 100000

/-- The values of tokens. -/
def valsZ (ts : List T5) : List V := (someZ ts.length ts 0 0).1
set_option maxHeartbeats 400000 in
theorem values_any {W : World} {v : Value} {ts : List T5} (hv : TsAt W v ts) (hn : ts.length ≤ 100000) :
    Calls Tryz.prog 10 #[v] W fun e w' => ∃ out, e = .returned out ∧ VsAt (fun b => W.heap.size ≤ b) w' out (valsZ ts) ∧ Below W.heap.size W w' := by
  have hr := read_any ts.length ts (Nat.le_refl _) W v hv W (Below.refl _ _) 0 0 (.func (.func 18) #[] #[]) (.inl ⟨rfl, rfl⟩) (by omega) (by omega) hn
  have HZ : Hid ((someZ ts.length ts 0 0).1 = valsZ ts) := (rfl : _ = _)
  generalize someZ ts.length ts 0 0 = Z at *
  obtain ⟨a, cap, rfl, hl, hcap, _⟩ := hv
  obtain ⟨zk, zr⟩ := Z
  go_enter Tryz.func10, Tryz.ntmps10
  go_wp2_with (go_at_call 17; fail)
  refine hr.mono ?_
  rintro e w1 ⟨out, rest, rfl, ho, ht, hb⟩
  have HO := hid_mk ho
  obtain ⟨oa, oc, rfl, _, _⟩ := ho.slice
  obtain ⟨ra, rc, rfl, _⟩ := ht
  clear ho hr
  go_wp2
  go_ret
  exact ⟨_, rfl, by rw [← HZ.out]; exact HO.out, hb⟩
end Go.Proofs.YtdibldcnklgcjaaGreatDoor.Y
namespace Go.Proofs.YtdibldcnklgcjaaGreatDoor.L
open Go.RowKit
set_option maxRecDepth 100000

theorem charsFrom_len (s : ByteArray) : ∀ (f pos : Nat), (charsFrom s f pos).length ≤ f
  | 0, _ => by simp [charsFrom]
  | f + 1, pos => by
    rw [charsFrom]
    split
    · have := charsFrom_len s f (pos + (Utf8.decode s pos).2)
      simp only [List.length_cons]
      omega
    · simp
theorem norm_len : ∀ (l : List Int) (last : Int), (normZ last l).length ≤ l.length
  | [], last => by simp [normZ]
  | c :: r, last => by
    have h1 := norm_len r c
    rw [normZ]
    split
    · simp only [List.length_cons]; omega
    · simp only [List.length_cons]; omega
theorem runes_len (s : ByteArray) : (runesZ s).length ≤ s.size := Nat.le_trans (norm_len _ _) (charsFrom_len s _ _)
theorem runes_fine (s : ByteArray) (hs : s.size ≤ 1000000000) : Fine (runesZ s) := ⟨Nat.le_trans (runes_len s) hs, fun c hc => (runes_told s c hc).1⟩
def toT5 (t : Tok) : T5 := ⟨t.kind, strT t.text, strT t.unit, t.whole, t.flag⟩
/-- The values of a text. -/
def valsS (s : ByteArray) : List V := Y.valsZ ((toks (runesZ s)).map toT5)
theorem toks_at : ∀ {ts : List Tok} {i : Nat} (h : i < ts.length) (j : Nat) (y : Value), (t5Cells (toT5 (ts[i]'h)))[j]? = some y → (ts.flatMap tokCells)[i * 5 + j]? = some y
  | t :: r, 0, _, j, y, hy => by
    have hy : (tokCells t)[j]? = some y := hy
    rw [List.flatMap_cons, Nat.zero_mul, Nat.zero_add, List.getElem?_append_left (List.getElem?_eq_some_iff.1 hy).1]
    exact hy
  | t :: r, i + 1, h, j, y, hy => by
    have hl : (tokCells t).length = 5 := rfl
    rw [List.flatMap_cons, List.getElem?_append_right (by omega), hl, show (i + 1) * 5 + j - 5 = i * 5 + j by omega]
    exact toks_at (ts := r) (i := i) (by simpa using h) j y hy
theorem outs_ts {B : Nat} {w : World} {out : Value} {ts : List Tok} (h : Outs B w out ts) : Y.TsAt w out (ts.map toT5) := by
  have hl : (ts.map toT5).length = ts.length := List.length_map ..
  rcases h.2 with ⟨rfl, e⟩ | ⟨g, cap, cur, rfl, h1, h2, h3, h4, h5, h6⟩
  · exact ⟨none, 0, by rw [hl, e], by rw [hl, e]; exact Nat.le_refl _, by decide, fun h0 => by rw [hl, e] at h0; omega⟩
  · refine ⟨_, cap, by rw [hl], by rw [hl]; exact h3, h4, fun _ => ⟨g, 0, rfl, (Array.getElem?_eq_some_iff.1 h2).1, fun i hi j y hy => ?_⟩⟩
    have hi' : i < ts.length := by rw [← hl]; exact hi
    rw [List.getElem_map] at hy
    have h7 := own_news h (i * 5 + j) y (toks_at hi' j y hy)
    rw [Addr.add_mid] at h7
    rw [Nat.add_assoc]
    exact h7
/-- What Text answers. -/
def TxPost (W : World) (R : Option (List Cx)) (e : Ending) (w' : World) : Prop := match R with
  | none => e = .returned (.tuple #[.slice none 0 0, .int .i64 4]) ∧ Below W.heap.size W w'
  | some l => ∃ u, e = .returned (.tuple #[u, .int .i64 0]) ∧ ClAt w' u l ∧ Below W.heap.size W w'

set_option maxHeartbeats 1000000 in
theorem text_any (s : ByteArray) (W : World) (hsg : Signs W) (hs : s.size ≤ 65536) (hn : (toks (runesZ s)).length ≤ 100000) (hf : Fit (valsS s)) (hc : cntL (valsS s) ≤ 500000) :
    Calls Tryz.prog 5 #[.string s] W (TxPost W (parseZ (valsS s))) := by
  obtain ⟨g, cap, W1, hcv, hcap, hg, hcell, _, hB⟩ := bytesOf s W
  have hba : BytesAt W1 (.slice (some ⟨g, 0, none⟩) s.size cap) s := ⟨_, _, rfl, hcap, fun _ => ⟨g, 0, rfl, fun j hj => by simpa using hcell j hj⟩⟩
  have hru := runes_any _ s W1 (by omega) hba
  have HFI := hid_mk (runes_fine s (by omega))
  have HSG : Hid (∀ w, Below W.heap.size W w → Signs w) := fun w h => hsg.keep h
  have HF := hid_mk hf
  have HC := hid_mk hc
  have HNN := hid_mk hn
  have hd : decide ((65536 : Int) < (s.size : Int)) = false := decide_eq_false (by omega)
  have hd2 : ¬ ((65536 : Int) < (s.size : Int)) := by omega
  have HVS : Hid (valsS s = Y.valsZ ((toks (runesZ s)).map toT5)) := rfl
  generalize valsS s = vs at *
  have HB := hid_mk hB
  clear hcell hba hf hc hsg hB hn
  go_enter Tryz.func5, Tryz.ntmps5
  go_wp2_with (go_at_call 12; fail)
  refine hru.mono ?_
  rintro e w2 ⟨u, rfl, hown, hb2⟩
  have hrow := RowAt.own hown
  obtain ⟨a, c2, hu⟩ : ∃ a c2, u = .slice a (runesZ s).length c2 := by
    rcases hown.2 with ⟨hv, hz⟩ | ⟨g2, c2, cur, hv, _⟩
    · exact ⟨none, 0, by rw [hv, hz]⟩
    · exact ⟨_, c2, hv⟩
  have hlow : ∀ ad, a = some ad → ad.block < w2.heap.size := by
    intro ad e
    rcases hown.2 with ⟨hv, _⟩ | ⟨g2, c3, cur, hv, _, hg2, _⟩
    · rw [hv, e] at hu; cases hu
    · rw [hv, e] at hu
      cases hu
      exact (Array.getElem?_eq_some_iff.1 hg2).1
  subst hu
  have ht := tokens_any a c2 (runesZ s) w2 HFI.out hrow hlow
  have HB2 : Hid (Below W.heap.size W w2) := HB.out.trans (hb2.mono HB.out.size)
  generalize runesZ s = xs at *
  clear hru hown hrow hlow hb2 HB
  go_wp2_with (go_at_call 11; fail)
  refine ht.mono ?_
  rintro e w3 ⟨out, rfl, ho, hb3⟩
  have hvl := Y.values_any (outs_ts ho) (by rw [List.length_map]; exact HNN.out)
  rw [← HVS.out] at hvl
  have HB3 : Hid (Below W.heap.size W w3) := HB2.out.trans (hb3.mono HB2.out.size)
  obtain ⟨oa, on, oc, rfl⟩ := own_sl ho
  clear ht ho hb3
  go_wp2_with (go_at_call 10; fail)
  refine hvl.mono ?_
  rintro e w4 ⟨vo, rfl, hvo, hb4⟩
  have hB4 : Below W.heap.size W w4 := HB3.out.trans (hb4.mono HB3.out.size)
  have hpa := parse_any hvo (HSG.out w4 hB4) HF.out HC.out
  obtain ⟨va, vc, rfl, _, _⟩ := hvo.slice
  have HB4 := hid_mk hB4
  generalize parseZ vs = R at *
  clear hvl hvo hb4 hB4
  go_wp2_with (go_at_call 9; fail)
  refine hpa.mono ?_
  rintro e w5 hq
  cases R with
  | none =>
    obtain ⟨rfl, hb5⟩ := hq
    have HB5 : Hid (Below W.heap.size W w5) := HB4.out.trans (hb5.mono HB4.out.size)
    clear hpa hb5
    go_wp2
    go_ret2
    exact ⟨rfl, HB5.out⟩
  | some l =>
    obtain ⟨u, rfl, hcl, hb5⟩ := hq
    have HB5 : Hid (Below W.heap.size W w5) := HB4.out.trans (hb5.mono HB4.out.size)
    have HCL := hid_mk hcl
    have hsl : ∃ ua un uc, u = .slice ua un uc := by
      obtain ⟨_, _, ⟨a, c, e, _⟩, _⟩ := hcl.at
      exact ⟨_, _, _, e⟩
    obtain ⟨ua, un, uc, rfl⟩ := hsl
    clear hpa hb5 hcl
    go_wp2
    go_ret2
    exact ⟨_, rfl, HCL.out, HB5.out⟩
end Go.Proofs.YtdibldcnklgcjaaGreatDoor.L
