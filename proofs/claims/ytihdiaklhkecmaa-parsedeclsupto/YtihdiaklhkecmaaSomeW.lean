/- gouacheref03.some: the walk. -/
import Derived.Test.YtihdiaklhkecmaaSomeV
namespace Go.Proofs.Ytihdiaklhkecmaa
open Go.RowKit
set_option maxRecDepth 100000

def sliceLen : Value → Nat
  | .slice _ n _ => n
  | _ => 0
theorem Try.info46 : (Try.prog.info? 46).map (fun i => (i.zero, i.size, i.bytes)) = some (some (.agg #[.int .i64 0, .string ⟨#[]⟩, .string ⟨#[]⟩, .bool false, .bool false, .slice none 0 0]), 6, 72) := by kernel_rfl
theorem news6 (w : World) (x0 x1 x2 x3 x4 x5 : Value) (j : Nat) (u : Value) (h : [x0, x1, x2, x3, x4, x5][j]? = some u) : (w.alloc (.cells #[x0, x1, x2, x3, x4, x5] 46)).cell? ((⟨w.heap.size, 0, none⟩ : Addr).add j) = some u :=
  World.news_of_block (cs := #[x0, x1, x2, x3, x4, x5]) (t := 46) (fr := (0, 0)) (heap_alloc_new w _) j u h
theorem addr_eq {b o o' : Nat} (h : o = o') : (⟨b, o, none⟩ : Addr) = ⟨b, o', none⟩ := by subst h; rfl
/-- The tokens behind the first, by a slice of the same memory. -/
theorem TsAt.tail {W : World} {b off c : Nat} {t : T5} {r : List T5} (h : TsAt W (.slice (some ⟨b, off, none⟩) (r.length + 1) c) (t :: r)) (a' : Addr) (ha : 0 < r.length → a' = ⟨b, off + 5, none⟩) : TsAt W (.slice (some a') r.length (c - 1)) r := by
  obtain ⟨a, c', hv, h1, h2, h3⟩ := h
  have e1 : a = some ⟨b, off, none⟩ := by injection hv with x y z; exact x.symm
  have e2 : c' = c := by injection hv with x y z; exact z.symm
  subst e1 e2
  rw [List.length_cons] at h1
  refine ⟨_, _, rfl, by omega, by omega, fun h0 => ?_⟩
  obtain ⟨b', off', ha', hlt, hc⟩ := h3 (by simp)
  cases ha'
  refine ⟨b, off + 5, congrArg some (ha h0), hlt, fun i hi j y hy => ?_⟩
  have := hc (i + 1) (by simp; omega) j y hy
  rw [show off + 5 + i * 5 + j = off + (i + 1) * 5 + j by omega]
  exact this
theorem someZ_nil (g : Nat) (c n : Int) : someZ g [] c n = ([], []) := by cases g <;> rfl
theorem pair_cat {α β : Type} {x : List α × β} {ps : List α} {y z : List α × β} (h : x = (ps ++ y.1, y.2)) (e : y = z) : x = (ps ++ z.1, z.2) := by rw [h, e]

theorem tok6 {W : World} {B : Nat} {x0 x1 x2 x3 x4 x5 : Value} (h : W.heap[B]? = some (.cells #[x0, x1, x2, x3, x4, x5] 46 (0, 0))) :
    W.cell? ⟨B, 0, none⟩ = some x0 ∧ W.cell? ⟨B, 1, none⟩ = some x1 ∧ W.cell? ⟨B, 2, none⟩ = some x2 ∧ W.cell? ⟨B, 3, none⟩ = some x3 ∧ W.cell? ⟨B, 4, none⟩ = some x4 ∧ W.cell? ⟨B, 5, none⟩ = some x5 := by
  refine ⟨?_, ?_, ?_, ?_, ?_, ?_⟩ <;> simp [World.cell?, h]

theorem tok6f {W : World} {B : Nat} {x0 x1 x2 x3 x4 x5 : Value} (h : W.heap[B]? = some (.cells #[x0, x1, x2, x3, x4, x5] 46 (0, 0))) : W.frozen? ⟨B, 5, none⟩ = false := by
  simp [World.frozen?, h]
/-- Behind the store of what is within. -/
theorem opened {P0 : Nat} {W wr WA w1 : World} {u8 : Value} {ps : List (T5 × Value × List V)} {x0 x1 x2 x3 x4 x5 : Value} {kv : Value} {kids : List V} (hrow : Row (fun b => P0 ≤ b) P0 wr u8 ps) (hB : Below P0 W wr) (hAW : Below wr.heap.size wr WA) (hb1 : Below WA.heap.size WA w1)
    (hx : WA.heap[wr.heap.size + 1]? = some (.cells #[x0, x1, x2, x3, x4, x5] 46 (0, 0))) (hk : VsAt (fun b => WA.heap.size ≤ b) w1 kv kids) (hP : P0 ≤ wr.heap.size) :
    Row (fun b => P0 ≤ b) P0 (w1.setCell ⟨wr.heap.size + 1, 5, none⟩ kv) u8 ps ∧ Below P0 W (w1.setCell ⟨wr.heap.size + 1, 5, none⟩ kv) ∧ (w1.setCell ⟨wr.heap.size + 1, 5, none⟩ kv).heap[wr.heap.size + 1]? = some (.cells #[x0, x1, x2, x3, x4, kv] 46 (0, 0)) ∧ VsAt (fun b => P0 ≤ b ∧ u8.ownBlock ≠ some b) (w1.setCell ⟨wr.heap.size + 1, 5, none⟩ kv) kv kids := by
  have hlt : wr.heap.size + 1 < WA.heap.size := (Array.getElem?_eq_some_iff.1 hx).1
  have h1 : Below wr.heap.size wr (w1.setCell ⟨wr.heap.size + 1, 5, none⟩ kv) := (hAW.trans (hb1.mono hAW.size)).setCell (p := ⟨wr.heap.size + 1, 5, none⟩) (by show wr.heap.size ≤ wr.heap.size + 1; omega) kv
  have hx1 := (hb1.block _ hlt).trans hx
  refine ⟨hrow.keep h1, hB.trans (h1.mono hP), ?_, ?_⟩
  · have := heap_setCell_same w1 (wr.heap.size + 1) 5 #[x0, x1, x2, x3, x4, x5] 46 kv hx1
    rw [this]
    rfl
  · have h2 := hk.stay (W' := w1.setCell ⟨wr.heap.size + 1, 5, none⟩ kv) (by simp) (fun b hb _ => Below.heap_setCell w1 ⟨wr.heap.size + 1, 5, none⟩ kv b (by show b ≠ wr.heap.size + 1; omega))
    refine h2.wider (fun b hb _ => ⟨by have := hAW.size; omega, fun e => ?_⟩)
    have := (hrow.1.lt b e).2
    have := hAW.size
    omega
set_option maxHeartbeats 2000000 in
theorem some_any (f : Nat) : ∀ (ts : List T5), ts.length ≤ f → ∀ (W0 : World) (v : Value), TsAt W0 v ts → ∀ W, Below W0.heap.size W0 W → ∀ (c n : Int), 0 ≤ n → n + ts.length ≤ 100000 →
    Calls Try.prog 30 #[v, .int .i64 c, .int .i64 n] W fun e w' => ∃ out rest, e = .returned (.tuple #[out, rest]) ∧ VsAt (fun b => W.heap.size ≤ b) w' out (someZ f ts c n).1 ∧ TsAt W0 rest (someZ f ts c n).2 ∧ Below W.heap.size W w' := by
  induction f using Nat.strongRecOn with
  | _ f ih =>
    intro ts hf W0 v hv W hW0 c n hn0 hn1
    obtain ⟨i0, hi0, hz0, hz1, hz2⟩ := info_parts Try.info46
    have HV := hid_mk hv
    have HI := hid_mk ih
    obtain ⟨a, cap, rfl, hl, hcap, _⟩ := hv
    clear ih
    go_enter Try.func30, Try.ntmps30
    go_wp2
    go_loopw [0, 8] (fun a0 a8 wr => ∃ (g : Nat) (r : List T5) (ps : List (T5 × Value × List V)), r.length ≤ g ∧ g ≤ f ∧ TsAt W0 a0 r ∧ Row (fun b => W.heap.size ≤ b) W.heap.size wr a8 ps ∧ Below W.heap.size W wr ∧ someZ f ts c n = (ps.map mkV ++ (someZ g r c n).1, (someZ g r c n).2) ∧ ps.length + r.length ≤ ts.length) (fun a0 _ _ => sliceLen a0)
    case atStart => exact ⟨f, ts, [], hf, Nat.le_refl _, HV.out, ⟨World.ownsRow_nil _ _ _ _, fun g hg => by simp [Value.ownBlock] at hg, fun p hp => by cases hp⟩, Below.refl _ _, rfl, by simp⟩
    case round =>
      obtain ⟨g, r, ps, hg, hgf, hts, hrow, hB, hE, hpl⟩ := hrel
      have HE := hid_mk hE
      clear hE HV
      have hW1 : Below W0.heap.size W0 wr := hW0.trans (hB.mono hW0.size)
      cases r with
      | nil =>
        obtain ⟨a0, c0, rfl, _⟩ := hts
        have HD := hid_mk (someZ_nil g c n)
        have hvs := hrow.vals
        have HR : Hid (VsAt (fun b => W.heap.size ≤ b) wr u8 (someZ f ts c n).1 ∧ (someZ f ts c n).2 = []) := by
          show _ ∧ _
          rw [HE.out, HD.out, List.append_nil]
          exact ⟨hvs, rfl⟩
        clear hrow hvs HI HE HD
        go_wp2
        go_ret2
        exact ⟨_, _, rfl, HR.out.1, by rw [HR.out.2]; exact TsAt.nil _, hB⟩
      | cons t r =>
        obtain ⟨g, rfl⟩ : ∃ g', g = g' + 1 := ⟨g - 1, by rw [List.length_cons] at hg; omega⟩
        have HTS := hid_mk hts
        obtain ⟨a0, c0, rfl, hc1, hc2, hcell⟩ := hts
        obtain ⟨b, off, rfl, hbw, hcc⟩ := hcell (by simp)
        have hq := fun j y hy => (hW1.cell (p := ⟨b, off + 0 * 5 + j, none⟩) hbw).trans (hcc 0 (by simp) j y hy)
        simp only [Nat.zero_mul, Nat.add_zero, List.getElem_cons_zero] at hq
        rw [List.length_cons] at hg hpl hc1
        obtain ⟨tk, tx, un, wh, fl⟩ := t
        have q0 := hq 0 _ rfl
        have q1 := hq 1 _ rfl
        have q2 := hq 2 _ rfl
        have q3 := hq 3 _ rfl
        have q4 := hq 4 _ rfl
        simp only [Nat.add_zero] at q0
        clear hq hcc hcell
        by_cases hA : c ≠ 0 ∧ tk = c
        · have HZ : Hid (someZ (g + 1) (⟨tk, tx, un, wh, fl⟩ :: r) c n = ([], r)) := by show _ = _; rw [someZ, if_pos hA]
          have hvs := hrow.vals
          have HR : Hid (VsAt (fun b => W.heap.size ≤ b) wr u8 (someZ f ts c n).1 ∧ (someZ f ts c n).2 = r) := by
            show _ ∧ _
            rw [HE.out, HZ.out, List.append_nil]
            exact ⟨hvs, rfl⟩
          obtain ⟨hc0, rfl⟩ := hA
          have z1 : (tk != 0) = true := by simpa using hc0
          have hBA := fun o => hB.alloc hB.size o
          have hal : ∀ o, Below wr.heap.size wr (wr.alloc o) := fun o => (Below.refl _ wr).alloc (Nat.le_refl _) o
          clear hrow hvs HI HE HZ hc0 hW1
          go_wp2
          all_goals
            go_ret2
            first
              | exact ⟨_, _, rfl, VsAt.keep (hal _) HR.out.1, by rw [HR.out.2]; exact TsAt.tail HTS.out _ (fun h => rfl), hBA _⟩
              | (obtain rfl : c0 = 1 := by omega
                 exact ⟨_, _, rfl, VsAt.keep (hal _) HR.out.1, by rw [HR.out.2]; exact TsAt.tail HTS.out _ (fun h => by exfalso; omega), hBA _⟩)
        · have hA2 : (c != 0) = false ∨ ((c != 0) = true ∧ (tk == c) = false) := by
            by_cases h0 : c = 0
            · left; simp [h0]
            · right
              exact ⟨by simpa using h0, by simpa using fun e => hA ⟨h0, e⟩⟩
          have HA := hid_mk hA
          have hen := fun w => rend_any tk w
          have hE1 : ∃ e, e = closeZ tk := ⟨_, rfl⟩
          obtain ⟨e, he⟩ := hE1
          rw [← he] at hen
          have HEQ := hid_mk he
          clear hA he
          have hal2 : ∀ o o', Below wr.heap.size wr ((wr.alloc o).alloc o') := fun o o' => ((Below.refl _ wr).alloc (Nat.le_refl _) o).alloc (by simp) o'
          have HRW : Hid (∀ o o', Row (fun b => W.heap.size ≤ b) W.heap.size ((wr.alloc o).alloc o') u8 ps) := fun o o' => hrow.keep (hal2 o o')
          have HTL : Hid (∀ a', (0 < r.length → a' = ⟨b, off + 5, none⟩) → TsAt W0 (.slice (some a') r.length (c0 - 1)) r) := fun a' h => TsAt.tail HTS.out a' h
          have HBB : Hid (∀ o o', Below W.heap.size W ((wr.alloc o).alloc o')) := fun o o' => hB.trans ((hal2 o o').mono hB.size)
          have hbl := fun o o' => heap_alloc_new (wr.alloc o) o'
          have hs1 : ∀ o, (wr.alloc o).heap.size = wr.heap.size + 1 := fun o => by simp
          by_cases h0 : e = 0
          · subst h0
            have HNX : Hid (someZ f ts c n = ((ps ++ [((⟨tk, tx, un, wh, fl⟩ : T5), (Value.slice none 0 0), ([] : List V))]).map mkV ++ (someZ g r c n).1, (someZ g r c n).2)) := by
              show _ = _
              rw [HE.out, someZ, if_neg HA.out, if_pos HEQ.out.symm, List.map_append, List.append_assoc]
              rfl
            clear hrow hB HI HE HTS hal2 hW1
            rcases hA2 with z1 | ⟨z1, z2⟩
            all_goals
              go_wp2_with (go_at_call 39; fail)
              all_goals
                refine (hen _).mono ?_
                rintro e' w' ⟨rfl, rfl⟩
                have hRW := HRW.out (.cells #[.int .i64 tk, .string tx, .string un, .bool wh, .bool fl] 44) (.cells #[.int .i64 tk, .string tx, .string un, .bool wh, .bool fl, .slice none 0 0] 46)
                have hBB := HBB.out (.cells #[.int .i64 tk, .string tx, .string un, .bool wh, .bool fl] 44) (.cells #[.int .i64 tk, .string tx, .string un, .bool wh, .bool fl, .slice none 0 0] 46)
                have x0 := hbl (.cells #[.int .i64 tk, .string tx, .string un, .bool wh, .bool fl] 44) (.cells #[.int .i64 tk, .string tx, .string un, .bool wh, .bool fl, .slice none 0 0] 46)
                rw [hs1] at x0
                generalize (wr.alloc (.cells #[.int .i64 tk, .string tx, .string un, .bool wh, .bool fl] 44)).alloc (.cells #[.int .i64 tk, .string tx, .string un, .bool wh, .bool fl, .slice none 0 0] 46) = WA at *
                obtain ⟨y0, y1, y2, y3, y4, y5⟩ := tok6 x0
                have hbs := hBB.size
                have HROW := hid_mk hRW
                have hown := hRW.1
                clear hRW HRW HBB hbl hs1 q0 q1 q2 q3 q4
                go_wp2_with (at_builtin; go_must (refine wpList_append_own_at _ rfl _ _ 25 rfl W.heap.size 46 i0 _ 6 72 Try.underlying25 hi0 hz0 hz1 hz2 rfl (by decide) _ _ _ rfl (hown.alloc _) ⟨WA.heap.size, 0, none⟩ 1 1 [.int .i64 tk, .string tx, .string un, .bool wh, .bool fl, .slice none 0 0] rfl rfl (news6 WA _ _ _ _ _ _) (by intro u hu; simp at hu; rcases hu with rfl | rfl | rfl | rfl | rfl | rfl <;> rfl) (by unfold maxLen; omega) (by omega) (by simp; omega) ?_); intro v' w7 hown7 hgrow7 _ hat7)
                go_roundw
                case rel =>
                  first
                    | exact ⟨g, r, _, by omega, by omega, HTL.out _ (fun h => rfl), HROW.out.push (t := ⟨tk, tx, un, wh, fl⟩) (VsAt.nil _ _) hown7 hgrow7 hat7 (by simp; omega), (hBB.alloc hbs _).grown hgrow7 (by simp; omega) (fun k hk => (hown.lt k hk).1), HNX.out, by simp; omega⟩
                    | (obtain rfl : c0 = 1 := by omega
                       exact ⟨g, r, _, by omega, by omega, HTL.out _ (fun h => by exfalso; omega), HROW.out.push (t := ⟨tk, tx, un, wh, fl⟩) (VsAt.nil _ _) hown7 hgrow7 hat7 (by simp; omega), (hBB.alloc hbs _).grown hgrow7 (by simp; omega) (fun k hk => (hown.lt k hk).1), HNX.out, by simp; omega⟩)
                case measure => simp [sliceLen]
          · have zE : (e != 0) = true := by simpa using h0
            have HREC : Hid (∀ o o' a', (0 < r.length → a' = ⟨b, off + 5, none⟩) → Calls Try.prog 30 #[.slice (some a') r.length (c0 - 1), .int .i64 e, .int .i64 (n + 1)] ((wr.alloc o).alloc o') fun e' w' => ∃ out rest, e' = .returned (.tuple #[out, rest]) ∧ VsAt (fun b => ((wr.alloc o).alloc o').heap.size ≤ b) w' out (someZ g r e (n + 1)).1 ∧ TsAt W0 rest (someZ g r e (n + 1)).2 ∧ Below ((wr.alloc o).alloc o').heap.size ((wr.alloc o).alloc o') w') :=
              fun o o' a' h => HI.out g (by omega) r (by omega) W0 _ (HTL.out a' h) _ (hW1.trans ((hal2 o o').mono hW1.size)) e (n + 1) (by omega) (by omega)
            have HROW0 := hid_mk hrow
            have HB0 := hid_mk hB
            have HAL2 := hid_mk hal2
            have hrl := some_len g r e (n + 1)
            have HSZ : Hid (someZ f ts c n = if 64 < n + 1 then (ps.map mkV ++ (someZ g (someZ g r e (n + 1)).2 c n).1, (someZ g (someZ g r e (n + 1)).2 c n).2) else (ps.map mkV ++ (V.mk ⟨tk, tx, un, wh, fl⟩ (someZ g r e (n + 1)).1 :: (someZ g (someZ g r e (n + 1)).2 c n).1), (someZ g (someZ g r e (n + 1)).2 c n).2)) := by
              show _ = _
              rw [HE.out, someZ, if_neg HA.out, if_neg (by rw [← HEQ.out]; exact h0), ← HEQ.out]
              by_cases h6 : 64 < n + 1
              · rw [if_pos h6, if_pos h6]
              · rw [if_neg h6, if_neg h6]
            generalize someZ g r e (n + 1) = Z at *
            obtain ⟨zk, zr⟩ := Z
            clear hrow hB HI HTS hal2 hW1 HTL HE HA HEQ HBB HRW h0
            rcases hA2 with z1 | ⟨z1, z2⟩
            all_goals
              go_wp2_with (go_at_call 39; fail)
              all_goals
                refine (hen _).mono ?_
                rintro e' w' ⟨rfl, rfl⟩
                have x0 := hbl (.cells #[.int .i64 tk, .string tx, .string un, .bool wh, .bool fl] 44) (.cells #[.int .i64 tk, .string tx, .string un, .bool wh, .bool fl, .slice none 0 0] 46)
                have hrec := HREC.out (.cells #[.int .i64 tk, .string tx, .string un, .bool wh, .bool fl] 44) (.cells #[.int .i64 tk, .string tx, .string un, .bool wh, .bool fl, .slice none 0 0] 46)
                have hAW := HAL2.out (.cells #[.int .i64 tk, .string tx, .string un, .bool wh, .bool fl] 44) (.cells #[.int .i64 tk, .string tx, .string un, .bool wh, .bool fl, .slice none 0 0] 46)
                rw [hs1] at x0
                generalize (wr.alloc (.cells #[.int .i64 tk, .string tx, .string un, .bool wh, .bool fl] 44)).alloc (.cells #[.int .i64 tk, .string tx, .string un, .bool wh, .bool fl, .slice none 0 0] 46) = WA at *
                have HX0 := hid_mk x0
                clear HAL2 hbl hs1 q0 q1 q2 q3 q4 x0 HREC
                have hvlt : wr.heap.size + 1 < WA.heap.size := (Array.getElem?_eq_some_iff.1 HX0.out).1
                go_wp2_with (go_at_call 30; fail)
                all_goals
                  first
                    | (have hc01 : c0 = 1 := by omega
                       subst hc01
                       refine (hrec ⟨b, off, none⟩ (fun h => by exfalso; omega)).mono ?_)
                    | refine (hrec ⟨b, off + 5, none⟩ (fun h => rfl)).mono ?_
                  rintro e' w1 ⟨kids, rest, rfl, hvk, htr, hb1⟩
                  have x1 : w1.heap[wr.heap.size + 1]? = some (.cells #[.int .i64 tk, .string tx, .string un, .bool wh, .bool fl, .slice none 0 0] 46 (0, 0)) := (hb1.block _ hvlt).trans HX0.out
                  obtain ⟨y0, y1, y2, y3, y4, y5⟩ := tok6 x1
                  have yf := tok6f x1
                  obtain ⟨ka, kc, rfl, _, _⟩ := hvk.slice
                  obtain ⟨D1, D2, D3, D4⟩ := opened (P0 := W.heap.size) (HROW0.out) (HB0.out) hAW hb1 HX0.out hvk HB0.out.size
                  have HD1 := hid_mk D1
                  have HD2 := hid_mk D2
                  have HD3 := hid_mk D3
                  have HD4 := hid_mk D4
                  have HTR := hid_mk htr
                  obtain ⟨ra, rc, rfl, _⟩ := htr
                  clear hrec x1 hvk hb1 hAW HX0 D1 D2 D3 D4 HROW0 HB0
                  go_upto_region 11 with fail
                  generalize w1.setCell ⟨wr.heap.size + 1, 5, none⟩ (.slice ka zk.length kc) = w2 at *
                  clear y0 y1 y2 y3 y4 y5 yf
                  obtain ⟨y0, y1, y2, y3, y4, y5⟩ := tok6 HD3.out
                  by_cases h6 : 64 < n + 1
                  · have z6 : decide ((64 : Int) < n + 1) = true := by simpa using h6
                    have HNX : Hid (someZ f ts c n = (ps.map mkV ++ (someZ g zr c n).1, (someZ g zr c n).2)) := by
                      show _ = _
                      have := HSZ.out
                      rwa [if_pos h6] at this
                    clear HSZ y0 y1 y2 y3 y4 y5
                    go_wp2
                    go_roundw
                    case rel => exact ⟨g, zr, ps, by omega, by omega, HTR.out, HD1.out, HD2.out, HNX.out, by omega⟩
                    case measure => simp [sliceLen]; omega
                  · have z6 : decide ((64 : Int) < n + 1) = false := by simpa using h6
                    have HNX : Hid (someZ f ts c n = ((ps ++ [((⟨tk, tx, un, wh, fl⟩ : T5), (Value.slice ka zk.length kc), zk)]).map mkV ++ (someZ g zr c n).1, (someZ g zr c n).2)) := by
                      show _ = _
                      have := HSZ.out
                      rw [if_neg h6] at this
                      rw [this, List.map_append, List.append_assoc]
                      rfl
                    have hown := HD1.out.1
                    have hbs := HD2.out.size
                    clear HSZ
                    go_wp2_with (at_builtin; go_must (refine wpList_append_own_at _ rfl _ _ 25 rfl W.heap.size 46 i0 _ 6 72 Try.underlying25 hi0 hz0 hz1 hz2 rfl (by decide) _ _ _ rfl (hown.alloc _) ⟨w2.heap.size, 0, none⟩ 1 1 [.int .i64 tk, .string tx, .string un, .bool wh, .bool fl, .slice ka zk.length kc] rfl rfl (news6 w2 _ _ _ _ _ _) (by intro u hu; simp at hu; rcases hu with rfl | rfl | rfl | rfl | rfl | rfl <;> rfl) (by unfold maxLen; omega) (by omega) (by simp; omega) ?_); intro v' w7 hown7 hgrow7 _ hat7)
                    go_roundw
                    case rel => exact ⟨g, zr, _, by omega, by omega, HTR.out, HD1.out.push (t := ⟨tk, tx, un, wh, fl⟩) HD4.out hown7 hgrow7 hat7 (by simp; omega), (HD2.out.alloc hbs _).grown hgrow7 (by simp; omega) (fun k hk => (hown.lt k hk).1), HNX.out, by simp; omega⟩
                    case measure => simp [sliceLen]; omega

end Go.Proofs.Ytihdiaklhkecmaa
