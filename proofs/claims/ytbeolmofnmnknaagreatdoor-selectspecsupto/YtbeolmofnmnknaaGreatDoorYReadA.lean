/- parse.read's helpers: closeOf, closes and its function, behind. -/
import Derived.Test.YtbeolmofnmnknaaGreatDoorYSomeW
import Derived.WalkSmall
import Derived.RangeFuncBox
import Derived.Deep.DeepMust
namespace Go.Proofs.YtbeolmofnmnknaaGreatDoor.Y
open Go.RowKit
open Go.Proofs.YtbeolmofnmnknaaGreatDoor.L (T5 V VsAt t5Cells vCells cell_of_heap)
set_option maxRecDepth 100000

set_option maxHeartbeats 400000 in
theorem closeOf_any (k : Int) (w : World) : Calls Tryz.prog 43 #[.int .i64 k] w fun e w' => e = .returned (.int .i64 (closeZ k)) ∧ w = w' := by
  have HZ : ∀ (p q r s : Bool), p = (k == 19) → q = (k == 21) → r = (k == 2) → s = (k == 23) → Calls Tryz.prog 43 #[.int .i64 k] w fun e w' => e = .returned (.int .i64 (closeZ k)) ∧ w = w' := by
    intro p q r s z1 z2 z3 z4
    have HV : Hid (closeZ k = if p then 20 else if q || r then 22 else if s then 24 else 0) := by
      show _ = _
      unfold closeZ
      rw [z1, z2, z3, z4]
      simp
    have y1 := z1.symm
    have y2 := z2.symm
    have y3 := z3.symm
    have y4 := z4.symm
    clear z1 z2 z3 z4
    cases p <;> cases q <;> cases r <;> cases s
    all_goals
      go_enter Tryz.func43, Tryz.ntmps43
      go_wp2
      go_ret
      exact ⟨by rw [HV.out]; rfl, rfl⟩
  exact HZ _ _ _ _ rfl rfl rfl rfl
set_option maxHeartbeats 400000 in
theorem ends0_any (cs : Array Value) (w : World) : Calls Tryz.prog 25 #[.agg cs] w fun e w' => e = .returned (.bool false) ∧ Below w.heap.size w w' := by
  go_enter Tryz.func25, Tryz.ntmps25
  go_wp2
  go_ret
  exact ⟨rfl, (Below.refl _ w).alloc (Nat.le_refl _) _⟩
set_option maxHeartbeats 400000 in
theorem ends1_any (k c : Int) (tx un : ByteArray) (wh fl : Bool) (w : World) (B : Nat) (h : w.heap[B]? = some (.cells #[.int .i64 c] 3 (0, 0))) :
    Calls Tryz.prog 68 #[.agg #[.int .i64 k, .string tx, .string un, .bool wh, .bool fl], .pointer (some ⟨B, 0, none⟩)] w fun e w' => e = .returned (.bool (k == c)) ∧ Below w.heap.size w w' := by
  have hlt : B < w.heap.size := (Array.getElem?_eq_some_iff.1 h).1
  have hc : w.cell? ⟨B, 0, none⟩ = some (.int .i64 c) := by simp [World.cell?, h]
  clear h
  go_enter Tryz.func68, Tryz.ntmps68
  go_wp2
  go_ret
  exact ⟨rfl, (Below.refl _ w).alloc (Nat.le_refl _) _⟩
set_option maxHeartbeats 400000 in
theorem closes_any (k : Int) (tx un : ByteArray) (wh fl : Bool) (w : World) :
    Calls Tryz.prog 45 #[.agg #[.int .i64 k, .string tx, .string un, .bool wh, .bool fl]] w fun e w' => ∃ B, e = .returned (.func (.func 68) #[] #[.pointer (some ⟨B, 0, none⟩)]) ∧ w.heap.size ≤ B ∧ w'.heap[B]? = some (.cells #[.int .i64 (closeZ k)] 3 (0, 0)) ∧ Below w.heap.size w w' := by
  have hco := fun w => closeOf_any k w
  generalize closeZ k = c at *
  have hal : ∀ o o', Below w.heap.size w ((w.alloc o).alloc o') := fun o o' => ((Below.refl _ w).alloc (Nat.le_refl _) o).alloc (by simp) o'
  have hbl : ∀ o o', ((w.alloc o).alloc o').heap[w.heap.size + 1]? = some o' := fun o o' => by
    have := heap_alloc_new (w.alloc o) o'
    rwa [show (w.alloc o).heap.size = w.heap.size + 1 by simp] at this
  go_enter Tryz.func45, Tryz.ntmps45
  go_wp2_with (go_at_call 43; refine (hco _).mono ?_; rintro e w1 ⟨rfl, rfl⟩)
  go_ret
  exact ⟨_, rfl, by omega, hbl _ _, hal _ _⟩
theorem Tryz.info3 : (Tryz.prog.info? 3).map (fun i => (i.zero, i.size, i.bytes)) = some (some (.int .i64 0), 1, 8) := by kernel_rfl
/-- The tokens behind all that is open, the innermost first. -/
def runS : List Int → List T5 → List T5
  | [], l => l
  | _ :: _, [] => []
  | c :: s, t :: r => if t.k = c then runS s r else if closeZ t.k = 0 then runS (c :: s) r else runS (closeZ t.k :: c :: s) r
termination_by _ l => l.length
theorem runS_nil (s : List Int) : runS s [] = [] := by cases s <;> simp [runS]
theorem runS_some : ∀ (f : Nat) (l : List T5), l.length ≤ f → ∀ (c n : Int) (s : List Int), c ≠ 0 → runS (c :: s) l = runS s (someZ f l c n).2
  | f, [], _, c, n, s, _ => by rw [runS_nil, someZ_nil, runS_nil]
  | 0, t :: r, h, c, n, s, _ => by simp at h
  | f + 1, t :: r, h, c, n, s, hc => by
    rw [List.length_cons] at h
    rw [runS, someZ]
    by_cases h1 : t.k = c
    · rw [if_pos h1, if_pos ⟨hc, h1⟩]
    · rw [if_neg h1, if_neg (show ¬ (c ≠ 0 ∧ t.k = c) from fun e => h1 e.2)]
      by_cases h2 : closeZ t.k = 0
      · rw [if_pos h2, if_pos h2]
        exact runS_some f r (by omega) c n s hc
      · have hl := some_len f r (closeZ t.k) (n + 1)
        rw [if_neg h2, if_neg h2, runS_some f r (by omega) (closeZ t.k) (n + 1) (c :: s) h2, runS_some f _ (by omega) c n s hc]
        by_cases h3 : 64 < n + 1
        · rw [if_pos h3]
        · rw [if_neg h3]

theorem TsAt.drop {W : World} {b off n c : Nat} {ts : List T5} (h : TsAt W (.slice (some ⟨b, off, none⟩) n c) ts) (k : Nat) (hk : k ≤ ts.length) (a' : Addr) (ha : k < ts.length → a' = ⟨b, off + k * 5, none⟩) : TsAt W (.slice (some a') (n - k) (c - k)) (ts.drop k) := by
  obtain ⟨a, c', hv, h1, h2, h3⟩ := h
  have e1 : a = some ⟨b, off, none⟩ := by injection hv with x y z; exact x.symm
  have e2 : c' = c := by injection hv with x y z; exact z.symm
  have e3 : n = ts.length := by injection hv with x y z
  subst e1 e2 e3
  have hl : (ts.drop k).length = ts.length - k := List.length_drop
  refine ⟨_, c' - k, by rw [hl], by omega, by omega, fun h0 => ?_⟩
  obtain ⟨b', off', ha', hlt, hc⟩ := h3 (by omega)
  cases ha'
  refine ⟨b, off + k * 5, congrArg some (ha (by omega)), hlt, fun i hi j y hy => ?_⟩
  have := hc (k + i) (by omega) j y (by rw [← hy]; simp)
  rw [show off + k * 5 + i * 5 + j = off + (k + i) * 5 + j by omega]
  exact this
set_option maxHeartbeats 1000000 in
theorem behind_any (ts : List T5) (W0 W : World) (v : Value) (hv : TsAt W0 v ts) (hW0 : Below W0.heap.size W0 W) (k : Int) (tx un : ByteArray) (wh fl : Bool) (hn : ts.length ≤ 100000) :
    Calls Tryz.prog 44 #[v, .agg #[.int .i64 k, .string tx, .string un, .bool wh, .bool fl]] W fun e w' => ∃ rest, e = .returned rest ∧ TsAt W0 rest (runS [closeZ k] ts) ∧ Below W.heap.size W w' := by
  have hco := fun w => closeOf_any k w
  generalize closeZ k = c at *
  have HV := hid_mk hv
  obtain ⟨a, cap, rfl, hl, hcap, hxx⟩ := hv
  go_enter Tryz.func44, Tryz.ntmps44
  go_wp2_with (go_at_call 43; refine (hco _).mono ?_; rintro e w1 ⟨rfl, rfl⟩)
  have HI : Hid (((W.alloc (.cells #[.int .i64 k, .string tx, .string un, .bool wh, .bool fl] 75)).alloc (.cells #[.int .i64 c] 3)).ownsRow W.heap.size 3 1 (.slice (some ⟨W.heap.size + 1, 0, none⟩) 1 1) 1 [.int .i64 c]) := by
    have := World.ownsRow_lit (base := W.heap.size) (e := 3) (size := 1) (W.alloc (.cells #[.int .i64 k, .string tx, .string un, .bool wh, .bool fl] 75)) #[.int .i64 c] 1 (by simp) (by decide) rfl
    rwa [show (W.alloc (.cells #[.int .i64 k, .string tx, .string un, .bool wh, .bool fl] 75)).heap.size = W.heap.size + 1 by simp] at this
  have HB : Hid (Below W.heap.size W ((W.alloc (.cells #[.int .i64 k, .string tx, .string un, .bool wh, .bool fl] 75)).alloc (.cells #[.int .i64 c] 3))) := ((Below.refl _ W).alloc (Nat.le_refl _) _).alloc (by simp) _
  go_loopw [5, 16] (fun a5 a16 wr => ∃ (i : Nat) (ss : List Int) (c' : Int), i ≤ ts.length ∧ a16 = .int .i64 (i : Int) ∧ wr.ownsRow W.heap.size 3 1 a5 (ss.length + 1) ((ss ++ [c']).map (Value.int .i64)) ∧ ss.length ≤ i ∧ runS [c] ts = runS (c' :: ss.reverse) (ts.drop i) ∧ Below W.heap.size W wr) (fun _ a16 _ => ts.length + 1 - (intOf a16).toNat)
  case atStart => exact ⟨0, [], c, Nat.zero_le _, rfl, HI.out, Nat.zero_le _, rfl, HB.out⟩
  case round =>
    obtain ⟨i, ss, c', hi, rfl, hown, hss, hE, hB⟩ := hrel
    clear HI HB hco
    by_cases hlt : i < ts.length
    · obtain ⟨g, rcap, rfl⟩ := ownsRow_succ hown
      obtain ⟨b, off, rfl, hbw, hcell⟩ := hxx (by omega)
      have hq := fun j y hy => ((hW0.trans (hB.mono hW0.size)).cell (p := ⟨b, off + i * 5 + j, none⟩) hbw).trans (hcell i hlt j y hy)
      have hdr : ts.drop i = ts[i]'hlt :: ts.drop (i + 1) := List.drop_eq_getElem_cons hlt
      rw [hdr] at hE
      clear hdr
      generalize ts[i]'hlt = t at *
      obtain ⟨tk, ttx, tun, twh, tfl⟩ := t
      have q0 : wr.cell? ⟨b, off + i * 5, none⟩ = some (.int .i64 tk) := hq 0 _ rfl
      have q1 : wr.cell? ⟨b, off + i * 5 + 1, none⟩ = some (.string ttx) := hq 1 _ rfl
      have q2 : wr.cell? ⟨b, off + i * 5 + 2, none⟩ = some (.string tun) := hq 2 _ rfl
      have q3 : wr.cell? ⟨b, off + i * 5 + 3, none⟩ = some (.bool twh) := hq 3 _ rfl
      have q4 : wr.cell? ⟨b, off + i * 5 + 4, none⟩ = some (.bool tfl) := hq 4 _ rfl
      have hlt2 := (hown.lt g rfl).2
      have hbw2 : b < wr.heap.size := Nat.lt_of_lt_of_le hbw (Nat.le_trans hW0.size hB.size)
      have hrc : wr.cell? ⟨g, ss.length, none⟩ = some (.int .i64 c') := by
        rw [hown.cellAt ss.length (by omega)]
        simp
      have hbs := hB.size
      have hrm : ss.length + 1 ≤ rcap ∧ rcap ≤ 9223372036854775807 := by
        rcases hown.2 with ⟨h, _⟩ | ⟨_, _, _, h, _, _, h1, h2, _⟩
        · cases h
        · cases h
          exact ⟨h1, h2⟩
      obtain ⟨hr1, hr2⟩ := hrm
      have HBA : Hid (∀ o, Below W.heap.size W (wr.alloc o)) := fun o => hB.alloc hbs o
      have HTD : Hid (∀ a' n' d', n' = ts.length - (i + 1) → d' = cap - (i + 1) → (i + 1 < ts.length → a' = ⟨b, off + (i + 1) * 5, none⟩) → TsAt W0 (.slice (some a') n' d') (ts.drop (i + 1))) := by
        rintro a' n' d' rfl rfl h
        exact HV.out.drop (i + 1) (by omega) a' h
      have HOWN := hid_mk hown
      have HE : Hid (runS [c] ts = if tk = c' then runS ss.reverse (ts.drop (i + 1)) else if closeZ tk = 0 then runS (c' :: ss.reverse) (ts.drop (i + 1)) else runS (closeZ tk :: c' :: ss.reverse) (ts.drop (i + 1))) := by
        show _ = _
        rw [hE, runS]
      clear hq hcell hxx hE hown hB HV hW0
      by_cases h1 : tk = c'
      · subst h1
        have HE1 := HE.out
        rw [if_pos rfl] at HE1
        have HF := hid_mk HE1
        clear HE HE1
        rcases List.eq_nil_or_concat ss with rfl | ⟨ss', c2, rfl⟩
        · have HR : Hid (runS [c] ts = ts.drop (i + 1)) := by
            show _ = _
            rw [HF.out, List.reverse_nil, runS]
          simp only [List.length_nil, Nat.zero_add] at hrc hr1 HOWN
          simp only [List.length_nil, Nat.zero_add]
          clear HF HOWN
          go_wp2
          go_quiet (fail)
          go_wp2
          all_goals
            go_ret
            exact ⟨_, rfl, by rw [HR.out]; exact HTD.out _ _ _ (by omega) (by omega) (fun h => by first | exact addr_eq (by omega) | (exfalso; omega)), (HBA.out _).trans (below_drewN5 _ _ _)⟩
        · have HR : Hid (runS [c] ts = runS (c2 :: ss'.reverse) (ts.drop (i + 1))) := by
            show _ = _
            rw [HF.out, List.concat_eq_append, List.reverse_append]
            rfl
          have HP : Hid (wr.ownsRow W.heap.size 3 1 (.slice (some ⟨g, 0, none⟩) (ss'.length + 1) rcap) (ss'.length + 1) ((ss' ++ [c2]).map (Value.int .i64))) := by
            have := HOWN.out
            rw [List.concat_eq_append, List.map_append] at this
            have hl2 : (ss' ++ [c2]).length = ss'.length + 1 := by simp
            rw [hl2] at this
            exact ownsRow_pop (by simp) this
          have hl2 : (ss'.concat c2).length = ss'.length + 1 := by simp
          rw [hl2] at hrc hr1 hss
          rw [hl2]
          clear HF HOWN hl2
          go_wp2
          go_quiet (fail)
          go_wp2
          go_roundw
          case rel => exact ⟨i + 1, ss', c2, by omega, by go_num, ownsRow_below (HP.out.alloc _) (below_drewN5 _ _ _), by omega, HR.out, (HBA.out _).trans (below_drewN5 _ _ _)⟩
          case measure => simp [intOf]; omega
      · have z1 : (tk == c') = false := by simpa using h1
        have HE1 := HE.out
        rw [if_neg h1] at HE1
        have HF := hid_mk HE1
        have hco := fun w => closeOf_any tk w
        generalize closeZ tk = e at *
        clear HE HE1 h1
        by_cases h2 : e = 0
        · subst h2
          have HR := HF.out
          rw [if_pos rfl] at HR
          have HG := hid_mk HR
          clear HR HF
          go_wp2
          go_quiet (fail)
          go_wp2_with (go_at_call 43; refine (hco _).mono ?_; rintro e' w' ⟨rfl, rfl⟩)
          go_roundw
          case rel => exact ⟨i + 1, ss, c', by omega, by go_num, ownsRow_below (HOWN.out.alloc _) (below_drewN5 _ _ _), by omega, HG.out, (HBA.out _).trans (below_drewN5 _ _ _)⟩
          case measure => simp [intOf]; omega
        · have z2 : (e != 0) = true := by simpa using h2
          have HG : Hid (runS [c] ts = runS (e :: (ss ++ [c']).reverse) (ts.drop (i + 1))) := by
            show _ = _
            have := HF.out
            rw [if_neg h2] at this
            rw [this, List.reverse_append]
            rfl
          clear HF h2
          go_wp2
          go_quiet (fail)
          go_wp2_with (go_at_call 43; refine (hco _).mono ?_; rintro e' w' ⟨rfl, rfl⟩; fail)
          go_at_call 43
          refine (hco _).mono ?_
          rintro e' w' ⟨rfl, rfl⟩
          have hown2 := ownsRow_below (HOWN.out.alloc (.cells #[.int .i64 tk, .string ttx, .string tun, .bool twh, .bool tfl] 75)) (below_drewN5 _ _ nq)
          have HB2 : Hid (Below W.heap.size W ((wr.alloc (.cells #[.int .i64 tk, .string ttx, .string tun, .bool twh, .bool tfl] 75)).drewN nq)) := (HBA.out _).trans (below_drewN5 _ _ _)
          generalize (wr.alloc (.cells #[.int .i64 tk, .string ttx, .string tun, .bool twh, .bool tfl] 75)).drewN nq = WA at *
          obtain ⟨i0, hi0, hz0, hz1, hz2⟩ := info_parts Tryz.info3
          have hbs2 := HB2.out.size
          go_wp2_with (at_builtin; go_must (refine wpList_append_own _ rfl _ _ 24 rfl W.heap.size 3 i0 _ 1 8 Tryz.underlying24 hi0 hz0 hz1 hz2 rfl (by decide) _ _ _ rfl (hown2.alloc _) ⟨WA.heap.size, 0, none⟩ 1 1 [.int .i64 e] rfl rfl (cell_one_new _ _ _) (by intro u hu; simp at hu; subst hu; rfl) (by unfold maxLen; omega) (by omega) (by simp; omega) ?_); intro v' w7 hown7 hgrow7 _; obtain ⟨g7, cap7, rfl⟩ := ownsRow_succ hown7)
          go_roundw
          case rel => exact ⟨i + 1, ss ++ [c'], e, by omega, by go_num, by simpa using hown7, by simp; omega, HG.out, (HB2.out.alloc hbs2 _).grown hgrow7 (by simp; omega) (fun k hk => (hown2.lt k hk).1)⟩
          case measure => simp [intOf]; omega
    · have hd : ts.drop i = [] := List.drop_eq_nil_of_le (by omega)
      rw [hd, runS_nil] at hE
      clear hd hown hW0
      have HE := hid_mk hE
      clear hE
      go_wp2
      go_ret
      exact ⟨_, rfl, by rw [HE.out]; exact TsAt.nil _, hB⟩

end Go.Proofs.YtbeolmofnmnknaaGreatDoor.Y
