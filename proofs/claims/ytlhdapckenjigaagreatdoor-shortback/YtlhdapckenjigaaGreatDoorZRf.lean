/- What the document's functions of the layers below answer. -/
import Derived.Test.YtlhdapckenjigaaGreatDoorZLi
import Derived.Laws.IdiomStrings
import Derived.Deep.CutBlock
import Derived.Deep.DeepCutAuto
namespace Go.Proofs.YtlhdapckenjigaaGreatDoor
open Go.RowKit
set_option maxRecDepth 100000

theorem refDigit_any (c : Int) (w : World) : Calls Tryz.prog 143 #[.int .i32 c] w fun e w' => e = .returned (.bool (digitZ c)) ∧ w = w' := by
  by_cases h1 : 48 ≤ c
  · by_cases h2 : c ≤ 57
    · have HT : Hid (digitZ c = true) := by show digitZ c = true; simp [digitZ, h1, h2]
      go_enter Tryz.func143, Tryz.ntmps143
      go_wp2
      go_ret
      exact ⟨ret_bool (by rw [HT.out]), rfl⟩
    · have HT : Hid (digitZ c = false) := by show digitZ c = false; simp [digitZ, h1, h2]
      go_enter Tryz.func143, Tryz.ntmps143
      go_wp2
      go_ret
      exact ⟨ret_bool (by rw [HT.out]), rfl⟩
  · have HT : Hid (digitZ c = false) := by show digitZ c = false; simp [digitZ, h1]
    go_enter Tryz.func143, Tryz.ntmps143
    go_wp2
    go_ret
    exact ⟨ret_bool (by rw [HT.out]), rfl⟩

set_option maxHeartbeats 1000000 in
theorem refHex_any (c : Int) (w : World) (hb : -2147483648 ≤ c ∧ c ≤ 2147483647) : Calls Tryz.prog 114 #[.int .i32 c] w fun e w' => e = .returned (.int .i64 (hexZ c)) ∧ w = w' := by
  obtain ⟨hb1, hb2⟩ := hb
  rcases (show (48 ≤ c ∧ c ≤ 57) ∨ c < 48 ∨ (58 ≤ c ∧ c < 65) ∨ (65 ≤ c ∧ c ≤ 70) ∨ (71 ≤ c ∧ c < 97) ∨ (97 ≤ c ∧ c ≤ 102) ∨ 102 < c by omega) with ⟨h1, h2⟩ | h1 | ⟨h1, h2⟩ | ⟨h1, h2⟩ | ⟨h1, h2⟩ | ⟨h1, h2⟩ | h1
  · have hd := digitZ_yes h1 h2
    have HX : Hid (hexZ c = c - 48) := by show hexZ c = _; unfold hexZ; rw [if_pos (by omega)]
    go_enter Tryz.func114, Tryz.ntmps114
    go_wp2_with (go_at_call 143; refine (refDigit_any _ _).mono ?_; rintro e w' ⟨rfl, rfl⟩)
    go_ret
    exact ⟨ret_int (by rw [HX.out]), rfl⟩
  · have hd := digitZ_no (c := c) (by omega)
    have HX : Hid (hexZ c = -1) := by show hexZ c = _; unfold hexZ; repeat' split; all_goals omega
    go_enter Tryz.func114, Tryz.ntmps114
    go_wp2_with (go_at_call 143; refine (refDigit_any _ _).mono ?_; rintro e w' ⟨rfl, rfl⟩)
    go_ret
    exact ⟨ret_int (by rw [HX.out]; first | done | omega), rfl⟩
  · have hd := digitZ_no (c := c) (by omega)
    have HX : Hid (hexZ c = -1) := by show hexZ c = _; unfold hexZ; repeat' split; all_goals omega
    go_enter Tryz.func114, Tryz.ntmps114
    go_wp2_with (go_at_call 143; refine (refDigit_any _ _).mono ?_; rintro e w' ⟨rfl, rfl⟩)
    go_ret
    exact ⟨ret_int (by rw [HX.out]; first | done | omega), rfl⟩
  · have hd := digitZ_no (c := c) (by omega)
    have HX : Hid (hexZ c = c - 55) := by show hexZ c = _; unfold hexZ; repeat' split; all_goals omega
    go_enter Tryz.func114, Tryz.ntmps114
    go_wp2_with (go_at_call 143; refine (refDigit_any _ _).mono ?_; rintro e w' ⟨rfl, rfl⟩)
    go_ret
    exact ⟨ret_int (by rw [HX.out]; first | done | omega), rfl⟩
  · have hd := digitZ_no (c := c) (by omega)
    have HX : Hid (hexZ c = -1) := by show hexZ c = _; unfold hexZ; repeat' split; all_goals omega
    go_enter Tryz.func114, Tryz.ntmps114
    go_wp2_with (go_at_call 143; refine (refDigit_any _ _).mono ?_; rintro e w' ⟨rfl, rfl⟩)
    go_ret
    exact ⟨ret_int (by rw [HX.out]; first | done | omega), rfl⟩
  · have hd := digitZ_no (c := c) (by omega)
    have HX : Hid (hexZ c = c - 87) := by show hexZ c = _; unfold hexZ; repeat' split; all_goals omega
    go_enter Tryz.func114, Tryz.ntmps114
    go_wp2_with (go_at_call 143; refine (refDigit_any _ _).mono ?_; rintro e w' ⟨rfl, rfl⟩)
    go_ret
    exact ⟨ret_int (by rw [HX.out]; first | done | omega), rfl⟩
  · have hd := digitZ_no (c := c) (by omega)
    have HX : Hid (hexZ c = -1) := by show hexZ c = _; unfold hexZ; repeat' split; all_goals omega
    go_enter Tryz.func114, Tryz.ntmps114
    go_wp2_with (go_at_call 143; refine (refDigit_any _ _).mono ?_; rintro e w' ⟨rfl, rfl⟩)
    go_ret
    exact ⟨ret_int (by rw [HX.out]; first | done | omega), rfl⟩

set_option maxHeartbeats 4000000 in
set_option maxRecDepth 1000000 in
theorem refFold_any (s : ByteArray) (w : World) (hs : s.size ≤ 1000000000000) :
    Calls Tryz.prog 78 #[.string s] w fun e w' => e = .returned (.string (foldS s)) ∧ Below w.heap.size w w' := by
  obtain ⟨g, cap, W, hcv, hcap, hg, hcell, hfr, hb⟩ := bytesOf s w
  go_enter Tryz.func78, Tryz.ntmps78
  go_wp2
  clear hcv
  go_loopw [10] (fun i wr => ∃ k : Nat, k ≤ s.size ∧ i = .int .i64 k ∧ FoldAt s g k wr ∧ (∀ j, j < s.size → wr.frozen? ⟨g, j, none⟩ = false) ∧ Below w.heap.size w wr) (fun i _ => s.size - (intOf i).toNat)
  case atStart => exact ⟨0, Nat.zero_le _, rfl, fun j hj => by simpa using hcell j hj, hfr, hb⟩
  case round =>
    clear hcell hfr hb
    obtain ⟨k, hk, rfl, hcell, hfr, hb⟩ := hrel
    by_cases hlt : k < s.size
    · obtain ⟨c, hc⟩ : ∃ c : Nat, (s.get! k).toNat = c := ⟨_, rfl⟩
      have ck : wr.cell? ⟨g, k, none⟩ = some (.int .u8 c) := by
        have := hcell k hlt
        rw [if_neg (Nat.lt_irrefl k), hc] at this
        exact this
      have fk := hfr k hlt
      have h256 : c < 256 := by rw [← hc]; exact (s.get! k).toNat_lt
      have HF : Hid (∀ j, j < s.size → wr.frozen? ⟨g, j, none⟩ = false) := hfr
      clear hfr
      by_cases h : 65 ≤ c ∧ c ≤ 90
      · have HX : Hid (((c : Int) + 32) = foldN (s.get! k).toNat) := by
          show _ = _
          rw [hc, foldN, if_pos h]
          omega
        obtain ⟨h1, h2⟩ := h
        clear hc
        go_wp2
        go_roundw
        case rel => exact ⟨k + 1, by omega, by go_num, fold_step hcell hlt (by rw [← HX.out]; try omega), fun j hj => by rw [World.frozen?_setCell]; exact HF.out j hj, hb.setCell hg _⟩
        case measure => simp [intOf]; omega
      · have HX : Hid (foldN (s.get! k).toNat = (s.get! k).toNat) := by
          show _ = _
          rw [hc, foldN, if_neg h]
        clear hc
        rcases (show c < 65 ∨ 90 < c by omega) with h1 | h1
        all_goals
          clear h
          go_wp2
          go_roundw
          case rel => exact ⟨k + 1, by omega, by go_num, fold_keep hcell HX.out, HF.out, hb⟩
          case measure => simp [intOf]; omega
    · have hks : k = s.size := by omega
      rw [hks] at hcell
      have hcv2 := fold_conv (cap := cap) hcell
      clear hks
      go_wp2
      go_ret
      exact ⟨rfl, hb⟩

end Go.Proofs.YtlhdapckenjigaaGreatDoor
namespace Go.Proofs.YtlhdapckenjigaaGreatDoor.Y
open Go.RowKit
open Go.Proofs.YtlhdapckenjigaaGreatDoor.L (T5 V VsAt t5Cells vCells cell_of_heap)
set_option maxRecDepth 100000

theorem wpList_append_same {P : Program} (w : World) {ops : Array Oper} {rest : List Oper} {o : Oper} {a : Act} {Q : Exit → Act → World → Prop} (hgd : o.guard = none) (s x : Operand) (t : TypeId)
    (ho : o.op = .call { callee := .builtin .append, args := #[s, x], argTypes := #[t, t] }) (v u : Value) (hs : a.eval s = v) (hx : a.eval x = u) (hr : (Builtin.append_ #[t, t] o.type #[v, u]).run P w = .ok v w) (h : wpList P ops Q rest (a.put o.dst v) w) : wpList P ops Q (o :: rest) a w := by
  refine wpList_plain hgd fun K hK => ?_
  unfold Oper.wp execOp
  simp only [ho, resolve, invoke, builtin, Sem.run_bind, Sem.run_pure, Result.andThen_ok, List.map_toArray, List.map_cons, List.map_nil, hs, hx, hr]
  exact hK _ _ h
theorem run_append_empty {w : World} {base size n : Nat} {t t' e : TypeId} {i : TypeInfo} {v : Value} {xs : List Value} (ht : Tryz.prog.underlying t = some (.slice e)) (hi : Tryz.prog.info? e = some i) (hown : w.ownsRow base e size v n xs) (x : Option Addr) (c : Nat) :
    (Builtin.append_ #[t, t] t' #[v, .slice x 0 c]).run Tryz.prog w = .ok v w := by
  obtain ⟨hl, h⟩ := hown
  rcases h with ⟨rfl, hn⟩ | ⟨g, cap, cur, rfl, _, hg, hnc, hcm, hsz, hx⟩
  · cases x <;> simp [Builtin.append_, run_underlying ht, sizeOf, typeInfo, hi, Builtin.lenOf, Builtin.firstCells, loadCells, loadCellsFrom]
  · cases x <;> simp [Builtin.append_, run_underlying ht, sizeOf, typeInfo, hi, Builtin.lenOf, Builtin.firstCells, loadCells, loadCellsFrom, storeCells, hnc]
/-- Many values more. -/
theorem Row.cat {P : Nat → Prop} {B : Nat} {w w' : World} {out v' : Value} {ps qs : List (T5 × Value × List V)} (h : Row P B w out ps) (hk : ∀ q ∈ qs, VsAt (fun b => P b ∧ out.ownBlock ≠ some b) w q.2.1 q.2.2)
    (hown : w'.ownsRow B 57 6 v' (ps.length + qs.length) ((ps.flatMap fun p => vCells p.1 p.2.1) ++ (qs.flatMap fun p => vCells p.1 p.2.1))) (hg : w.grownBy w' out.ownBlock) (hat : v'.ownBlock = out.ownBlock ∨ v'.ownBlock = some w.heap.size) (hP : P w.heap.size) : Row P B w' v' (ps ++ qs) := by
  have keep : ∀ {x : Value} {xs : List V}, VsAt (fun b => P b ∧ out.ownBlock ≠ some b) w x xs → VsAt (fun b => P b ∧ v'.ownBlock ≠ some b) w' x xs := by
    intro x xs hx
    have h1 : VsAt (fun b => (P b ∧ out.ownBlock ≠ some b) ∧ v'.ownBlock ≠ some b) w x xs := hx.wider (fun b hb hlt => ⟨hb, by
      rcases hat with e | e
      · rw [e]; exact hb.2
      · rw [e]
        intro e2
        have := Option.some.inj e2
        omega⟩)
    have h2 := h1.stay (W' := w') hg.size (fun b hb hlt => hg.block b hlt (fun e => hb.1.2 e.symm))
    exact h2.wider (fun b hb _ => ⟨hb.1.1, hb.2⟩)
  refine ⟨?_, ?_, ?_⟩
  · rw [List.length_append, List.flatMap_append]
    exact hown
  · intro g hgo
    rcases hat with e | e
    · exact h.2.1 g (e.symm.trans hgo)
    · rw [e] at hgo
      cases hgo
      exact hP
  · intro p hp
    rcases List.mem_append.1 hp with hp | hp
    · exact keep (h.2.2 p hp)
    · exact keep (hk p hp)
theorem flat6_len (ps : List (T5 × Value × List V)) : (ps.flatMap fun p => vCells p.1 p.2.1).length = ps.length * 6 := by
  induction ps with
  | nil => rfl
  | cons t r ih =>
    rw [List.flatMap_cons, List.length_append, ih, List.length_cons]
    simp [vCells]
    omega
/-- The values of a slice, one by one, with what each holds. -/
theorem _root_.Go.Proofs.YtlhdapckenjigaaGreatDoor.L.VsAt.parts {P : Nat → Prop} {W : World} {a : Option Addr} {n cap : Nat} {vs : List V} (h : VsAt P W (.slice a n cap) vs) : ∃ qs : List (T5 × Value × List V), qs.map mkV = vs ∧ (∀ q ∈ qs, VsAt P W q.2.1 q.2.2) ∧ (∀ u ∈ qs.flatMap fun p => vCells p.1 p.2.1, u.oneCell' = true) ∧
    (0 < n → ∃ b off, a = some ⟨b, off, none⟩ ∧ b < W.heap.size ∧ P b ∧ ∀ j u, (qs.flatMap fun p => vCells p.1 p.2.1)[j]? = some u → W.cell? ((⟨b, off, none⟩ : Addr).add j) = some u) := by
  generalize hv : Value.slice a n cap = v at h
  cases h with
  | mk a' cap' vs b off kv h1 h2 ha hc hr =>
    cases hv
    have hlen : ((List.range vs.length).attach.map fun i => (((vs[i.1]'(List.mem_range.1 i.2)).tok, kv i.1, (vs[i.1]'(List.mem_range.1 i.2)).kids) : T5 × Value × List V)).length = vs.length := by simp
    have hget : ∀ i (hi : i < vs.length), ((List.range vs.length).attach.map fun i => (((vs[i.1]'(List.mem_range.1 i.2)).tok, kv i.1, (vs[i.1]'(List.mem_range.1 i.2)).kids) : T5 × Value × List V))[i]'(by rw [hlen]; exact hi) = ((vs[i]'hi).tok, kv i, (vs[i]'hi).kids) := fun i hi => by simp
    generalize (List.range vs.length).attach.map (fun i => (((vs[i.1]'(List.mem_range.1 i.2)).tok, kv i.1, (vs[i.1]'(List.mem_range.1 i.2)).kids) : T5 × Value × List V)) = qs at *
    refine ⟨qs, ?_, ?_, ?_, ?_⟩
    · refine List.ext_getElem (by simp [hlen]) (fun i h1 h2 => ?_)
      rw [List.getElem_map, hget i h2]
      cases vs[i]'h2
      rfl
    · intro q hq
      obtain ⟨i, hi, rfl⟩ := List.getElem_of_mem hq
      rw [hget i (by omega)]
      exact hr i (by omega)
    · intro u hu
      obtain ⟨q, hq, hu⟩ := List.mem_flatMap.1 hu
      obtain ⟨i, hi, rfl⟩ := List.getElem_of_mem hq
      rw [hget i (by omega)] at hu
      obtain ⟨x, c, e, _, _⟩ := (hr i (by omega)).slice
      simp [vCells] at hu
      rcases hu with rfl | rfl | rfl | rfl | rfl | rfl
      all_goals first | rfl | (rw [e]; rfl)
    · intro h0
      obtain ⟨ea, hb, hp⟩ := ha h0
      refine ⟨b, off, ea, hb, hp, fun j u hu => ?_⟩
      have hlt := (List.getElem?_eq_some_iff.1 hu).1
      rw [flat6_len, hlen] at hlt
      have e : j = j / 6 * 6 + j % 6 := by omega
      have hk : j / 6 < vs.length := by omega
      rw [e, flat_at qs (j / 6) (j % 6) (by omega) (by omega), hget (j / 6) hk] at hu
      have := hc (j / 6) hk (j % 6) u hu
      rw [Addr.add_mid, show off + j = off + j / 6 * 6 + j % 6 by omega]
      exact this
/-- An append of values, many or none, to a row of one's own. -/
theorem wpList_append_row {ops : Array Oper} {rest : List Oper} {o : Oper} {a : Act} {Q : Exit → Act → World → Prop} {w : World} (hgd : o.guard = none) (s x : Operand) (ho : o.op = .call { callee := .builtin .append, args := #[s, x], argTypes := #[24, 24] })
    {P : Nat → Prop} {B : Nat} {v u : Value} {ps : List (T5 × Value × List V)} {vs : List V} (hs : a.eval s = v) (hx : a.eval x = u) (hrow : Row P B w v ps) (hu : VsAt (fun b => P b ∧ v.ownBlock ≠ some b) w u vs) (hn : ps.length + vs.length ≤ 1954687338211) (hB : B ≤ w.heap.size) (hP : P w.heap.size)
    (h : ∀ v' w' qs, Row P B w' v' (ps ++ qs) → qs.map mkV = vs → w.grownBy w' v.ownBlock → wpList Tryz.prog ops Q rest (a.put o.dst v') w') : wpList Tryz.prog ops Q (o :: rest) a w := by
  obtain ⟨i0, hi0, hz0, hz1, hz2⟩ := info_parts Tryz.info57
  obtain ⟨ua, uc, rfl, _, _⟩ := hu.slice
  obtain ⟨qs, hq1, hq2, hq3, hq4⟩ := VsAt.parts hu
  have hql : qs.length = vs.length := by rw [← hq1, List.length_map]
  by_cases h0 : 0 < vs.length
  · obtain ⟨b, off, rfl, _, _, hcell⟩ := hq4 h0
    refine wpList_append_own_at w hgd s x 24 ho B 57 i0 _ 6 72 Tryz.underlying24 hi0 hz0 hz1 hz2 rfl (by decide) v ps.length _ hs hrow.1 ⟨b, off, none⟩ vs.length uc _ hx (by rw [flat6_len, hql]) hcell hq3 (by unfold maxLen; omega) (by omega) hB ?_
    intro v' w' hown hg _ hat
    exact h v' w' qs (hrow.cat hq2 (by rw [hql]; exact hown) hg hat hP) hq1 hg
  · have hv0 : vs = [] := List.length_eq_zero_iff.1 (by omega)
    subst hv0
    have hq0 : qs = [] := by simpa using hq1
    subst hq0
    refine wpList_append_same w hgd s x 24 ho v _ hs hx (run_append_empty Tryz.underlying24 hi0 hrow.1 ua uc) ?_
    exact h v w [] (by simpa using hrow) rfl ⟨rfl, rfl, rfl, Nat.le_refl _, fun _ _ _ => rfl⟩
theorem bgrown {w0 w w' : World} {row : Option Nat} (h : Below w0.heap.size w0 w) (hg : w.grownBy w' row) (hr : ∀ k, row = some k → w0.heap.size ≤ k) : Below w0.heap.size w0 w' := h.grown hg h.size hr
set_option maxHeartbeats 400000 in
theorem ris_any (w : World) (tk : Int) (tx un : ByteArray) (wh fl : Bool) (kid : Value) (k : Int) :
    Calls Tryz.prog 77 #[.agg #[.int .i64 tk, .string tx, .string un, .bool wh, .bool fl, kid], .int .i64 k] w fun e w' => e = .returned (.bool (tk == k)) ∧ Below w.heap.size w w' := by
  go_enter Tryz.func77, Tryz.ntmps77
  go_wp2
  go_ret
  exact ⟨rfl, (Below.refl _ w).alloc (Nat.le_refl _) _⟩
theorem space_eq (x : V) : spaceV x = (x.tok.k == 13) := by
  unfold spaceV hasZ
  simp
  rfl
set_option maxHeartbeats 1000000 in
theorem rtrim_any {P : Nat → Prop} {w : World} {v : Value} {vs : List V} (hv : VsAt P w v vs) (hn : vs.length ≤ 1954687338211) :
    Calls Tryz.prog 48 #[v] w fun e w' => ∃ out, e = .returned out ∧ VsAt (fun b => P b ∨ w.heap.size ≤ b) w' out (trimZ vs) ∧ Below w.heap.size w w' := by
  have HV := hid_mk hv
  obtain ⟨a, cap, rfl, hl, hcap⟩ := hv.slice
  clear hv
  go_enter Tryz.func48, Tryz.ntmps48
  go_upto_block 0 with fail
  go_cut [0] (fun a0 wx => VsAt P w a0 (vs.dropWhile spaceV) ∧ Below w.heap.size w wx)
  case first =>
    go_wp2_with fail
    go_loopw [0] (fun a0 wr => ∃ (us : List V), VsAt P w a0 us ∧ us.length ≤ vs.length ∧ Hid (vs.dropWhile spaceV = us.dropWhile spaceV) ∧ Below w.heap.size w wr) (fun a0 _ => sliceLen a0)
    case atStart => exact ⟨vs, HV.out, Nat.le_refl _, (rfl : _ = _), Below.refl _ _⟩
    case round =>
      obtain ⟨us, hus, hul, hE, hB⟩ := hrel
      cases us with
      | nil =>
        obtain ⟨a0, c0, rfl, _, _⟩ := hus.slice
        have HUS := hid_mk hus
        have HW := hE.out
        rw [List.dropWhile_nil] at HW
        have HW2 := hid_mk HW
        clear hus HW hE HV
        go_wp2_with fail
        go_meet
        exact ⟨by rw [HW2.out]; exact HUS.out, hB⟩
      | cons x r =>
        obtain ⟨a0, c0, rfl, hl0, hc0⟩ := hus.slice
        have HUS := hid_mk hus
        obtain ⟨_, _, _, hcs⟩ := hus.cells
        obtain ⟨b, off, kv, rfl, hbl, hcc, hkid⟩ := hcs 0 (by simp)
        have hq := fun j y hy => (hB.cell (p := ⟨b, off + 0 * 6 + j, none⟩) hbl).trans (hcc j y hy)
        simp only [Nat.zero_mul, Nat.add_zero, List.getElem_cons_zero] at hq hkid
        obtain ⟨⟨tk, tx, un, wh, fl⟩, xk⟩ := x
        obtain ⟨ka, kc, rfl, _, _⟩ := hkid.slice
        generalize (V.mk ⟨tk, tx, un, wh, fl⟩ xk).kids.length = kn at *
        have q0 : wr.cell? ⟨b, off, none⟩ = some (.int .i64 tk) := hq 0 _ rfl
        have q1 : wr.cell? ⟨b, off + 1, none⟩ = some (.string tx) := hq 1 _ rfl
        have q2 : wr.cell? ⟨b, off + 2, none⟩ = some (.string un) := hq 2 _ rfl
        have q3 : wr.cell? ⟨b, off + 3, none⟩ = some (.bool wh) := hq 3 _ rfl
        have q4 : wr.cell? ⟨b, off + 4, none⟩ = some (.bool fl) := hq 4 _ rfl
        have q5 : wr.cell? ⟨b, off + 5, none⟩ = some (.slice ka kn kc) := hq 5 _ rfl
        have hc2 := ris_any wr tk tx un wh fl (.slice ka kn kc) 13
        have HE := hE.out
        rw [List.dropWhile_cons, show spaceV (V.mk ⟨tk, tx, un, wh, fl⟩ xk) = (tk == 13) from space_eq _] at HE
        have HE2 := hid_mk HE
        rw [List.length_cons] at hul hl0
        generalize (tk == 13) = y at *
        have HB := hid_mk hB
        clear hE HE hcs hcc hq hkid hB hus HV
        simp only [List.length_cons]
        go_wp2_with (go_at_call 77; fail)
        refine hc2.mono ?_
        rintro e w' ⟨rfl, hB2⟩
        have HB2 : Hid (Below w.heap.size w w') := HB.out.trans (hB2.mono HB.out.size)
        clear hc2 q0 q1 q2 q3 q4 q5 hB2
        cases y with
        | true =>
          have HR : Hid (vs.dropWhile spaceV = r.dropWhile spaceV) := by
            show _ = _
            rw [HE2.out, if_pos rfl]
          clear HE2
          go_wp2
          all_goals
            go_roundw
            case rel => exact ⟨r, VsAt.dropO HUS.out 1 (by simp) (by simp) rfl (fun h => by simp only [List.length_cons] at h; rw [if_neg (by omega)]), by omega, HR.out, HB2.out⟩
            case measure => simp [sliceLen]
        | false =>
          have HR : Hid (vs.dropWhile spaceV = V.mk ⟨tk, tx, un, wh, fl⟩ xk :: r) := by
            show _ = _
            rw [HE2.out, if_neg (by decide)]
          clear HE2
          go_wp2_with fail
          go_meet
          exact ⟨by rw [HR.out]; exact HUS.out, HB2.out⟩
  case rest =>
  obtain ⟨hu1, hB1⟩ := hcut
  have HU1 := hid_mk hu1
  have HB1 := hid_mk hB1
  have hl1 : (vs.dropWhile spaceV).length ≤ vs.length := (List.dropWhile_sublist spaceV (l := vs)).length_le
  have HTZ : Hid (trimZ vs = aheadZ (vs.dropWhile spaceV)) := (rfl : _ = _)
  obtain ⟨a1, c1, rfl, _, _⟩ := hu1.slice
  clear hu1 hB1 HV
  generalize vs.dropWhile spaceV = vs1 at *
  go_upto_block 2 with fail
  go_cut [0] (fun a0 wx => VsAt P w a0 (aheadZ vs1) ∧ Below w.heap.size w wx)
  case first =>
    go_wp2_with fail
    go_loopw [0] (fun a0 wr => ∃ (us : List V), VsAt P w a0 us ∧ us.length ≤ vs1.length ∧ Hid (aheadZ vs1 = aheadZ us) ∧ Below w.heap.size w wr) (fun a0 _ => sliceLen a0)
    case atStart => exact ⟨vs1, HU1.out, Nat.le_refl _, (rfl : _ = _), HB1.out⟩
    case round =>
      obtain ⟨us, hus, hul, hE, hB⟩ := hrel
      rcases List.eq_nil_or_concat us with rfl | ⟨r, x, rfl⟩
      · obtain ⟨a0, c0, rfl, _, _⟩ := hus.slice
        have HUS := hid_mk hus
        have HW := hE.out
        rw [aheadZ_nil] at HW
        have HW2 := hid_mk HW
        clear hus HW hE HU1
        go_wp2_with fail
        go_meet
        exact ⟨by rw [HW2.out]; exact HUS.out, hB⟩
      · rw [List.concat_eq_append] at hus hul hE
        obtain ⟨a0, c0, rfl, hl0, hc0⟩ := hus.slice
        have HUS := hid_mk hus
        obtain ⟨_, _, _, hcs⟩ := hus.cells
        have hll : (r ++ [x]).length = r.length + 1 := by simp
        obtain ⟨b, off, kv, rfl, hbl, hcc, hkid⟩ := hcs r.length (by omega)
        have hq := fun j y hy => (hB.cell (p := ⟨b, off + r.length * 6 + j, none⟩) hbl).trans (hcc j y hy)
        have hgx : (r ++ [x])[r.length]'(by omega) = x := by simp
        rw [hgx] at hq hkid
        obtain ⟨⟨tk, tx, un, wh, fl⟩, xk⟩ := x
        obtain ⟨ka, kc, rfl, _, _⟩ := hkid.slice
        generalize (V.mk ⟨tk, tx, un, wh, fl⟩ xk).kids.length = kn at *
        have q0 : wr.cell? ⟨b, off + r.length * 6, none⟩ = some (.int .i64 tk) := hq 0 _ rfl
        have q1 : wr.cell? ⟨b, off + r.length * 6 + 1, none⟩ = some (.string tx) := hq 1 _ rfl
        have q2 : wr.cell? ⟨b, off + r.length * 6 + 2, none⟩ = some (.string un) := hq 2 _ rfl
        have q3 : wr.cell? ⟨b, off + r.length * 6 + 3, none⟩ = some (.bool wh) := hq 3 _ rfl
        have q4 : wr.cell? ⟨b, off + r.length * 6 + 4, none⟩ = some (.bool fl) := hq 4 _ rfl
        have q5 : wr.cell? ⟨b, off + r.length * 6 + 5, none⟩ = some (.slice ka kn kc) := hq 5 _ rfl
        have hc2 := ris_any wr tk tx un wh fl (.slice ka kn kc) 13
        have HE := hE.out
        rw [aheadZ_snoc, show spaceV (V.mk ⟨tk, tx, un, wh, fl⟩ xk) = (tk == 13) from space_eq _] at HE
        have HE2 := hid_mk HE
        have HTK : Hid ((r ++ [V.mk ⟨tk, tx, un, wh, fl⟩ xk]).take r.length = r) := by show _ = _; simp
        rw [hll] at hul hl0
        rw [hll]
        generalize (tk == 13) = y at *
        have HB := hid_mk hB
        clear hE HE hcs hcc hq hkid hB hus HU1 hgx
        go_wp2_with (go_at_call 77; fail)
        refine hc2.mono ?_
        rintro e w' ⟨rfl, hB2⟩
        have HB2 : Hid (Below w.heap.size w w') := HB.out.trans (hB2.mono HB.out.size)
        clear hc2 q0 q1 q2 q3 q4 q5 hB2
        cases y with
        | true =>
          have HR : Hid (aheadZ vs1 = aheadZ r) := by
            show _ = _
            rw [HE2.out, if_pos rfl]
          have HT := HUS.out.take r.length (by omega)
          rw [HTK.out] at HT
          have HT2 := hid_mk HT
          clear HE2 HT
          go_wp2
          go_roundw
          case rel => exact ⟨r, HT2.out, by omega, HR.out, HB2.out⟩
          case measure => simp [sliceLen]
        | false =>
          have HR : Hid (aheadZ vs1 = r ++ [V.mk ⟨tk, tx, un, wh, fl⟩ xk]) := by
            show _ = _
            rw [HE2.out, if_neg (by decide)]
          have HU := HUS.out
          rw [hll] at HU
          have HU2 := hid_mk HU
          clear HE2 HU
          go_wp2_with fail
          go_meet
          exact ⟨by rw [HR.out]; exact HU2.out, HB2.out⟩
  case rest =>
  obtain ⟨hu2, hB2⟩ := hcut
  have hl2 := aheadZ_le vs1
  obtain ⟨a2, c2, rfl, _, _⟩ := hu2.slice
  have gl : Below wc.heap.size wc (wc.alloc (.cells #[] 57)) := (Below.refl _ wc).alloc (Nat.le_refl _) _
  have hws := hB2.size
  have HR0 : Hid (Row (fun b => P b ∨ w.heap.size ≤ b) wc.heap.size (wc.alloc (.cells #[] 57)) (.slice (some ⟨wc.heap.size, 0, none⟩) 0 0) []) :=
    ⟨World.ownsRow_lit (base := wc.heap.size) (e := 57) (size := 6) wc #[] 0 (Nat.le_refl _) (by decide) rfl, fun g hg => by have : wc.heap.size = g := Option.some.inj hg; exact .inr (by omega), fun p hp => by cases hp⟩
  have HPN : Hid (P (wc.alloc (.cells #[] 57)).heap.size ∨ w.heap.size ≤ (wc.alloc (.cells #[] 57)).heap.size) := .inr (by have := gl.size; omega)
  have HS0 : Hid (VsAt (fun b => (P b ∨ w.heap.size ≤ b) ∧ (Value.slice (some ⟨wc.heap.size, 0, none⟩) 0 0).ownBlock ≠ some b) (wc.alloc (.cells #[] 57)) (.slice a2 (aheadZ vs1).length c2) (aheadZ vs1)) :=
    (((hu2.keep hB2).wider (Q := fun b => P b ∧ b < wc.heap.size) (fun b hp h => ⟨hp, h⟩)).keep gl).wider (fun b hb _ => ⟨.inl hb.1, fun e => by have : wc.heap.size = b := Option.some.inj e; omega⟩)
  have hn0 : ([] : List (T5 × Value × List V)).length + (aheadZ vs1).length ≤ 1954687338211 := by simp; omega
  have HB2 := hid_mk hB2
  clear hu2 hB2 HU1 HB1
  generalize aheadZ vs1 = vs2 at *
  go_wp2_with (at_builtin; go_must (refine wpList_append_row (P := fun b => P b ∨ w.heap.size ≤ b) (ps := []) (vs := vs2) rfl _ _ rfl rfl rfl HR0.out HS0.out hn0 gl.size HPN.out ?_); intro v8 w8 qs8 hrow8 hq8 hg8; have hv8 := hrow8.vals; rw [List.map_append, List.map_nil, List.nil_append, hq8] at hv8; obtain ⟨a8, c8, rfl, _, _⟩ := hv8.slice)
  have g8 := bgrown gl hg8 (fun j e => by have : wc.heap.size = j := Option.some.inj e; omega)
  have HB8 : Hid (Below w.heap.size w w8) := HB2.out.trans (g8.mono HB2.out.size)
  have HV8 := hid_mk hv8
  clear hrow8 hq8 hg8 g8 hv8 HR0 HS0 gl
  go_ret
  exact ⟨_, rfl, by rw [HTZ.out]; exact HV8.out, HB8.out⟩
end Go.Proofs.YtlhdapckenjigaaGreatDoor.Y
namespace Go.Proofs.YtlhdapckenjigaaGreatDoor.Z
open Go.RowKit
open Go.Proofs.YtlhdapckenjigaaGreatDoor.L (T5 V VsAt t5Cells vCells cell_of_heap hid_mk)
set_option maxRecDepth 100000

theorem rdig_any (n : Int) (h0 : -9223372036854775808 ≤ n) (h1 : n ≤ 9223372036854775807) (w : World) : Calls Tryz.prog 80 #[.int .i64 n] w fun e w' => e = .returned (.string (W.itS n)) ∧ w' = w := by
  have h := W.rdigits_any n h0 h1 w
  generalize W.itS n = s at *
  go_enter Tryz.func80, Tryz.ntmps80
  go_wp2_with (go_at_call 113; fail)
  refine h.mono ?_
  rintro e w' ⟨rfl, rfl⟩
  go_wp2
  go_ret
  exact ⟨rfl, rfl⟩
theorem rint_any (t : T5) (hz : t.tx.size ≤ 100000) (w : World) :
    Calls Tryz.prog 79 #[tA t] w fun e w' => e = .returned (.tuple #[.int .i64 (intP t).1, .bool (intP t).2]) ∧ Below w.heap.size w w' := by
  obtain ⟨k, tx, un, wh, fl⟩ := t
  cases wh with
  | false =>
    have e : intP ⟨k, tx, un, false, fl⟩ = (0, false) := by unfold intP; rw [if_neg (by rintro ⟨_, h⟩; cases h)]
    rw [e]
    exact W.rint_not_whole k tx un fl w
  | true =>
    by_cases hk : k = 10 ∨ k = 11 ∨ k = 12
    · have e : intP ⟨k, tx, un, true, fl⟩ = W.intV (W.negB tx) (W.bytesL (W.bodyS tx)) := by unfold intP; rw [if_pos ⟨hk, rfl⟩]
      rw [e]
      exact W.rint_whole k hk tx un fl hz w
    · have e : intP ⟨k, tx, un, true, fl⟩ = (0, false) := by unfold intP; rw [if_neg (by rintro ⟨h, _⟩; exact hk h)]
      rw [e]
      exact W.rint_no_kind k hk tx un fl w
def idS (t : T5) : ByteArray := if t.k = 1 then foldS t.tx else noS
set_option maxHeartbeats 1000000 in
theorem rident_any (t : T5) (ka : Option Addr) (kn kc : Nat) (hz : t.tx.size ≤ 1000000) (w : World) :
    Calls Tryz.prog 49 #[vA t (.slice ka kn kc)] w fun e w' => e = .returned (.string (idS t)) ∧ Below w.heap.size w w' := by
  obtain ⟨k, tx, un, wh, fl⟩ := t
  have hB : Below w.heap.size w (w.alloc (.cells #[.int .i64 k, .string tx, .string un, .bool wh, .bool fl, .slice ka kn kc] 57)) := (Below.refl _ w).alloc (Nat.le_refl _) _
  have hf := refFold_any tx (w.alloc (.cells #[.int .i64 k, .string tx, .string un, .bool wh, .bool fl, .slice ka kn kc] 57)) (Nat.le_trans hz (by decide))
  have HB := hid_mk hB
  have HR : Hid (idS ⟨k, tx, un, wh, fl⟩ = if k = 1 then foldS tx else noS) := rfl
  generalize idS ⟨k, tx, un, wh, fl⟩ = R at *
  generalize foldS tx = f at *
  clear hB
  show Calls Tryz.prog 49 #[.agg #[.int .i64 k, .string tx, .string un, .bool wh, .bool fl, .slice ka kn kc]] w _
  by_cases h1 : k = 1
  · have HZ : Hid (R = f) := by show _ = _; rw [HR.out, if_pos h1]
    have k1 : (k != 1) = false := by rw [h1]; rfl
    clear h1 HR
    go_enter Tryz.func49, Tryz.ntmps49
    go_wp2_with (go_at_call 78; fail)
    refine hf.mono ?_
    rintro e w1 ⟨rfl, hb1⟩
    have hb2 : Below w.heap.size w w1 := HB.out.trans (hb1.mono HB.out.size)
    clear hb1 hf
    go_wp2
    go_ret
    exact ⟨by rw [HZ.out]; rfl, hb2⟩
  · have HZ : Hid (R = noS) := by show _ = _; rw [HR.out, if_neg h1]
    have k1 : (k != 1) = true := by simpa using h1
    clear h1 HR hf
    go_enter Tryz.func49, Tryz.ntmps49
    go_wp2
    go_ret
    exact ⟨by rw [HZ.out]; rfl, HB.out⟩
end Go.Proofs.YtlhdapckenjigaaGreatDoor.Z
