/- gouachelaw03.ParseImportant: the walk. -/
import Derived.Test.YtihdiaklhkecmaaImpM
namespace Go.Proofs.Ytihdiaklhkecmaa
open Go.RowKit
set_option maxRecDepth 100000

set_option maxHeartbeats 400000 in
theorem ptrim_any {P : Nat → Prop} {W : World} {v : Value} {vs : List V} (hv : VsAt P W v vs) (hm : V.most vs) :
    Calls Try.prog 22 #[v] W fun e w' => ∃ out, e = .returned out ∧ VsAt (fun b => W.heap.size ≤ b) w' out (trimZ vs) ∧ Below W.heap.size W w' := by
  have h42 := trimmed_any hv hm.len
  have hm2 := trim_most hm
  unfold trimZ at hm2 ⊢
  obtain ⟨a, cap, rfl, _, _⟩ := hv.slice
  generalize aheadZ (vs.dropWhile spaceV) = tv at *
  go_enter Try.func22, Try.ntmps22
  go_wp2_with (go_at_call 42; fail)
  refine h42.mono ?_
  rintro e w1 ⟨o1, rfl, ho1, hb1⟩
  have h35 := own_any ho1 w1 (Below.refl _ _) hm2
  have HB1 := hid_mk hb1
  obtain ⟨a1, c1, rfl, _, _⟩ := ho1.slice
  clear h42 ho1 hb1
  go_wp2_with (go_at_call 35; fail)
  refine h35.mono ?_
  rintro e w2 ⟨o2, rfl, ho2, hb2⟩
  have HB2 : Hid (Below W.heap.size W w2) := HB1.out.trans (hb2.mono HB1.out.size)
  have HO2 : Hid (VsAt (fun b => W.heap.size ≤ b) w2 o2 tv) := ho2.wider (fun b hb _ => Nat.le_trans HB1.out.size hb)
  obtain ⟨a2, c2, rfl, _, _⟩ := ho2.slice
  clear h35 ho2 hb2
  go_wp2
  go_ret
  exact ⟨_, rfl, HO2.out, HB2.out⟩

def litB : List (T5 × Value × List V) := [((⟨9, ⟨#[33]⟩, ⟨#[]⟩, false, false⟩ : T5), .slice none 0 0, []), ((⟨1, ⟨#[73, 77, 80, 79, 82, 84, 65, 78, 84]⟩, ⟨#[]⟩, false, false⟩ : T5), .slice none 0 0, [])]
def lit2 (nm : ByteArray) : List (T5 × Value × List V) := [((⟨1, nm, ⟨#[]⟩, false, false⟩ : T5), .slice none 0 0, []), ((⟨16, ⟨#[]⟩, ⟨#[]⟩, false, false⟩ : T5), .slice none 0 0, [])]
set_option maxHeartbeats 2000000 in
theorem pimp_walk {W : World} {v : Value} {ts : List T5} {nm : ByteArray} {im : Bool} (hv : TsAt W v ts) (hsz : ∀ t ∈ ts, t.tx.size ≤ 140737488355328) : Calls Try.prog 8 #[.string nm, v, .bool im] W fun e w' => e = .returned (.bool true) ∧ Below W.heap.size W w' := by
  have HV := hid_mk hv
  have HSZ := hid_mk hsz
  have HL : Hid (∀ w, Calls Try.prog 9 #[] w fun e w' => e = .returned (.bool true) ∧ Below w.heap.size w w') := lives_any
  obtain ⟨a, cap, rfl, hl, hcap, -⟩ := hv
  clear hsz
  by_cases hA : 200 < nm.size ∨ 500 < ts.length ∨ nm.toList = []
  · have HC : Hid (∃ b1 b2 b3 : Bool, decide ((200 : Int) < (nm.size : Int)) = b1 ∧ decide ((500 : Int) < (ts.length : Int)) = b2 ∧ (nm.toList == ([] : List UInt8)) = b3 ∧ (b1 = true ∨ b1 = false ∧ b2 = true ∨ b1 = false ∧ b2 = false ∧ b3 = true)) := by
      refine ⟨_, _, _, rfl, rfl, rfl, ?_⟩
      by_cases h1 : 200 < nm.size
      · exact .inl (decide_eq_true (by omega))
      · by_cases h2 : 500 < ts.length
        · exact .inr (.inl ⟨decide_eq_false (by omega), decide_eq_true (by omega)⟩)
        · exact .inr (.inr ⟨decide_eq_false (by omega), decide_eq_false (by omega), by
            rcases hA with h | h | h
            · exact absurd h h1
            · exact absurd h h2
            · rw [h]; rfl⟩)
    obtain ⟨b1, b2, b3, z1, z2, z3, hc⟩ := HC.out
    clear HC hA
    rcases hc with rfl | ⟨rfl, rfl⟩ | ⟨rfl, rfl, rfl⟩
    all_goals
      go_enter Try.func8, Try.ntmps8
      go_wp2_with (go_at_call 9; fail)
      refine (HL.out _).mono ?_
      rintro e w' ⟨rfl, hb⟩
      go_wp2
      go_ret
      exact ⟨rfl, hb⟩
  · have z1 : decide ((200 : Int) < (nm.size : Int)) = false := decide_eq_false (by omega)
    have z2 : decide ((500 : Int) < (ts.length : Int)) = false := decide_eq_false (by omega)
    have z3 : (nm.toList == ([] : List UInt8)) = false := by
      cases hn : nm.toList
      · exact absurd (.inr (.inr hn)) hA
      · rfl
    have hn1 : nm.size ≤ 200 := by omega
    have hn2 : ts.length ≤ 500 := by omega
    have H11 := hid_mk (values_any HV.out (by omega))
    have HM := hid_mk (vals_most (ts := ts) (by omega))
    have HML := hid_mk (vals_len ts)
    have HME : Hid (∀ y ∈ trimZ (valsZ ts), y.tok.tx.size ≤ 140737488355328) := fun y hy => HSZ.out _ (vals_mem ts y (trim_sub _ y hy))
    have HTL := hid_mk (trim_len (valsZ ts))
    have HW := hid_mk (fun nm im => written_read nm (valsZ ts) im)
    clear hA HSZ HV
    generalize valsZ ts = vs at *
    go_enter Try.func8, Try.ntmps8
    go_wp2_with (go_at_call 11; fail)
    refine H11.out.mono ?_
    rintro e w1 ⟨o1, rfl, ho1, hb1⟩
    have h22 := ptrim_any ho1 HM.out
    obtain ⟨a1, c1, rfl, _, _⟩ := ho1.slice
    have HB1 := hid_mk hb1
    clear H11 ho1 hb1
    go_wp2_with (go_at_call 22; fail)
    refine h22.mono ?_
    rintro e w2 ⟨o2, rfl, ho2, hb2⟩
    have HB2 : Hid (Below W.heap.size W w2) := HB1.out.trans (hb2.mono HB1.out.size)
    have HO2 := hid_mk ho2
    obtain ⟨a2, c2, rfl, hc1, hc2⟩ := ho2.slice
    have HTM := hid_mk (trim_most HM.out)
    clear h22 ho2 hb2 HB1 HM
    have hln : (trimZ vs).length ≤ 1000 := by have := HTL.out; have := HML.out; omega
    generalize trimZ vs = tv at *
    go_wp2
    go_loopw [30] (fun a30 wr => ∃ (k : Nat), a30 = .int .i64 k ∧ k ≤ tv.length ∧ (∀ x ∈ tv.take k, hasZ [17] x.tok.k = false ∧ isBang x = false) ∧ Below w2.heap.size w2 wr) (fun a30 _ => tv.length + 1 - (intOf a30).toNat)
    case atStart => exact ⟨0, rfl, Nat.zero_le _, by simp, Below.refl _ _⟩
    case round =>
      obtain ⟨k, rfl, hk, hno, hB⟩ := hrel
      by_cases hlt : k < tv.length
      · obtain ⟨_, _, _, hcs⟩ := HO2.out.cells
        obtain ⟨b, off, kv, rfl, hb, hc', hr'⟩ := hcs k hlt
        have hq := fun j y hy => (hB.cell (p := ⟨b, off + k * 6 + j, none⟩) hb).trans (hc' j y hy)
        have hbx : b < wr.heap.size := Nat.lt_of_lt_of_le hb hB.size
        obtain ⟨x1, c1, e1, _, _⟩ := hr'.slice
        rw [e1] at hq
        have HNX : Hid (hasZ [17] (tv[k]'hlt).tok.k = false → isBang (tv[k]'hlt) = false → ∀ x ∈ tv.take (k + 1), hasZ [17] x.tok.k = false ∧ isBang x = false) := fun h1 h2 x hx => by
          rw [List.take_succ_eq_append_getElem hlt] at hx
          rcases List.mem_append.1 hx with hx | hx
          · exact hno x hx
          · rw [List.mem_singleton.1 hx]
            exact ⟨h1, h2⟩
        have hib : isBang (tv[k]'hlt) = (hasZ [9] (tv[k]'hlt).tok.k && (tv[k]'hlt).tok.tx.toList == ([33] : List UInt8)) := rfl
        rw [hib] at HNX
        clear hib hcs
        generalize (tv[k]'hlt).tok = t at *
        generalize (tv[k]'hlt).kids.length = kn at *
        obtain ⟨tk, tx, un, wh, fl⟩ := t
        have q0 : wr.cell? ⟨b, off + k * 6, none⟩ = some (.int .i64 tk) := hq 0 _ rfl
        have q1 : wr.cell? ⟨b, off + k * 6 + 1, none⟩ = some (.string tx) := hq 1 _ rfl
        have q2 : wr.cell? ⟨b, off + k * 6 + 2, none⟩ = some (.string un) := hq 2 _ rfl
        have q3 : wr.cell? ⟨b, off + k * 6 + 3, none⟩ = some (.bool wh) := hq 3 _ rfl
        have q4 : wr.cell? ⟨b, off + k * 6 + 4, none⟩ = some (.bool fl) := hq 4 _ rfl
        have q5 : wr.cell? ⟨b, off + k * 6 + 5, none⟩ = some (.slice x1 kn c1) := hq 5 _ rfl
        have HBA : Hid (∀ o, Below w2.heap.size w2 (wr.alloc o)) := fun o => hB.trans (((Below.refl _ wr).alloc (Nat.le_refl _) o).mono hB.size)
        have HWA : Hid (∀ o, Below W.heap.size W (wr.alloc o)) := fun o => HB2.out.trans ((HBA.out o).mono HB2.out.size)
        clear hq hno hB hc' hr' e1
        by_cases h17 : tk = 17
        · have z4 : (tk == 17) = true := by simpa using h17
          clear HNX h17
          go_wp2_with (go_at_call 9; fail)
          refine (HL.out _).mono ?_
          rintro e w' ⟨rfl, hb9⟩
          have HB9 : Hid (Below W.heap.size W w') := (HWA.out _).trans (hb9.mono (HWA.out _).size)
          clear hb9 q0 q1 q2 q3 q4 q5
          go_wp2
          go_ret
          exact ⟨rfl, HB9.out⟩
        · have z4 : (tk == 17) = false := by simpa using h17
          have HH : Hid (hasZ [17] tk = false) := by show _ = _; simpa [hasZ] using h17
          by_cases h9 : tk = 9
          · have z5 : (tk == 9) = true := by simpa using h9
            cases z6 : (tx.toList == ([33] : List UInt8)) with
            | true =>
              clear HNX h17 h9
              go_wp2_with (go_at_call 9; fail)
              refine (HL.out _).mono ?_
              rintro e w' ⟨rfl, hb9⟩
              have HB9 : Hid (Below W.heap.size W w') := (HWA.out _).trans (hb9.mono (HWA.out _).size)
              clear hb9 q0 q1 q2 q3 q4 q5
              go_wp2
              go_ret
              exact ⟨rfl, HB9.out⟩
            | false =>
              have HN2 := hid_mk (HNX.out HH.out (by rw [z6]; simp))
              clear HNX h17 h9
              go_wp2
              go_roundw
              case rel => exact ⟨k + 1, by go_num, by omega, HN2.out, HBA.out _⟩
              case measure => simp [intOf]; omega
          · have z5 : (tk == 9) = false := by simpa using h9
            have HN2 := hid_mk (HNX.out HH.out (by rw [show hasZ [9] tk = false by simpa [hasZ] using h9]; rfl))
            clear HNX h17 h9
            go_wp2
            go_roundw
            case rel => exact ⟨k + 1, by go_num, by omega, HN2.out, HBA.out _⟩
            case measure => simp [intOf]; omega
      · have e : tv.take k = tv := List.take_of_length_le (by omega)
        rw [e] at hno
        have HR := hid_mk (HW.out nm im (fun x hx => (hno x hx).1) (fun x hx => (hno x hx).2))
        have HOR := hid_mk (HO2.out.keep hB)
        have HBR : Hid (Below W.heap.size W wr) := HB2.out.trans (hB.mono HB2.out.size)
        clear hno hB HW HO2 HB2 e
        have hlit := World.ownsRow_lit (base := wr.heap.size) (e := 46) (size := 6) wr #[.int .i64 1, .string nm, .string ⟨#[]⟩, .bool false, .bool false, .slice none 0 0, .int .i64 16, .string ⟨#[]⟩, .string ⟨#[]⟩, .bool false, .bool false, .slice none 0 0] 2 (Nat.le_refl _) (by decide) rfl
        have hA3 : Below wr.heap.size wr (wr.alloc (.cells #[.int .i64 1, .string nm, .string ⟨#[]⟩, .bool false, .bool false, .slice none 0 0, .int .i64 16, .string ⟨#[]⟩, .string ⟨#[]⟩, .bool false, .bool false, .slice none 0 0] 46)) := (Below.refl _ wr).alloc (Nat.le_refl _) _
        have HROW : Hid (Row (fun _ => True) wr.heap.size (wr.alloc (.cells #[.int .i64 1, .string nm, .string ⟨#[]⟩, .bool false, .bool false, .slice none 0 0, .int .i64 16, .string ⟨#[]⟩, .string ⟨#[]⟩, .bool false, .bool false, .slice none 0 0] 46)) (.slice (some ⟨wr.heap.size, 0, none⟩) 2 2) (lit2 nm)) := by
          refine ⟨hlit, fun _ _ => trivial, fun p hp => ?_⟩
          simp [lit2] at hp
          rcases hp with rfl | rfl <;> exact VsAt.nil _ _
        have HSRC : Hid (VsAt (fun b => True ∧ (Value.slice (some ⟨wr.heap.size, 0, none⟩) 2 2).ownBlock ≠ some b) (wr.alloc (.cells #[.int .i64 1, .string nm, .string ⟨#[]⟩, .bool false, .bool false, .slice none 0 0, .int .i64 16, .string ⟨#[]⟩, .string ⟨#[]⟩, .bool false, .bool false, .slice none 0 0] 46)) (.slice a2 tv.length c2) tv) := by
          have h := HOR.out.wider (Q := fun b => b < wr.heap.size) (fun b _ hlt => hlt)
          exact (h.keep hA3).wider (fun b hb _ => ⟨trivial, by
            intro e
            have : wr.heap.size = b := Option.some.inj e
            omega⟩)
        have HA3 := hid_mk hA3
        have hn3 : (lit2 nm).length + tv.length ≤ 1000000 := by show 2 + tv.length ≤ 1000000; omega
        clear hlit hA3
        go_upto_region 11 with (at_builtin; go_must (refine wpList_append_row (ps := lit2 nm) (vs := tv) rfl _ _ rfl rfl rfl HROW.out HSRC.out hn3 HA3.out.size trivial ?_); intro v4 w4 qs hrow4 hq4 hg4)
        have HB4 : Hid (Below W.heap.size W w4) := by
          have h1 := HBR.out.trans (HA3.out.mono HBR.out.size)
          exact h1.grown hg4 h1.size (fun k hk => by
            have e : wr.heap.size = k := Option.some.inj hk
            have := HBR.out.size
            omega)
        have HK4 : Hid (VsAt (fun b => b < wr.heap.size) w4 (.slice a2 tv.length c2) tv) := by
          have h := (HOR.out.wider (Q := fun b => b < wr.heap.size) (fun b _ hlt => hlt)).keep HA3.out
          exact h.stay (W' := w4) hg4.size (fun b hb hlt => hg4.block b hlt (fun e => by
            have : wr.heap.size = b := Option.some.inj e.symm
            omega))
        have HROW4 := hid_mk hrow4
        have hql : qs.length = tv.length := by rw [← hq4, List.length_map]
        have HQ4 := hid_mk hq4
        clear hrow4 hg4 hq4 HROW HSRC HA3 hn3 HOR
        have HMW : Hid (V.most (written nm tv im) ∧ (∀ y ∈ written nm tv im, y.tok.tx.size ≤ 140737488355328) ∧ (written nm tv im).length ≤ 1000000) := by
          have hwm : ∀ y ∈ written nm tv im, y ∈ tv ∨ y.kids = [] ∧ y.tok.tx.size ≤ 1000 := by
            intro y hy
            rcases List.mem_cons.1 hy with rfl | hy
            · exact .inr ⟨rfl, Nat.le_trans hn1 (by decide)⟩
            · rcases List.mem_cons.1 hy with rfl | hy
              · exact .inr ⟨rfl, by decide⟩
              · rcases List.mem_append.1 hy with hy | hy
                · exact .inl hy
                · cases im
                  · simp at hy
                  · simp at hy
                    rcases hy with rfl | rfl
                    · exact .inr ⟨rfl, by decide⟩
                    · exact .inr ⟨rfl, by decide⟩
          have hwl : (written nm tv im).length ≤ tv.length + 4 := by
            unfold written
            cases im <;> simp
          refine ⟨.mk _ (by omega) (fun y hy => ?_), fun y hy => ?_, by omega⟩
          · rcases hwm y hy with h | h
            · exact HTM.out.kid h
            · rw [h.1]
              exact .mk _ (by simp) (fun x hx => by cases hx)
          · rcases hwm y hy with h | h
            · exact HME.out y h
            · exact Nat.le_trans h.2 (by decide)
        have hlq : (lit2 nm ++ qs).map mkV = plainT 1 nm :: plainT 16 ⟨#[]⟩ :: tv := by
          rw [List.map_append, HQ4.out]
          rfl
        have HLQ := hid_mk hlq
        clear hlq HME HTM HML HTL
        cases im
        · have HV5 : Hid (VsAt (fun _ => True) w4 v4 (written nm tv false)) := by
            show VsAt _ _ _ _
            have h := HROW4.out.vals
            rw [HLQ.out] at h
            simpa [written] using h
          clear HROW4 HLQ HQ4
          go_upto_region 13 with fail
          have HB5 := HB4
          have HK5 := HK4
          clear HB4 HK4
          have h20 := decls_any HV5.out HMW.out.1 HMW.out.2.1 HMW.out.2.2
          rw [HR.out] at h20
          clear HV5 HMW HR
          go_wp2_with (go_at_call 20; fail)
          refine h20.mono ?_
          rintro e w6 ⟨o6, ds, rfl, hrow, hds, hb6⟩
          obtain ⟨d0, rfl⟩ : ∃ d0, ds = [d0] := by
            rcases ds with _ | ⟨d0, _ | ⟨d1, r⟩⟩
            · simp at hds
            · exact ⟨d0, rfl⟩
            · simp at hds
          have hd0 : d0.said = _ := List.head_eq_of_cons_eq hds
          obtain ⟨g3, c3, rfl⟩ := ownsRow_succ (k := 0) hrow.1
          have y0 : w6.cell? ⟨g3, 0, none⟩ = some (.string d0.nm) := hrow.1.cellAt 0 (by decide)
          have y1 : w6.cell? ⟨g3, 1, none⟩ = some d0.v := hrow.1.cellAt 1 (by decide)
          have y2 : w6.cell? ⟨g3, 2, none⟩ = some (.bool d0.im) := hrow.1.cellAt 2 (by decide)
          have hg3 : g3 < w6.heap.size := (hrow.1.lt g3 rfl).2
          have hvv := hrow.2.2 d0 (by simp)
          obtain ⟨dn, dv, dvv, di⟩ := d0
          have e1 : dn = foldS nm := congrArg (fun x => x.1) hd0
          have e2 : dvv = tv := congrArg (fun x => x.2.1) hd0
          have e3 : di = _ := congrArg (fun x => x.2.2) hd0
          dsimp only at e3 y0 y1 y2 hvv
          subst e1 e2 e3
          obtain ⟨ab, cb, rfl, _, _⟩ := hvv.slice
          have hB6 : Below W.heap.size W w6 := HB5.out.trans (hb6.mono HB5.out.size)
          have HK6 := hid_mk (HK5.out.keep hb6)
          have HVV := hid_mk hvv
          have HF : Hid (∀ w', Below w6.heap.size w6 w' → w'.cell? ⟨g3, 0, none⟩ = some (.string (foldS nm)) ∧ w'.cell? ⟨g3, 1, none⟩ = some (.slice ab dvv.length cb) ∧ w'.cell? ⟨g3, 2, none⟩ = some (.bool false)) := fun w' g => ⟨(g.cell (p := ⟨g3, 0, none⟩) hg3).trans y0, (g.cell (p := ⟨g3, 1, none⟩) hg3).trans y1, (g.cell (p := ⟨g3, 2, none⟩) hg3).trans y2⟩
          have H26 : Hid (∀ w', Below w6.heap.size w6 w' → Calls Try.prog 26 #[.string nm] w' fun e w'' => e = .returned (.string (foldS nm)) ∧ Below w6.heap.size w6 w'') := fun w' g => (refFold_any nm w' (by omega)).mono (fun e w'' h => ⟨h.1, g.trans (h.2.mono g.size)⟩)
          have H24 : Hid (∀ w', Below w6.heap.size w6 w' → Calls Try.prog 24 #[.slice ab dvv.length cb, .slice a2 dvv.length c2] w' fun e w'' => e = .returned (.bool true) ∧ Below w6.heap.size w6 w'') := fun w' g => (psame_any (HVV.out.keep g) _ _ (HK6.out.keep g) w' (Below.refl _ _) true (by simp)).mono (fun e w'' h => ⟨h.1, g.trans (h.2.mono g.size)⟩)
          have H9 : Hid (∀ w', Below w6.heap.size w6 w' → Calls Try.prog 9 #[] w' fun e w'' => e = .returned (.bool true) ∧ Below w6.heap.size w6 w'') := fun w' g => (HL.out w').mono (fun e w'' h => ⟨h.1, g.trans (h.2.mono g.size)⟩)
          have gd : Below w6.heap.size w6 w6.drew := below_drewN5 _ _ 1
          have z9 : ((foldS nm).toList == (foldS nm).toList) = true := by simp
          generalize foldS nm = fn at *
          clear h20 hrow hds hvv hd0 hb6 HK5 HB5 y0 y1 y2 HK6 HVV HL
          go_wp2
          go_region_held3 (fun w' => w'.cell? ⟨g3, 0, none⟩ = some (.string fn) ∧ w'.cell? ⟨g3, 1, none⟩ = some (.slice ab dvv.length cb) ∧ w'.cell? ⟨g3, 2, none⟩ = some (.bool false)) (exact HF.out _ (by assumption)) (first
            | (go_at_call 26; refine (H26.out _ ?_).mono ?_; assumption; rintro e w7 ⟨rfl, g7⟩)
            | (go_at_call 24; refine (H24.out _ ?_).mono ?_; assumption; rintro e w8 ⟨rfl, g8⟩)
            | (go_at_call 9; refine (H9.out _ ?_).mono ?_; assumption; rintro e w9 ⟨rfl, g9⟩))
          all_goals
            have HBF : Hid (Below W.heap.size W w9) := hB6.trans (g9.mono hB6.size)
            clear H26 H24 H9 HF gd hB6
            go_wp2
            go_ret
            exact ⟨rfl, HBF.out⟩
        · have hlit := World.ownsRow_lit (base := w4.heap.size) (e := 46) (size := 6) w4 #[.int .i64 9, .string ⟨#[33]⟩, .string ⟨#[]⟩, .bool false, .bool false, .slice none 0 0, .int .i64 1, .string ⟨#[73, 77, 80, 79, 82, 84, 65, 78, 84]⟩, .string ⟨#[]⟩, .bool false, .bool false, .slice none 0 0] 2 (Nat.le_refl _) (by decide) rfl
          have hA5 : Below w4.heap.size w4 (w4.alloc (.cells #[.int .i64 9, .string ⟨#[33]⟩, .string ⟨#[]⟩, .bool false, .bool false, .slice none 0 0, .int .i64 1, .string ⟨#[73, 77, 80, 79, 82, 84, 65, 78, 84]⟩, .string ⟨#[]⟩, .bool false, .bool false, .slice none 0 0] 46)) := (Below.refl _ w4).alloc (Nat.le_refl _) _
          have hlb : Row (fun b => w4.heap.size ≤ b) w4.heap.size (w4.alloc (.cells #[.int .i64 9, .string ⟨#[33]⟩, .string ⟨#[]⟩, .bool false, .bool false, .slice none 0 0, .int .i64 1, .string ⟨#[73, 77, 80, 79, 82, 84, 65, 78, 84]⟩, .string ⟨#[]⟩, .bool false, .bool false, .slice none 0 0] 46)) (.slice (some ⟨w4.heap.size, 0, none⟩) 2 2) litB := by
            refine ⟨hlit, fun g hg => by have : w4.heap.size = g := Option.some.inj hg; omega, fun p hp => ?_⟩
            simp [litB] at hp
            rcases hp with rfl | rfl <;> exact VsAt.nil _ _
          have HLB : Hid (VsAt (fun b => True ∧ v4.ownBlock ≠ some b) (w4.alloc (.cells #[.int .i64 9, .string ⟨#[33]⟩, .string ⟨#[]⟩, .bool false, .bool false, .slice none 0 0, .int .i64 1, .string ⟨#[73, 77, 80, 79, 82, 84, 65, 78, 84]⟩, .string ⟨#[]⟩, .bool false, .bool false, .slice none 0 0] 46)) (.slice (some ⟨w4.heap.size, 0, none⟩) 2 2) [bangV, impV]) := by
            have h : VsAt _ _ _ [bangV, impV] := hlb.vals
            exact h.wider (fun b hb _ => ⟨trivial, fun e => by
              have := (HROW4.out.1.lt b e).2
              omega⟩)
          have HR5 := hid_mk (HROW4.out.keep hA5)
          have HA5 := hid_mk hA5
          have hn5 : (lit2 nm ++ qs).length + [bangV, impV].length ≤ 1000000 := by
            rw [List.length_append, hql]
            show 2 + tv.length + 2 ≤ 1000000
            omega
          have hwr4 : wr.heap.size ≤ w4.heap.size := by
            have := HROW4.out.1
            rcases HROW4.out.1.2 with ⟨_, h0⟩ | ⟨g, _, _, rfl, hg, _⟩
            · simp [lit2] at h0
            · have := HROW4.out.1.lt g rfl
              omega
          clear hlb hlit hA5
          go_upto_region 13 with (at_builtin; go_must (refine wpList_append_row (ps := lit2 nm ++ qs) (vs := [bangV, impV]) rfl _ _ rfl rfl rfl HR5.out HLB.out hn5 (Nat.le_trans hwr4 HA5.out.size) trivial ?_); intro v5 w5 rs hrow5 hq5 hg5)
          have HV5 : Hid (VsAt (fun _ => True) w5 v5 (written nm tv true)) := by
            show VsAt _ _ _ _
            have h := hrow5.vals
            rw [List.map_append, HLQ.out, hq5] at h
            exact h
          have HB5 : Hid (Below W.heap.size W w5) := by
            have h1 := HB4.out.trans (HA5.out.mono HB4.out.size)
            exact h1.grown hg5 h1.size (fun k hk => by
              have := (HR5.out.1.lt k hk).1
              have := HBR.out.size
              omega)
          have HK5 : Hid (VsAt (fun b => b < wr.heap.size) w5 (.slice a2 tv.length c2) tv) := by
            have h := HK4.out.keep HA5.out
            exact h.stay (W' := w5) hg5.size (fun b hb hlt => hg5.block b hlt (fun e => by
              have := (HR5.out.1.lt b e.symm).1
              omega))
          clear hrow5 hq5 hg5 HR5 HLB HA5 hn5 hwr4 HROW4 HLQ HQ4 HB4 HK4
          have h20 := decls_any HV5.out HMW.out.1 HMW.out.2.1 HMW.out.2.2
          rw [HR.out] at h20
          clear HV5 HMW HR
          go_wp2_with (go_at_call 20; fail)
          refine h20.mono ?_
          rintro e w6 ⟨o6, ds, rfl, hrow, hds, hb6⟩
          obtain ⟨d0, rfl⟩ : ∃ d0, ds = [d0] := by
            rcases ds with _ | ⟨d0, _ | ⟨d1, r⟩⟩
            · simp at hds
            · exact ⟨d0, rfl⟩
            · simp at hds
          have hd0 : d0.said = _ := List.head_eq_of_cons_eq hds
          obtain ⟨g3, c3, rfl⟩ := ownsRow_succ (k := 0) hrow.1
          have y0 : w6.cell? ⟨g3, 0, none⟩ = some (.string d0.nm) := hrow.1.cellAt 0 (by decide)
          have y1 : w6.cell? ⟨g3, 1, none⟩ = some d0.v := hrow.1.cellAt 1 (by decide)
          have y2 : w6.cell? ⟨g3, 2, none⟩ = some (.bool d0.im) := hrow.1.cellAt 2 (by decide)
          have hg3 : g3 < w6.heap.size := (hrow.1.lt g3 rfl).2
          have hvv := hrow.2.2 d0 (by simp)
          obtain ⟨dn, dv, dvv, di⟩ := d0
          have e1 : dn = foldS nm := congrArg (fun x => x.1) hd0
          have e2 : dvv = tv := congrArg (fun x => x.2.1) hd0
          have e3 : di = _ := congrArg (fun x => x.2.2) hd0
          dsimp only at e3 y0 y1 y2 hvv
          subst e1 e2 e3
          obtain ⟨ab, cb, rfl, _, _⟩ := hvv.slice
          have hB6 : Below W.heap.size W w6 := HB5.out.trans (hb6.mono HB5.out.size)
          have HK6 := hid_mk (HK5.out.keep hb6)
          have HVV := hid_mk hvv
          have HF : Hid (∀ w', Below w6.heap.size w6 w' → w'.cell? ⟨g3, 0, none⟩ = some (.string (foldS nm)) ∧ w'.cell? ⟨g3, 1, none⟩ = some (.slice ab dvv.length cb) ∧ w'.cell? ⟨g3, 2, none⟩ = some (.bool true)) := fun w' g => ⟨(g.cell (p := ⟨g3, 0, none⟩) hg3).trans y0, (g.cell (p := ⟨g3, 1, none⟩) hg3).trans y1, (g.cell (p := ⟨g3, 2, none⟩) hg3).trans y2⟩
          have H26 : Hid (∀ w', Below w6.heap.size w6 w' → Calls Try.prog 26 #[.string nm] w' fun e w'' => e = .returned (.string (foldS nm)) ∧ Below w6.heap.size w6 w'') := fun w' g => (refFold_any nm w' (by omega)).mono (fun e w'' h => ⟨h.1, g.trans (h.2.mono g.size)⟩)
          have H24 : Hid (∀ w', Below w6.heap.size w6 w' → Calls Try.prog 24 #[.slice ab dvv.length cb, .slice a2 dvv.length c2] w' fun e w'' => e = .returned (.bool true) ∧ Below w6.heap.size w6 w'') := fun w' g => (psame_any (HVV.out.keep g) _ _ (HK6.out.keep g) w' (Below.refl _ _) true (by simp)).mono (fun e w'' h => ⟨h.1, g.trans (h.2.mono g.size)⟩)
          have H9 : Hid (∀ w', Below w6.heap.size w6 w' → Calls Try.prog 9 #[] w' fun e w'' => e = .returned (.bool true) ∧ Below w6.heap.size w6 w'') := fun w' g => (HL.out w').mono (fun e w'' h => ⟨h.1, g.trans (h.2.mono g.size)⟩)
          have gd : Below w6.heap.size w6 w6.drew := below_drewN5 _ _ 1
          have z9 : ((foldS nm).toList == (foldS nm).toList) = true := by simp
          generalize foldS nm = fn at *
          clear h20 hrow hds hvv hd0 hb6 HK5 HB5 y0 y1 y2 HK6 HVV HL
          go_wp2
          go_region_held3 (fun w' => w'.cell? ⟨g3, 0, none⟩ = some (.string fn) ∧ w'.cell? ⟨g3, 1, none⟩ = some (.slice ab dvv.length cb) ∧ w'.cell? ⟨g3, 2, none⟩ = some (.bool true)) (exact HF.out _ (by assumption)) (first
            | (go_at_call 26; refine (H26.out _ ?_).mono ?_; assumption; rintro e w7 ⟨rfl, g7⟩)
            | (go_at_call 24; refine (H24.out _ ?_).mono ?_; assumption; rintro e w8 ⟨rfl, g8⟩)
            | (go_at_call 9; refine (H9.out _ ?_).mono ?_; assumption; rintro e w9 ⟨rfl, g9⟩))
          all_goals
            have HBF : Hid (Below W.heap.size W w9) := hB6.trans (g9.mono hB6.size)
            clear H26 H24 H9 HF gd hB6
            go_wp2
            go_ret
            exact ⟨rfl, HBF.out⟩

end Go.Proofs.Ytihdiaklhkecmaa
