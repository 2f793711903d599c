/- gouacheref03.Trim of any values; gouacheref03.Same of any two. gouacheref03.decl of any values. gouacheref03.Decls of any values. gouachelaw03.ParseDecls: the walk. -/
import Derived.Test.YtihdiaklhkecmaaRRules
import Derived.Deep.CutBlock
import Derived.Deep.DeepCutAuto
namespace Go.Proofs.Ytihdiaklhkecmaa
open Go.RowKit
set_option maxRecDepth 100000

theorem space_eq (x : V) : spaceV x = (x.tok.k == 13) := by
  unfold spaceV hasZ
  simp
  rfl
set_option maxHeartbeats 1000000 in
theorem rtrim_any {P : Nat → Prop} {w : World} {v : Value} {vs : List V} (hv : VsAt P w v vs) (hn : vs.length ≤ 100000) :
    Calls Try.prog 23 #[v] w fun e w' => ∃ out, e = .returned out ∧ VsAt (fun b => P b ∨ w.heap.size ≤ b) w' out (trimZ vs) ∧ Below w.heap.size w w' := by
  have HV := hid_mk hv
  obtain ⟨a, cap, rfl, hl, hcap⟩ := hv.slice
  clear hv
  go_enter Try.func23, Try.ntmps23
  go_upto_block 0 with fail
  go_cut [0] (fun a0 wx => VsAt P w a0 (vs.dropWhile spaceV) ∧ Below w.heap.size w wx)
  case first =>
    go_wp2_with fail
    go_loopw [0] (fun a0 wr => ∃ (us : List V), VsAt P w a0 us ∧ us.length ≤ vs.length ∧ Hid (vs.dropWhile spaceV = us.dropWhile spaceV) ∧ Below w.heap.size w wr) (fun a0 _ => sliceLen a0)
    case atStart => exact ⟨vs, HV.out, Nat.le_refl _, (rfl : _ = _), Below.refl _ _⟩
    case round =>
      obtain ⟨us, hus, hul, hE, hB⟩ := hrel
      cases us with
      | nil =>
        obtain ⟨a0, c0, rfl, _, _⟩ := hus.slice
        have HUS := hid_mk hus
        have HW := hE.out
        rw [List.dropWhile_nil] at HW
        have HW2 := hid_mk HW
        clear hus HW hE HV
        go_wp2_with fail
        go_meet
        exact ⟨by rw [HW2.out]; exact HUS.out, hB⟩
      | cons x r =>
        obtain ⟨a0, c0, rfl, hl0, hc0⟩ := hus.slice
        have HUS := hid_mk hus
        obtain ⟨_, _, _, hcs⟩ := hus.cells
        obtain ⟨b, off, kv, rfl, hbl, hcc, hkid⟩ := hcs 0 (by simp)
        have hq := fun j y hy => (hB.cell (p := ⟨b, off + 0 * 6 + j, none⟩) hbl).trans (hcc j y hy)
        simp only [Nat.zero_mul, Nat.add_zero, List.getElem_cons_zero] at hq hkid
        obtain ⟨⟨tk, tx, un, wh, fl⟩, xk⟩ := x
        obtain ⟨ka, kc, rfl, _, _⟩ := hkid.slice
        generalize (V.mk ⟨tk, tx, un, wh, fl⟩ xk).kids.length = kn at *
        have q0 : wr.cell? ⟨b, off, none⟩ = some (.int .i64 tk) := hq 0 _ rfl
        have q1 : wr.cell? ⟨b, off + 1, none⟩ = some (.string tx) := hq 1 _ rfl
        have q2 : wr.cell? ⟨b, off + 2, none⟩ = some (.string un) := hq 2 _ rfl
        have q3 : wr.cell? ⟨b, off + 3, none⟩ = some (.bool wh) := hq 3 _ rfl
        have q4 : wr.cell? ⟨b, off + 4, none⟩ = some (.bool fl) := hq 4 _ rfl
        have q5 : wr.cell? ⟨b, off + 5, none⟩ = some (.slice ka kn kc) := hq 5 _ rfl
        have hc2 := ris_any wr tk tx un wh fl (.slice ka kn kc) 13
        have HE := hE.out
        rw [List.dropWhile_cons, show spaceV (V.mk ⟨tk, tx, un, wh, fl⟩ xk) = (tk == 13) from space_eq _] at HE
        have HE2 := hid_mk HE
        rw [List.length_cons] at hul hl0
        generalize (tk == 13) = y at *
        have HB := hid_mk hB
        clear hE HE hcs hcc hq hkid hB hus HV
        simp only [List.length_cons]
        go_wp2_with (go_at_call 36; fail)
        refine hc2.mono ?_
        rintro e w' ⟨rfl, hB2⟩
        have HB2 : Hid (Below w.heap.size w w') := HB.out.trans (hB2.mono HB.out.size)
        clear hc2 q0 q1 q2 q3 q4 q5 hB2
        cases y with
        | true =>
          have HR : Hid (vs.dropWhile spaceV = r.dropWhile spaceV) := by
            show _ = _
            rw [HE2.out, if_pos rfl]
          clear HE2
          go_wp2
          all_goals
            go_roundw
            case rel => exact ⟨r, HUS.out.dropO 1 (by simp) (by simp) rfl (fun h => by simp only [List.length_cons] at h; rw [if_neg (by omega)]), by omega, HR.out, HB2.out⟩
            case measure => simp [sliceLen]
        | false =>
          have HR : Hid (vs.dropWhile spaceV = V.mk ⟨tk, tx, un, wh, fl⟩ xk :: r) := by
            show _ = _
            rw [HE2.out, if_neg (by decide)]
          clear HE2
          go_wp2_with fail
          go_meet
          exact ⟨by rw [HR.out]; exact HUS.out, HB2.out⟩
  case rest =>
  obtain ⟨hu1, hB1⟩ := hcut
  have HU1 := hid_mk hu1
  have HB1 := hid_mk hB1
  have hl1 : (vs.dropWhile spaceV).length ≤ vs.length := (List.dropWhile_sublist spaceV (l := vs)).length_le
  have HTZ : Hid (trimZ vs = aheadZ (vs.dropWhile spaceV)) := (rfl : _ = _)
  obtain ⟨a1, c1, rfl, _, _⟩ := hu1.slice
  clear hu1 hB1 HV
  generalize vs.dropWhile spaceV = vs1 at *
  go_upto_block 2 with fail
  go_cut [0] (fun a0 wx => VsAt P w a0 (aheadZ vs1) ∧ Below w.heap.size w wx)
  case first =>
    go_wp2_with fail
    go_loopw [0] (fun a0 wr => ∃ (us : List V), VsAt P w a0 us ∧ us.length ≤ vs1.length ∧ Hid (aheadZ vs1 = aheadZ us) ∧ Below w.heap.size w wr) (fun a0 _ => sliceLen a0)
    case atStart => exact ⟨vs1, HU1.out, Nat.le_refl _, (rfl : _ = _), HB1.out⟩
    case round =>
      obtain ⟨us, hus, hul, hE, hB⟩ := hrel
      rcases List.eq_nil_or_concat us with rfl | ⟨r, x, rfl⟩
      · obtain ⟨a0, c0, rfl, _, _⟩ := hus.slice
        have HUS := hid_mk hus
        have HW := hE.out
        rw [aheadZ_nil] at HW
        have HW2 := hid_mk HW
        clear hus HW hE HU1
        go_wp2_with fail
        go_meet
        exact ⟨by rw [HW2.out]; exact HUS.out, hB⟩
      · rw [List.concat_eq_append] at hus hul hE
        obtain ⟨a0, c0, rfl, hl0, hc0⟩ := hus.slice
        have HUS := hid_mk hus
        obtain ⟨_, _, _, hcs⟩ := hus.cells
        have hll : (r ++ [x]).length = r.length + 1 := by simp
        obtain ⟨b, off, kv, rfl, hbl, hcc, hkid⟩ := hcs r.length (by omega)
        have hq := fun j y hy => (hB.cell (p := ⟨b, off + r.length * 6 + j, none⟩) hbl).trans (hcc j y hy)
        have hgx : (r ++ [x])[r.length]'(by omega) = x := by simp
        rw [hgx] at hq hkid
        obtain ⟨⟨tk, tx, un, wh, fl⟩, xk⟩ := x
        obtain ⟨ka, kc, rfl, _, _⟩ := hkid.slice
        generalize (V.mk ⟨tk, tx, un, wh, fl⟩ xk).kids.length = kn at *
        have q0 : wr.cell? ⟨b, off + r.length * 6, none⟩ = some (.int .i64 tk) := hq 0 _ rfl
        have q1 : wr.cell? ⟨b, off + r.length * 6 + 1, none⟩ = some (.string tx) := hq 1 _ rfl
        have q2 : wr.cell? ⟨b, off + r.length * 6 + 2, none⟩ = some (.string un) := hq 2 _ rfl
        have q3 : wr.cell? ⟨b, off + r.length * 6 + 3, none⟩ = some (.bool wh) := hq 3 _ rfl
        have q4 : wr.cell? ⟨b, off + r.length * 6 + 4, none⟩ = some (.bool fl) := hq 4 _ rfl
        have q5 : wr.cell? ⟨b, off + r.length * 6 + 5, none⟩ = some (.slice ka kn kc) := hq 5 _ rfl
        have hc2 := ris_any wr tk tx un wh fl (.slice ka kn kc) 13
        have HE := hE.out
        rw [aheadZ_snoc, show spaceV (V.mk ⟨tk, tx, un, wh, fl⟩ xk) = (tk == 13) from space_eq _] at HE
        have HE2 := hid_mk HE
        have HTK : Hid ((r ++ [V.mk ⟨tk, tx, un, wh, fl⟩ xk]).take r.length = r) := by show _ = _; simp
        rw [hll] at hul hl0
        rw [hll]
        generalize (tk == 13) = y at *
        have HB := hid_mk hB
        clear hE HE hcs hcc hq hkid hB hus HU1 hgx
        go_wp2_with (go_at_call 36; fail)
        refine hc2.mono ?_
        rintro e w' ⟨rfl, hB2⟩
        have HB2 : Hid (Below w.heap.size w w') := HB.out.trans (hB2.mono HB.out.size)
        clear hc2 q0 q1 q2 q3 q4 q5 hB2
        cases y with
        | true =>
          have HR : Hid (aheadZ vs1 = aheadZ r) := by
            show _ = _
            rw [HE2.out, if_pos rfl]
          have HT := HUS.out.take r.length (by omega)
          rw [HTK.out] at HT
          have HT2 := hid_mk HT
          clear HE2 HT
          go_wp2
          go_roundw
          case rel => exact ⟨r, HT2.out, by omega, HR.out, HB2.out⟩
          case measure => simp [sliceLen]
        | false =>
          have HR : Hid (aheadZ vs1 = r ++ [V.mk ⟨tk, tx, un, wh, fl⟩ xk]) := by
            show _ = _
            rw [HE2.out, if_neg (by decide)]
          have HU := HUS.out
          rw [hll] at HU
          have HU2 := hid_mk HU
          clear HE2 HU
          go_wp2_with fail
          go_meet
          exact ⟨by rw [HR.out]; exact HU2.out, HB2.out⟩
  case rest =>
  obtain ⟨hu2, hB2⟩ := hcut
  have hl2 := aheadZ_le vs1
  obtain ⟨a2, c2, rfl, _, _⟩ := hu2.slice
  have gl : Below wc.heap.size wc (wc.alloc (.cells #[] 46)) := (Below.refl _ wc).alloc (Nat.le_refl _) _
  have hws := hB2.size
  have HR0 : Hid (Row (fun b => P b ∨ w.heap.size ≤ b) wc.heap.size (wc.alloc (.cells #[] 46)) (.slice (some ⟨wc.heap.size, 0, none⟩) 0 0) []) :=
    ⟨World.ownsRow_lit (base := wc.heap.size) (e := 46) (size := 6) wc #[] 0 (Nat.le_refl _) (by decide) rfl, fun g hg => by have : wc.heap.size = g := Option.some.inj hg; exact .inr (by omega), fun p hp => by cases hp⟩
  have HPN : Hid (P (wc.alloc (.cells #[] 46)).heap.size ∨ w.heap.size ≤ (wc.alloc (.cells #[] 46)).heap.size) := .inr (by have := gl.size; omega)
  have HS0 : Hid (VsAt (fun b => (P b ∨ w.heap.size ≤ b) ∧ (Value.slice (some ⟨wc.heap.size, 0, none⟩) 0 0).ownBlock ≠ some b) (wc.alloc (.cells #[] 46)) (.slice a2 (aheadZ vs1).length c2) (aheadZ vs1)) :=
    (((hu2.keep hB2).wider (Q := fun b => P b ∧ b < wc.heap.size) (fun b hp h => ⟨hp, h⟩)).keep gl).wider (fun b hb _ => ⟨.inl hb.1, fun e => by have : wc.heap.size = b := Option.some.inj e; omega⟩)
  have hn0 : ([] : List (T5 × Value × List V)).length + (aheadZ vs1).length ≤ 1000000 := by simp; omega
  have HB2 := hid_mk hB2
  clear hu2 hB2 HU1 HB1
  generalize aheadZ vs1 = vs2 at *
  go_wp2_with (at_builtin; go_must (refine wpList_append_row (P := fun b => P b ∨ w.heap.size ≤ b) (ps := []) (vs := vs2) rfl _ _ rfl rfl rfl HR0.out HS0.out hn0 gl.size HPN.out ?_); intro v8 w8 qs8 hrow8 hq8 hg8; have hv8 := hrow8.vals; rw [List.map_append, List.map_nil, List.nil_append, hq8] at hv8; obtain ⟨a8, c8, rfl, _, _⟩ := hv8.slice)
  have g8 := bgrown gl hg8 (fun j e => by have : wc.heap.size = j := Option.some.inj e; omega)
  have HB8 : Hid (Below w.heap.size w w8) := HB2.out.trans (g8.mono HB2.out.size)
  have HV8 := hid_mk hv8
  clear hrow8 hq8 hg8 g8 hv8 HR0 HS0 gl
  go_ret
  exact ⟨_, rfl, by rw [HTZ.out]; exact HV8.out, HB8.out⟩

set_option maxHeartbeats 1000000 in
theorem rsame_any {P Q : Nat → Prop} {W : World} {v : Value} {vs : List V} (h : VsAt P W v vs) : ∀ u us, VsAt Q W u us → ∀ w, Below W.heap.size W w → ∀ p : Bool, (p = true ↔ vs = us) →
    Calls Try.prog 10 #[v, u] w fun e w' => e = .returned (.bool p) ∧ ∃ m, w' = w.drewN m := by
  induction h with
  | mk a cap vs b off kv h1 h2 ha hc hr ih =>
    intro u us hu w hw p hp
    obtain ⟨a', cap', rfl, h1', h2'⟩ := hu.slice
    obtain ⟨_, _, _, hu'⟩ := hu.cells
    have HA := hid_mk ha
    have HC := hid_mk hc
    have HR := hid_mk hr
    have HI := hid_mk ih
    have HU := hid_mk hu'
    have HW := hid_mk hw
    have HP := hid_mk hp
    clear hu ha hc hr ih hu' hw hp
    by_cases hle : vs.length = us.length
    · go_enter Try.func10, Try.ntmps10
      go_wp2
      go_loopw [13] (fun i wr => ∃ (k m : Nat), i = .int .i64 k ∧ wr = w.drewN m ∧ k ≤ vs.length ∧ vs.take k = us.take k) (fun i _ => vs.length + 1 - (intOf i).toNat)
      case atStart => exact ⟨0, 0, rfl, rfl, Nat.zero_le _, by simp⟩
      case round =>
        obtain ⟨k, m, rfl, rfl, hk, htk⟩ := hrel
        by_cases hlt : k < vs.length
        · have hlt' : k < us.length := by omega
          obtain ⟨rfl, hb, -⟩ := HA.out (by omega)
          obtain ⟨b', off', kv', rfl, hb', hc', hr'⟩ := HU.out k hlt'
          have hw := HW.out
          have ac := fun j y hy => (hw.cell (p := ⟨b, off + k * 6 + j, none⟩) hb).trans (HC.out k hlt j y hy)
          have bc := fun j y hy => (hw.cell (p := ⟨b', off' + k * 6 + j, none⟩) hb').trans (hc' j y hy)
          obtain ⟨q, hq⟩ : ∃ q : Bool, q = true ↔ (vs[k]'hlt).kids = (us[k]'hlt').kids := by
            classical exact ⟨decide ((vs[k]'hlt).kids = (us[k]'hlt').kids), decide_eq_true_iff⟩
          have hcall : ∀ n1 n2, Calls Try.prog 10 #[kv k, kv'] (w.drewN (n1 + n2)) fun e w'' => e = .returned (.bool q) ∧ ∃ n, w'' = w.drewN (n1 + n) := by
            intro n1 n2
            refine (HI.out k hlt kv' _ hr' _ (hw.trans (below_drewN5 _ _ (n1 + n2))) q hq).mono ?_
            rintro e w'' ⟨he, m', rfl⟩
            exact ⟨he, n2 + m', by rw [World.drewN_drewN, Nat.add_assoc]⟩
          have HQ : Hid ((vs[k]'hlt).tok = (us[k]'hlt').tok → q = true → vs.take (k + 1) = us.take (k + 1)) := fun h1 h2 => by
            rw [List.take_succ_eq_append_getElem hlt, List.take_succ_eq_append_getElem hlt', htk, (V.eq_iff _ _).2 ⟨h1, hq.1 h2⟩]
          have HN : Hid (((vs[k]'hlt).tok = (us[k]'hlt').tok → q = false) → p = false) := fun h => by
            cases p
            · rfl
            · have e := HP.out.1 rfl
              subst e
              have := h rfl
              rw [hq.2 rfl] at this
              cases this
          obtain ⟨x1, c1, e1, _, _⟩ := (HR.out k hlt).slice
          obtain ⟨x2, c2, e2, _, _⟩ := hr'.slice
          rw [e1] at ac hcall
          rw [e2] at bc hcall
          clear hq
          generalize (vs[k]'hlt).tok = t at *
          generalize (us[k]'hlt').tok = s at *
          generalize (vs[k]'hlt).kids.length = kn at *
          generalize (us[k]'hlt').kids.length = km at *
          obtain ⟨tk, tx, un, wh, fl⟩ := t
          obtain ⟨sk, sx, vn, xh, gl⟩ := s
          have a0 : w.cell? ⟨b, off + k * 6, none⟩ = some (.int .i64 tk) := ac 0 _ rfl
          have a1' : w.cell? ⟨b, off + k * 6 + 1, none⟩ = some (.string tx) := ac 1 _ rfl
          have a2' : w.cell? ⟨b, off + k * 6 + 2, none⟩ = some (.string un) := ac 2 _ rfl
          have a3 : w.cell? ⟨b, off + k * 6 + 3, none⟩ = some (.bool wh) := ac 3 _ rfl
          have a4 : w.cell? ⟨b, off + k * 6 + 4, none⟩ = some (.bool fl) := ac 4 _ rfl
          have a5 : w.cell? ⟨b, off + k * 6 + 5, none⟩ = some (.slice x1 kn c1) := ac 5 _ rfl
          have b0 : w.cell? ⟨b', off' + k * 6, none⟩ = some (.int .i64 sk) := bc 0 _ rfl
          have b1 : w.cell? ⟨b', off' + k * 6 + 1, none⟩ = some (.string sx) := bc 1 _ rfl
          have b2 : w.cell? ⟨b', off' + k * 6 + 2, none⟩ = some (.string vn) := bc 2 _ rfl
          have b3 : w.cell? ⟨b', off' + k * 6 + 3, none⟩ = some (.bool xh) := bc 3 _ rfl
          have b4 : w.cell? ⟨b', off' + k * 6 + 4, none⟩ = some (.bool gl) := bc 4 _ rfl
          have b5 : w.cell? ⟨b', off' + k * 6 + 5, none⟩ = some (.slice x2 km c2) := bc 5 _ rfl
          clear ac bc hc' hr' hw HA HC HR HI HU HW e1 e2 htk HP
          by_cases e0 : tk = sk
          · subst e0
            by_cases e1 : tx = sx
            · subst e1
              by_cases e2 : un = vn
              · subst e2
                by_cases e3 : wh = xh
                · subst e3
                  by_cases e4 : fl = gl
                  · subst e4
                    cases q
                    · have hpf := HN.out (fun _ => rfl)
                      subst hpf
                      clear HN HQ
                      go_wp2
                      go_quiet (first | (go_at_call 10; exact hcall _ _))
                      go_wp2
                      go_ret
                      exact ⟨rfl, _, World.drewN_drewN ..⟩
                    · have HT := hid_mk (HQ.out rfl rfl)
                      clear HN HQ
                      go_wp2
                      go_quiet (first | (go_at_call 10; exact hcall _ _))
                      go_wp2
                      go_roundw
                      case rel => exact ⟨k + 1, _, by go_num, rfl, by omega, HT.out⟩
                      case measure => simp [intOf]; omega
                  · have n2 : (fl == gl) = false := by simpa using e4
                    have hpf : p = false := HN.out (fun e => absurd (by injection e) e4)
                    subst hpf
                    clear HN HQ
                    go_wp2
                    go_quiet (fail)
                    go_wp2
                    go_ret
                    exact ⟨rfl, _, World.drewN_drewN ..⟩
                · have n2 : (wh == xh) = false := by simpa using e3
                  have hpf : p = false := HN.out (fun e => absurd (by injection e) e3)
                  subst hpf
                  clear HN HQ
                  go_wp2
                  go_quiet (fail)
                  go_wp2
                  go_ret
                  exact ⟨rfl, _, World.drewN_drewN ..⟩
              · have n1 : ¬un.toList = vn.toList := fun h => e2 (bytes_eq h)
                have n2 : (un.toList == vn.toList) = false := by simpa using n1
                have hpf : p = false := HN.out (fun e => absurd (by injection e) e2)
                subst hpf
                clear HN HQ
                go_wp2
                go_quiet (fail)
                go_wp2
                go_ret
                exact ⟨rfl, _, World.drewN_drewN ..⟩
            · have n1 : ¬tx.toList = sx.toList := fun h => e1 (bytes_eq h)
              have n2 : (tx.toList == sx.toList) = false := by simpa using n1
              have hpf : p = false := HN.out (fun e => absurd (by injection e) e1)
              subst hpf
              clear HN HQ
              go_wp2
              go_quiet (fail)
              go_wp2
              go_ret
              exact ⟨rfl, _, World.drewN_drewN ..⟩
          · have n2 : (tk == sk) = false := by simpa using e0
            have hpf : p = false := HN.out (fun e => absurd (by injection e) e0)
            subst hpf
            clear HN HQ
            go_wp2
            go_quiet (fail)
            go_wp2
            go_ret
            exact ⟨rfl, _, World.drewN_drewN ..⟩
        · have hpt : p = true := HP.out.2 (by
            have h3 : k = vs.length := by omega
            rw [h3, List.take_length, hle, List.take_length] at htk
            exact htk)
          subst hpt
          go_wp2
          go_ret
          exact ⟨rfl, m, rfl⟩
    · have hpf : p = false := by
        cases p
        · rfl
        · exact absurd (congrArg List.length (HP.out.1 rfl)) hle
      subst hpf
      go_enter Try.func10, Try.ntmps10
      go_wp2
      go_ret
      exact ⟨rfl, 0, rfl⟩

end Go.Proofs.Ytihdiaklhkecmaa
namespace Go.Proofs.Ytihdiaklhkecmaa
open Go.RowKit
set_option maxRecDepth 100000

theorem ahead_cons {y : V} (hy : spaceV y = false) (r : List V) : aheadZ (y :: r) = y :: aheadZ r := by
  unfold aheadZ
  rw [List.reverse_cons, List.dropWhile_append]
  cases h : r.reverse.dropWhile spaceV with
  | nil => simp [hy]
  | cons a t => simp
theorem ahead_space {y : V} (hy : spaceV y = true) (r : List V) : aheadZ (y :: r) = if (aheadZ r).isEmpty then [] else y :: aheadZ r := by
  unfold aheadZ
  rw [List.reverse_cons, List.dropWhile_append]
  cases h : r.reverse.dropWhile spaceV with
  | nil => simp [hy]
  | cons a t => simp
theorem ahead_twice (r : List V) : aheadZ (aheadZ r) = aheadZ r := ahead_id (ahead_last r)
theorem trim_ahead (r : List V) : trimZ (aheadZ r) = trimZ r := by
  induction r with
  | nil => rfl
  | cons y t ih =>
    cases hy : spaceV y with
    | false =>
      have e : (y :: t).dropWhile spaceV = y :: t := by rw [List.dropWhile_cons, hy]; rfl
      unfold trimZ
      rw [e, ahead_cons hy, List.dropWhile_cons, hy]
      show aheadZ (y :: aheadZ t) = y :: aheadZ t
      rw [ahead_cons hy, ahead_twice]
    | true =>
      have e : trimZ (y :: t) = trimZ t := by unfold trimZ; rw [List.dropWhile_cons, hy]; rfl
      rw [e, ahead_space hy]
      cases ha : aheadZ t with
      | nil =>
        rw [← ih, ha]
        rfl
      | cons a s =>
        show trimZ (y :: a :: s) = trimZ t
        have e2 : trimZ (y :: a :: s) = trimZ (a :: s) := by unfold trimZ; rw [List.dropWhile_cons, hy]; rfl
        rw [e2, ← ha, ih]
theorem trim_pre (vs r t : List V) (h : trimZ vs = r ++ t) : trimZ r = aheadZ r := by
  have e : r.dropWhile spaceV = r := drop_id (fun x s hx => by
    subst hx
    exact trim_head vs x (s ++ t) h)
  unfold trimZ
  rw [e]
/-- What a declaration is said to be, in memory. -/
def RDeclSaid (Q : Nat → Prop) (e : Ending) (w : World) : Option (ByteArray × List V × Bool) → Prop
  | none => e = .returned (.tuple #[.agg #[.string ⟨#[]⟩, .slice none 0 0, .bool false], .bool false])
  | some d => ∃ out, e = .returned (.tuple #[.agg #[.string d.1, out, .bool d.2.2], .bool true]) ∧ VsAt Q w out d.2.1
/-- The answer's block, still empty, and the declaration's. -/
def DSt (W wx : World) (D : Nat) (fs : ByteArray) (val : Value) (im : Bool) : Prop :=
  Below W.heap.size W wx ∧ W.heap.size < D ∧ wx.heap[W.heap.size]? = some (.cells #[.string ⟨#[]⟩, .slice none 0 0, .bool false] 48 (0, 0)) ∧ wx.heap[D]? = some (.cells #[.string fs, val, .bool im] 48 (0, 0))
theorem DSt.keep {W wx w' : World} {D : Nat} {fs : ByteArray} {val : Value} {im : Bool} (h : DSt W wx D fs val im) (hb : Below wx.heap.size wx w') : DSt W w' D fs val im := by
  obtain ⟨h1, h2, h3, h4⟩ := h
  exact ⟨h1.trans (hb.mono h1.size), h2, (hb.block _ (Array.getElem?_eq_some_iff.1 h3).1).trans h3, (hb.block _ (Array.getElem?_eq_some_iff.1 h4).1).trans h4⟩
theorem DSt.cells {W wx : World} {D : Nat} {fs : ByteArray} {val : Value} {im : Bool} (h : DSt W wx D fs val im) : wx.cell? ⟨D, 0, none⟩ = some (.string fs) ∧ wx.cell? ⟨D, 1, none⟩ = some val ∧ wx.cell? ⟨D, 2, none⟩ = some (.bool im) ∧ wx.frozen? ⟨D, 1, none⟩ = false ∧ wx.frozen? ⟨D, 2, none⟩ = false := by
  have h4 := h.2.2.2
  exact ⟨by simp [World.cell?, h4], by simp [World.cell?, h4], by simp [World.cell?, h4], by simp [World.frozen?, h4], by simp [World.frozen?, h4]⟩
theorem DSt.rcells {W wx : World} {D : Nat} {fs : ByteArray} {val : Value} {im : Bool} (h : DSt W wx D fs val im) : wx.cell? ⟨W.heap.size, 0, none⟩ = some (.string ⟨#[]⟩) ∧ wx.cell? ⟨W.heap.size, 1, none⟩ = some (.slice none 0 0) ∧ wx.cell? ⟨W.heap.size, 2, none⟩ = some (.bool false) ∧ wx.frozen? ⟨W.heap.size, 0, none⟩ = false ∧ wx.frozen? ⟨W.heap.size, 1, none⟩ = false ∧ wx.frozen? ⟨W.heap.size, 2, none⟩ = false := by
  have h4 := h.2.2.1
  exact ⟨by simp [World.cell?, h4], by simp [World.cell?, h4], by simp [World.cell?, h4], by simp [World.frozen?, h4], by simp [World.frozen?, h4], by simp [World.frozen?, h4]⟩
theorem DSt.setV {W wx : World} {D : Nat} {fs : ByteArray} {val : Value} {im : Bool} (h : DSt W wx D fs val im) (v' : Value) : DSt W (wx.setCell ⟨D, 1, none⟩ v') D fs v' im := by
  obtain ⟨h1, h2, h3, h4⟩ := h
  refine ⟨h1.setCell (p := ⟨D, 1, none⟩) (by show W.heap.size ≤ D; omega) v', h2, ?_, ?_⟩
  · rw [Below.heap_setCell wx ⟨D, 1, none⟩ v' _ (by show W.heap.size ≠ D; omega)]
    exact h3
  · rw [heap_setCell_same wx D 1 #[.string fs, val, .bool im] 48 v' h4]
    rfl
theorem DSt.setI {W wx : World} {D : Nat} {fs : ByteArray} {val : Value} {im : Bool} (h : DSt W wx D fs val im) (b : Bool) : DSt W (wx.setCell ⟨D, 2, none⟩ (.bool b)) D fs val b := by
  obtain ⟨h1, h2, h3, h4⟩ := h
  refine ⟨h1.setCell (p := ⟨D, 2, none⟩) (by show W.heap.size ≤ D; omega) _, h2, ?_, ?_⟩
  · rw [Below.heap_setCell wx ⟨D, 2, none⟩ _ _ (by show W.heap.size ≠ D; omega)]
    exact h3
  · rw [heap_setCell_same wx D 2 #[.string fs, val, .bool im] 48 _ h4]
    rfl
/-- Behind the three stores into the answer's block. -/
theorem VsAt.three {Q : Nat → Prop} {R : Nat} {w : World} {v : Value} {vs : List V} (h : VsAt (fun b => Q b ∧ b ≠ R) w v vs) (a0 a1 a2 : Value) : VsAt Q (((w.setCell ⟨R, 0, none⟩ a0).setCell ⟨R, 1, none⟩ a1).setCell ⟨R, 2, none⟩ a2) v vs :=
  (h.stay (by simp) (fun b hb _ => by
    rw [Below.heap_setCell _ _ _ _ (by show b ≠ R; exact hb.2), Below.heap_setCell _ _ _ _ (by show b ≠ R; exact hb.2), Below.heap_setCell _ _ _ _ (by show b ≠ R; exact hb.2)])).wider (fun _ hb _ => hb.1)
theorem below_three {W w : World} (h : Below W.heap.size W w) (a0 a1 a2 : Value) : Below W.heap.size W (((w.setCell ⟨W.heap.size, 0, none⟩ a0).setCell ⟨W.heap.size, 1, none⟩ a1).setCell ⟨W.heap.size, 2, none⟩ a2) :=
  ((h.setCell (p := ⟨W.heap.size, 0, none⟩) (Nat.le_refl _) a0).setCell (p := ⟨W.heap.size, 1, none⟩) (Nat.le_refl _) a1).setCell (p := ⟨W.heap.size, 2, none⟩) (Nat.le_refl _) a2
/-- Where the values may lie: with the argument or in new memory, not in the two blocks. -/
def PD (P : Nat → Prop) (W : World) (D : Nat) (b : Nat) : Prop := (P b ∨ W.heap.size ≤ b) ∧ b ≠ W.heap.size ∧ b ≠ D
set_option maxHeartbeats 2000000 in
theorem rdecl_any {P : Nat → Prop} {W : World} {v : Value} {x : V} {r : List V} (hv : VsAt P W v (x :: r)) (hn : (x :: r).length ≤ 100000) (hsz : ∀ y ∈ x :: r, y.tok.tx.size ≤ 1000000000000) :
    Calls Try.prog 41 #[v] W fun e w' => RDeclSaid (fun b => P b ∨ W.heap.size ≤ b) e w' (declZ x r) ∧ Below W.heap.size W w' := by
  obtain ⟨⟨tk, tx, un, wh, fl⟩, xk⟩ := x
  have hs1 : tx.size ≤ 1000000000000 := hsz _ (List.mem_cons_self ..)
  have HSR : Hid (∀ y ∈ r, y.tok.tx.size ≤ 1000000000000) := fun y hy => hsz y (List.mem_cons_of_mem _ hy)
  have hvW : VsAt (fun b => P b ∧ b < W.heap.size) W v (V.mk ⟨tk, tx, un, wh, fl⟩ xk :: r) := hv.wider (fun b hp h => ⟨hp, h⟩)
  have HV := hid_mk hvW
  obtain ⟨b, off, cap, ka, kc, rfl, hl, hcap, ht, hq⟩ := hvW.head
  have HQ := hid_mk hq
  rw [List.length_cons] at hn
  have hi1 := fun w => ris_any w tk tx un wh fl (.slice ka xk.length kc) 1
  have hfo := fun w => refFold_any tx w hs1
  have HDZ : Hid (declZ (V.mk ⟨tk, tx, un, wh, fl⟩ xk) r = if (tk == 1) then (match r.dropWhile spaceV with | [] => none | y :: r2 => if (y.tok.k == 16) then some (foldS tx, (impZ (trimZ r2)).1, (impZ (trimZ r2)).2) else none) else none) := by
    show _ = _
    unfold declZ
    rw [show hasZ [1] (V.mk ⟨tk, tx, un, wh, fl⟩ xk).tok.k = (tk == 1) by unfold hasZ; simp; rfl]
    cases r.dropWhile spaceV with
    | nil => rfl
    | cons y r2 =>
      dsimp only
      rw [show hasZ [16] y.tok.k = (y.tok.k == 16) by unfold hasZ; simp; rfl]
      rfl
  generalize (tk == 1) = y1 at *
  generalize foldS tx = fs at *
  clear hv hvW hq ht hsz
  go_enter Try.func41, Try.ntmps41
  have hWR : Below W.heap.size W (W.alloc (.cells #[.string ⟨#[]⟩, .slice none 0 0, .bool false] 48)) := (Below.refl _ W).alloc (Nat.le_refl _) _
  have hxr := heap_alloc_new W (.cells #[.string ⟨#[]⟩, .slice none 0 0, .bool false] 48)
  have hsR : (W.alloc (.cells #[.string ⟨#[]⟩, .slice none 0 0, .bool false] 48)).heap.size = W.heap.size + 1 := by simp
  go_upto_region 1 with fail
  generalize W.alloc (.cells #[.string ⟨#[]⟩, .slice none 0 0, .bool false] 48) = WR at *
  obtain ⟨q0, q1, q2, q3, q4, q5⟩ := HQ.out WR hWR
  have HWR := hid_mk hWR
  have HXR := hid_mk hxr
  clear hWR hxr
  go_wp2_with (go_at_call 36; fail)
  refine (hi1 _).mono ?_
  rintro e w1 ⟨rfl, hb1⟩
  have HB1 : Hid (Below W.heap.size W w1) := HWR.out.trans (hb1.mono HWR.out.size)
  have HX1 : Hid (w1.heap[W.heap.size]? = some (.cells #[.string ⟨#[]⟩, .slice none 0 0, .bool false] 48 (0, 0))) := (hb1.block W.heap.size (by omega)).trans HXR.out
  have hs1' : W.heap.size < w1.heap.size := (Array.getElem?_eq_some_iff.1 HX1.out).1
  clear hi1 hb1 HWR HXR q0 q1 q2 q3 q4 q5 hsR
  cases y1 with
  | false =>
    have HN : Hid (declZ (V.mk ⟨tk, tx, un, wh, fl⟩ xk) r = none) := by
      show _ = _
      rw [HDZ.out, if_neg (by decide)]
    have h4 := HX1.out
    have k0 : w1.cell? ⟨W.heap.size, 0, none⟩ = some (.string ⟨#[]⟩) := by simp [World.cell?, h4]
    have k1 : w1.cell? ⟨W.heap.size, 1, none⟩ = some (.slice none 0 0) := by simp [World.cell?, h4]
    have k2 : w1.cell? ⟨W.heap.size, 2, none⟩ = some (.bool false) := by simp [World.cell?, h4]
    have f0 : w1.frozen? ⟨W.heap.size, 0, none⟩ = false := by simp [World.frozen?, h4]
    have f1 : w1.frozen? ⟨W.heap.size, 1, none⟩ = false := by simp [World.frozen?, h4]
    have f2 : w1.frozen? ⟨W.heap.size, 2, none⟩ = false := by simp [World.frozen?, h4]
    clear HDZ hfo h4 HX1
    go_wp2
    refine bodyPost_ret (v := .tuple #[.agg #[.string ⟨#[]⟩, .slice none 0 0, .bool false], .bool false]) (by simp [results, Try.results41, go_sem, k0, k1, k2]) rfl ⟨by rw [HN.out]; exact rfl, below_three HB1.out _ _ _⟩
  | true =>
    obtain ⟨q0, q1, q2, q3, q4, q5⟩ := HQ.out w1 HB1.out
    go_wp2_with (go_at_call 26; fail)
    refine (hfo _).mono ?_
    rintro e w2 ⟨rfl, hb2⟩
    have hB2 : Below W.heap.size W w2 := HB1.out.trans (hb2.mono HB1.out.size)
    have hX2 : w2.heap[W.heap.size]? = some (.cells #[.string ⟨#[]⟩, .slice none 0 0, .bool false] 48 (0, 0)) := (hb2.block W.heap.size hs1').trans HX1.out
    have hs2 : W.heap.size < w2.heap.size := (Array.getElem?_eq_some_iff.1 hX2).1
    have HD : Hid (DSt W (w2.alloc (.cells #[.string fs, .slice none 0 0, .bool false] 48)) w2.heap.size fs (.slice none 0 0) false) :=
      ⟨hB2.alloc hB2.size _, hs2, (Below.heap_alloc w2 _ _ hs2).trans hX2, heap_alloc_new w2 _⟩
    clear hfo hb2 hX2 HX1 HB1 q0 q1 q2 q3 q4 q5 hB2
    go_upto_region 4 with fail
    generalize w2.alloc (.cells #[.string fs, .slice none 0 0, .bool false] 48) = w3 at *
    obtain ⟨D, eD⟩ : ∃ D, D = w2.heap.size := ⟨_, rfl⟩
    rw [← eD] at HD ⊢
    have hDl : D < w3.heap.size := (Array.getElem?_eq_some_iff.1 HD.out.2.2.2).1
    have hDW : W.heap.size < D := HD.out.2.1
    clear eD hs2 hs1'
    have HV3 := hid_mk (HV.out.keep HD.out.1)
    have HTR : Hid (∀ sl, VsAt (fun b => P b ∧ b < W.heap.size) w3 sl r → Calls Try.prog 23 #[sl] w3 fun e w'' => ∃ out, e = .returned out ∧ VsAt (PD P W D) w'' out (trimZ r) ∧ DSt W w'' D fs (.slice none 0 0) false) := fun sl h => (rtrim_any h (by omega)).mono (fun e w'' ⟨out, he, hv, hb⟩ => ⟨out, he, hv.wider (fun b hb _ => by
      rcases hb with hb | hb
      · exact ⟨.inl hb.1, by omega, by omega⟩
      · exact ⟨.inr (by omega), by omega, by omega⟩), HD.out.keep hb⟩)
    clear HV HQ
    go_cut [0] (fun a0 wx => VsAt (PD P W D) wx a0 (trimZ r) ∧ DSt W wx D fs (.slice none 0 0) false)
    case first =>
      go_wp2_with (go_at_call 23; fail)
      all_goals
        first
          | (have hc01 : cap = 1 := by omega
             subst hc01
             refine (HTR.out _ (HV3.out.dropA 1 (by simp) ⟨b, off, none⟩ r.length 0 (by simp) (by simp) (fun h => by exfalso; simp only [List.length_cons] at h; omega))).mono ?_)
          | refine (HTR.out _ (HV3.out.dropA 1 (by simp) ⟨b, off + 6, none⟩ r.length (cap - 1) (by simp) (by simp) (fun h => rfl))).mono ?_
        rintro e w4 ⟨o4, rfl, ho4, hd4⟩
        have HO4 := hid_mk ho4
        have HD4 := hid_mk hd4
        clear ho4 hd4 HTR HV3 HD
        go_wp2_with fail
        go_meet
        exact ⟨HO4.out, HD4.out⟩
    case rest =>
    obtain ⟨ho4, hd4⟩ := hcut
    have HO4 := hid_mk ho4
    have HD4 := hid_mk hd4
    have hlr := trim_len r
    have HST : Hid (∀ y ∈ trimZ r, y.tok.tx.size ≤ 1000000000000) := fun y hy => HSR.out y (trim_sub r y hy)
    have HTE : Hid ((r.dropWhile spaceV = [] ∧ trimZ r = []) ∨ ∃ y r2, r.dropWhile spaceV = y :: r2 ∧ trimZ r = y :: aheadZ r2) := by
      cases hdw : r.dropWhile spaceV with
      | nil => exact .inl ⟨rfl, by unfold trimZ; rw [hdw]; rfl⟩
      | cons y r2 => exact .inr ⟨y, r2, rfl, by unfold trimZ; rw [hdw]; exact ahead_cons (drop_head r y r2 hdw) r2⟩
    clear ho4 hd4 HTR HV3 HD HSR
    rcases HTE.out with ⟨e1, e2⟩ | ⟨⟨⟨tk2, tx2, un2, wh2, fl2⟩, xk2⟩, r2, e1, e2⟩
    · have HN : Hid (declZ (V.mk ⟨tk, tx, un, wh, fl⟩ xk) r = none) := by
        show _ = _
        rw [HDZ.out, if_pos (by first | trivial | rfl), e1]
      have ho := HO4.out
      rw [e2] at ho
      obtain ⟨a4, c4, rfl, _, _⟩ := ho.slice
      obtain ⟨k0, k1, k2, f0, f1, f2⟩ := HD4.out.rcells
      clear HDZ HTE e1 e2 ho HO4 HST
      go_wp2
      refine bodyPost_ret (v := .tuple #[.agg #[.string ⟨#[]⟩, .slice none 0 0, .bool false], .bool false]) (by simp [results, Try.results41, go_sem, k0, k1, k2]) rfl ⟨by rw [HN.out]; exact rfl, below_three HD4.out.1 _ _ _⟩
    · have HDY : Hid (declZ (V.mk ⟨tk, tx, un, wh, fl⟩ xk) r = if (tk2 == 16) then some (fs, (impZ (trimZ r2)).1, (impZ (trimZ r2)).2) else none) := by
        show _ = _
        rw [HDZ.out, if_pos (by first | trivial | rfl), e1]
        rfl
      have ho := HO4.out
      rw [e2] at ho
      rw [e2] at HST hlr
      have HO5 := hid_mk ho
      obtain ⟨b4, off4, cap4, ka4, kc4, rfl, hl4, hcap4, _, hq4⟩ := ho.head
      obtain ⟨q0, q1, q2, q3, q4, q5⟩ := hq4 wc (Below.refl _ _)
      have hi2 := ris_any wc tk2 tx2 un2 wh2 fl2 (.slice ka4 xk2.length kc4) 16
      have HTA := hid_mk (trim_ahead r2)
      simp only [List.length_cons] at hlr
      clear HDZ HTE e1 e2 ho HO4 hq4
      generalize (tk2 == 16) = y2 at *
      go_wp2_with (go_at_call 36; fail)
      refine hi2.mono ?_
      rintro e w5 ⟨rfl, hb5⟩
      have HD5 := hid_mk (HD4.out.keep hb5)
      have HO6 := hid_mk (HO5.out.keep hb5)
      clear hi2 hb5 HD4 HO5 q0 q1 q2 q3 q4 q5
      cases y2 with
      | false =>
        have HN : Hid (declZ (V.mk ⟨tk, tx, un, wh, fl⟩ xk) r = none) := by
          show _ = _
          rw [HDY.out, if_neg (by decide)]
        obtain ⟨k0, k1, k2, f0, f1, f2⟩ := HD5.out.rcells
        clear HDY HST HO6
        go_wp2
        refine bodyPost_ret (v := .tuple #[.agg #[.string ⟨#[]⟩, .slice none 0 0, .bool false], .bool false]) (by simp [results, Try.results41, go_sem, k0, k1, k2]) rfl ⟨by rw [HN.out]; exact rfl, below_three HD5.out.1 _ _ _⟩
      | true =>
        have HN : Hid (declZ (V.mk ⟨tk, tx, un, wh, fl⟩ xk) r = some (fs, (impZ (trimZ r2)).1, (impZ (trimZ r2)).2)) := by
          show _ = _
          rw [HDY.out, if_pos rfl]
        have HTR : Hid (∀ sl, VsAt (PD P W D) w5 sl (aheadZ r2) → Calls Try.prog 23 #[sl] w5 fun e w'' => ∃ out, e = .returned out ∧ VsAt (PD P W D) w'' out (trimZ r2) ∧ DSt W w'' D fs (.slice none 0 0) false) := fun sl h => by
          have hr := rtrim_any h (by omega)
          rw [HTA.out] at hr
          have hs := HD5.out.1.size
          have hdl : D < w5.heap.size := (Array.getElem?_eq_some_iff.1 HD5.out.2.2.2).1
          exact hr.mono (fun e w'' ⟨out, he, hv, hb⟩ => ⟨out, he, hv.wider (fun b hb _ => by
            rcases hb with hb | hb
            · exact hb
            · exact ⟨.inr (by omega), by omega, by omega⟩), HD5.out.keep hb⟩)
        have hlt2 := trim_len (aheadZ r2)
        rw [HTA.out] at hlt2
        have HST2 : Hid (∀ y ∈ trimZ r2, y.tok.tx.size ≤ 1000000000000) := fun y hy => HST.out y (List.mem_cons_of_mem _ (by rw [← HTA.out] at hy; exact trim_sub _ y hy))
        clear HDY HST
        go_upto_region 7 with fail
        go_cut [] (fun wx => ∃ va vc, VsAt (PD P W D) wx (.slice va (trimZ r2).length vc) (trimZ r2) ∧ DSt W wx D fs (.slice va (trimZ r2).length vc) false)
        case first =>
          go_wp2_with (go_at_call 23; fail)
          all_goals
            first
              | (have hc01 : cap4 = 1 := by omega
                 subst hc01
                 refine (HTR.out _ (HO6.out.dropA 1 (by simp) ⟨b4, off4, none⟩ (aheadZ r2).length 0 (by simp) (by simp) (fun h => by exfalso; simp only [List.length_cons] at h; omega))).mono ?_)
              | refine (HTR.out _ (HO6.out.dropA 1 (by simp) ⟨b4, off4 + 6, none⟩ (aheadZ r2).length (cap4 - 1) (by simp) (by simp) (fun h => rfl))).mono ?_
            rintro e w6 ⟨o6, rfl, ho6, hd6⟩
            obtain ⟨a6, c6, rfl, _, _⟩ := ho6.slice
            have HO7 := hid_mk ho6
            have HD7 := hid_mk hd6
            obtain ⟨d0, d1, d2, g1, g2⟩ := hd6.cells
            clear ho6 hd6 HTR HO6 HD5 HN HST2 HTA hlr hlt2
            generalize trimZ r2 = tv at *
            go_wp2_with fail
            go_meet
            exact ⟨a6, c6, HO7.out.stay (by simp) (fun b hb _ => Below.heap_setCell _ _ _ _ (by show b ≠ D; exact hb.2.2)), HD7.out.setV _⟩
        case rest =>
        obtain ⟨va, vc, hv7, hd7⟩ := hcut
        have HV7 := hid_mk hv7
        have HD7 := hid_mk hd7
        have HTP : Hid (∀ r t, trimZ r2 = r ++ t → trimZ r = aheadZ r) := trim_pre r2
        have hvl : (trimZ r2).length ≤ 100000 := by omega
        clear hv7 hd7 HTR HO6 HD5 HTA hlr hlt2
        generalize trimZ r2 = tv at *
        rcases List.eq_nil_or_concat tv with rfl | ⟨r3, x3, rfl⟩
        · have HN2 : Hid (declZ (V.mk ⟨tk, tx, un, wh, fl⟩ xk) r = some (fs, [], false)) := by
            show _ = _
            rw [HN.out]
            rfl
          simp only [List.length_nil] at *
          obtain ⟨d0, d1, d2, _, _⟩ := HD7.out.cells
          obtain ⟨k0, k1, k2, f0, f1, f2⟩ := HD7.out.rcells
          clear HTP HST2 HN
          go_wp2
          refine bodyPost_ret (v := .tuple #[.agg #[.string fs, .slice va 0 vc, .bool false], .bool true]) (by simp [results, Try.results41, go_sem, k0, k1, k2]) rfl ⟨by rw [HN2.out]; exact ⟨_, rfl, (HV7.out.wider (fun b hb _ => ⟨hb.1, hb.2.1⟩)).three _ _ _⟩, below_three HD7.out.1 _ _ _⟩
        · rw [List.concat_eq_append] at *
          have hl3 : (r3 ++ [x3]).length = r3.length + 1 := by simp
          obtain ⟨⟨sk, sx, sn, sh, sl⟩, sxk⟩ := x3
          have hss : sx.size ≤ 1000000000000 := HST2.out (V.mk ⟨sk, sx, sn, sh, sl⟩ sxk) (by simp)
          have hv7 := HV7.out
          rw [hl3] at hv7 HV7 HD7 hvl
          obtain ⟨b7, off7, cap7, ka7, kc7, esl, hcl7, hcap7, hr3, hq7⟩ := hv7.last
          have e1 : va = some ⟨b7, off7, none⟩ := by injection esl
          have e2 : vc = cap7 := by injection esl
          subst e1 e2
          have HR3 := hid_mk hr3
          have HQ7 := hid_mk hq7
          obtain ⟨q0, q1, q2, q3, q4, q5⟩ := hq7 wc (Below.refl _ _)
          obtain ⟨d0, d1, d2, _, _⟩ := HD7.out.cells
          have hi3 := ris_any wc sk sx sn sh sl (.slice ka7 sxk.length kc7) 1
          have hf3 := fun w => refFold_any sx w hss
          have HIM : Hid (isImp (V.mk ⟨sk, sx, sn, sh, sl⟩ sxk) = ((sk == 1) && ((foldS sx).toList == ([105, 109, 112, 111, 114, 116, 97, 110, 116] : List UInt8)))) := by
            show _ = _
            unfold isImp
            rw [show hasZ [1] (V.mk ⟨sk, sx, sn, sh, sl⟩ sxk).tok.k = (sk == 1) by unfold hasZ; simp; rfl]
            rfl
          generalize (sk == 1) = i1 at *
          generalize foldS sx = f3 at *
          clear hv7 hr3 hq7 esl hl3
          go_wp2_with (go_at_call 36; fail)
          refine hi3.mono ?_
          rintro e w8 ⟨rfl, hb8⟩
          have HD8 := hid_mk (HD7.out.keep hb8)
          have HV8 := hid_mk (HV7.out.keep hb8)
          have HB8 := hid_mk hb8
          clear hi3 hb8 d0 d1 d2 q0 q1 q2 q3 q4 q5 HD7 HV7
          cases i1 with
          | false =>
            have HN2 : Hid (declZ (V.mk ⟨tk, tx, un, wh, fl⟩ xk) r = some (fs, r3 ++ [V.mk ⟨sk, sx, sn, sh, sl⟩ sxk], false)) := by
              show _ = _
              rw [HN.out, impZ_no r3 _ (by rw [HIM.out]; rfl)]
            obtain ⟨d0, d1, d2, _, _⟩ := HD8.out.cells
            obtain ⟨k0, k1, k2, f0, f1, f2⟩ := HD8.out.rcells
            clear HTP HST2 HN HIM hf3 HR3 HQ7
            go_wp2
            refine bodyPost_ret (v := .tuple #[.agg #[.string fs, .slice (some ⟨b7, off7, none⟩) (r3.length + 1) vc, .bool false], .bool true]) (by simp [results, Try.results41, go_sem, k0, k1, k2]) rfl ⟨by rw [HN2.out]; exact ⟨_, rfl, (HV8.out.wider (fun b hb _ => ⟨hb.1, hb.2.1⟩)).three _ _ _⟩, below_three HD8.out.1 _ _ _⟩
          | true =>
            obtain ⟨q0, q1, q2, q3, q4, q5⟩ := HQ7.out w8 HB8.out
            obtain ⟨d0, d1, d2, _, _⟩ := HD8.out.cells
            go_wp2_with (go_at_call 26; fail)
            refine (hf3 _).mono ?_
            rintro e w9 ⟨rfl, hb9⟩
            have HD9 := hid_mk (HD8.out.keep hb9)
            have HV9 := hid_mk (HV8.out.keep hb9)
            have HB9 : Hid (Below wc.heap.size wc w9) := HB8.out.trans (hb9.mono HB8.out.size)
            clear hf3 hb9 d0 d1 d2 q0 q1 q2 q3 q4 q5 HD8 HV8 HB8
            cases hi2 : (f3.toList == ([105, 109, 112, 111, 114, 116, 97, 110, 116] : List UInt8)) with
            | false =>
              have HN2 : Hid (declZ (V.mk ⟨tk, tx, un, wh, fl⟩ xk) r = some (fs, r3 ++ [V.mk ⟨sk, sx, sn, sh, sl⟩ sxk], false)) := by
                show _ = _
                rw [HN.out, impZ_no r3 _ (by rw [HIM.out, hi2]; rfl)]
              obtain ⟨d0, d1, d2, _, _⟩ := HD9.out.cells
              obtain ⟨k0, k1, k2, f0, f1, f2⟩ := HD9.out.rcells
              clear HTP HST2 HN HIM HR3 HQ7
              go_wp2
              refine bodyPost_ret (v := .tuple #[.agg #[.string fs, .slice (some ⟨b7, off7, none⟩) (r3.length + 1) vc, .bool false], .bool true]) (by simp [results, Try.results41, go_sem, k0, k1, k2]) rfl ⟨by rw [HN2.out]; exact ⟨_, rfl, (HV9.out.wider (fun b hb _ => ⟨hb.1, hb.2.1⟩)).three _ _ _⟩, below_three HD9.out.1 _ _ _⟩
            | true =>
              have HIT : Hid (isImp (V.mk ⟨sk, sx, sn, sh, sl⟩ sxk) = true) := by
                show _ = _
                rw [HIM.out, hi2]
                rfl
              have HR9 := hid_mk (HR3.out.keep HB9.out)
              have h23 := rtrim_any HR9.out (by omega)
              rw [HTP.out r3 _ rfl] at h23
              have hdl : D < w9.heap.size := (Array.getElem?_eq_some_iff.1 HD9.out.2.2.2).1
              obtain ⟨d0, d1, d2, _, _⟩ := HD9.out.cells
              have hI1 : (0 : Int) ≤ (r3.length : Int) := by omega
              have hI2 : (r3.length : Int) ≤ (vc : Int) := by omega
              clear HIM HR3 HQ7 HB9 HR9
              go_wp2_with (go_at_call 23; fail)
              refine h23.mono ?_
              rintro e w10 ⟨o10, rfl, ho10, hb10⟩
              have HD10 := hid_mk (HD9.out.keep hb10)
              have HV10 := hid_mk (HV9.out.keep hb10)
              have HO10 : Hid (VsAt (PD P W D) w10 o10 (aheadZ r3)) := ho10.wider (fun b hb _ => by
                rcases hb with hb | hb
                · exact hb
                · exact ⟨.inr (by omega), by omega, by omega⟩)
              have hl10 := aheadZ_le r3
              obtain ⟨tl3, htl3⟩ := ahead_pre r3
              have HTL := hid_mk htl3
              clear h23 ho10 hb10 d0 d1 d2 HD9 HV9 htl3 hdl
              have HAE : Hid (aheadZ r3 = [] ∨ ∃ r4 y4, aheadZ r3 = r4 ++ [y4]) := by
                rcases List.eq_nil_or_concat (aheadZ r3) with h | ⟨r4, y4, h⟩
                · exact .inl h
                · exact .inr ⟨r4, y4, by rw [h, List.concat_eq_append]⟩
              rcases HAE.out with ha | ⟨r4, ⟨⟨yk, yx, yn, yh, yl⟩, yxk⟩, ha⟩
              · have HN2 : Hid (declZ (V.mk ⟨tk, tx, un, wh, fl⟩ xk) r = some (fs, r3 ++ [V.mk ⟨sk, sx, sn, sh, sl⟩ sxk], false)) := by
                  show _ = _
                  rw [HN.out, impZ_none r3 _ HIT.out ha]
                have ho := HO10.out
                rw [ha] at ho
                obtain ⟨a10, c10, rfl, _, _⟩ := ho.slice
                clear ha HAE ho HO10
                obtain ⟨d0, d1, d2, _, _⟩ := HD10.out.cells
                obtain ⟨k0, k1, k2, f0, f1, f2⟩ := HD10.out.rcells
                clear HTP HST2 HN HIT HTL
                go_wp2
                refine bodyPost_ret (v := .tuple #[.agg #[.string fs, .slice (some ⟨b7, off7, none⟩) (r3.length + 1) vc, .bool false], .bool true]) (by simp [results, Try.results41, go_sem, k0, k1, k2]) rfl ⟨by rw [HN2.out]; exact ⟨_, rfl, (HV10.out.wider (fun b hb _ => ⟨hb.1, hb.2.1⟩)).three _ _ _⟩, below_three HD10.out.1 _ _ _⟩
              · have ho := HO10.out
                rw [ha] at ho hl10
                have hl4 : (r4 ++ [V.mk ⟨yk, yx, yn, yh, yl⟩ yxk]).length = r4.length + 1 := by simp
                rw [hl4] at hl10
                obtain ⟨b10, off10, cap10, ka10, kc10, rfl, hcl10, hcap10, hr4, hq10⟩ := ho.last
                obtain ⟨q0, q1, q2, q3, q4, q5⟩ := hq10 w10 (Below.refl _ _)
                have HQ10 := hid_mk hq10
                have HR4 := hid_mk hr4
                have hi4 := ris_any w10 yk yx yn yh yl (.slice ka10 yxk.length kc10) 9
                have HBG : Hid (isBang (V.mk ⟨yk, yx, yn, yh, yl⟩ yxk) = ((yk == 9) && (yx.toList == ([33] : List UInt8)))) := by
                  show _ = _
                  unfold isBang
                  rw [show hasZ [9] (V.mk ⟨yk, yx, yn, yh, yl⟩ yxk).tok.k = (yk == 9) by unfold hasZ; simp; rfl]
                  rfl
                have HT4 : Hid (trimZ r4 = aheadZ r4) := HTP.out r4 ([V.mk ⟨yk, yx, yn, yh, yl⟩ yxk] ++ tl3 ++ [V.mk ⟨sk, sx, sn, sh, sl⟩ sxk]) (by
                  have h := HTL.out
                  rw [ha] at h
                  rw [h]
                  simp)
                have HNA : Hid (aheadZ r3 = r4 ++ [V.mk ⟨yk, yx, yn, yh, yl⟩ yxk]) := ha
                generalize (yk == 9) = j1 at *
                clear ha HAE ho HO10 hr4 hq10 HTP HTL hl4
                go_wp2_with (go_at_call 36; fail)
                refine hi4.mono ?_
                rintro e w11 ⟨rfl, hb11⟩
                have HD11 := hid_mk (HD10.out.keep hb11)
                have HV11 := hid_mk (HV10.out.keep hb11)
                have HB11 := hid_mk hb11
                clear hi4 hb11 q0 q1 q2 q3 q4 q5 HD10 HV10
                cases j1 with
                | false =>
                  have HN2 : Hid (declZ (V.mk ⟨tk, tx, un, wh, fl⟩ xk) r = some (fs, r3 ++ [V.mk ⟨sk, sx, sn, sh, sl⟩ sxk], false)) := by
                    show _ = _
                    rw [HN.out, impZ_notb r3 r4 _ _ HIT.out HNA.out (by rw [HBG.out]; rfl)]
                  obtain ⟨d0, d1, d2, _, _⟩ := HD11.out.cells
                  obtain ⟨k0, k1, k2, f0, f1, f2⟩ := HD11.out.rcells
                  clear HST2 HN HIT HBG HT4 HNA HQ10 HR4
                  go_wp2
                  refine bodyPost_ret (v := .tuple #[.agg #[.string fs, .slice (some ⟨b7, off7, none⟩) (r3.length + 1) vc, .bool false], .bool true]) (by simp [results, Try.results41, go_sem, k0, k1, k2]) rfl ⟨by rw [HN2.out]; exact ⟨_, rfl, (HV11.out.wider (fun b hb _ => ⟨hb.1, hb.2.1⟩)).three _ _ _⟩, below_three HD11.out.1 _ _ _⟩
                | true =>
                  obtain ⟨q0, q1, q2, q3, q4, q5⟩ := HQ10.out w11 HB11.out
                  cases hj2 : (yx.toList == ([33] : List UInt8)) with
                  | false =>
                    have HN2 : Hid (declZ (V.mk ⟨tk, tx, un, wh, fl⟩ xk) r = some (fs, r3 ++ [V.mk ⟨sk, sx, sn, sh, sl⟩ sxk], false)) := by
                      show _ = _
                      rw [HN.out, impZ_notb r3 r4 _ _ HIT.out HNA.out (by rw [HBG.out, hj2]; rfl)]
                    obtain ⟨d0, d1, d2, _, _⟩ := HD11.out.cells
                    obtain ⟨k0, k1, k2, f0, f1, f2⟩ := HD11.out.rcells
                    clear HST2 HN HIT HBG HT4 HNA HQ10 HR4
                    go_wp2
                    refine bodyPost_ret (v := .tuple #[.agg #[.string fs, .slice (some ⟨b7, off7, none⟩) (r3.length + 1) vc, .bool false], .bool true]) (by simp [results, Try.results41, go_sem, k0, k1, k2]) rfl ⟨by rw [HN2.out]; exact ⟨_, rfl, (HV11.out.wider (fun b hb _ => ⟨hb.1, hb.2.1⟩)).three _ _ _⟩, below_three HD11.out.1 _ _ _⟩
                  | true =>
                    have HN2 : Hid (declZ (V.mk ⟨tk, tx, un, wh, fl⟩ xk) r = some (fs, aheadZ r4, true)) := by
                      show _ = _
                      rw [HN.out, impZ_yes r3 r4 _ _ HIT.out HNA.out (by rw [HBG.out, hj2]; rfl)]
                    obtain ⟨d0, d1, d2, g1, g2⟩ := HD11.out.cells
                    have HD12 := hid_mk (HD11.out.setI true)
                    have HR12 : Hid (VsAt (PD P W D) (w11.setCell ⟨D, 2, none⟩ (.bool true)) (.slice (some ⟨b10, off10, none⟩) r4.length cap10) r4) := (HR4.out.keep HB11.out).stay (by simp) (fun b hb _ => Below.heap_setCell _ _ _ _ (by show b ≠ D; exact hb.2.2))
                    clear HN HIT HBG HNA HQ10 HR4 HV11 HST2 HB11 HD11
                    go_upto_region 15 with fail
                    generalize w11.setCell ⟨D, 2, none⟩ (.bool true) = w12 at *
                    clear d0 d1 d2 g1 g2 q0 q1 q2 q3 q4 q5
                    have h23 := rtrim_any HR12.out (by omega)
                    rw [HT4.out] at h23
                    have hdl : D < w12.heap.size := (Array.getElem?_eq_some_iff.1 HD12.out.2.2.2).1
                    have hI3 : (0 : Int) ≤ (r4.length : Int) := by omega
                    have hI4 : (r4.length : Int) ≤ (cap10 : Int) := by omega
                    go_wp2_with (go_at_call 23; fail)
                    refine h23.mono ?_
                    rintro e w13 ⟨o13, rfl, ho13, hb13⟩
                    have hd13 := HD12.out.keep hb13
                    obtain ⟨d0, d1, d2, g1, g2⟩ := hd13.cells
                    have ho13' : VsAt (PD P W D) w13 o13 (aheadZ r4) := ho13.wider (fun b hb _ => by
                      rcases hb with hb | hb
                      · exact hb
                      · exact ⟨.inr (by omega), by omega, by omega⟩)
                    obtain ⟨a13, c13, rfl, _, _⟩ := ho13.slice
                    have HD14 := hid_mk (hd13.setV (.slice a13 (aheadZ r4).length c13))
                    have HV14 : Hid (VsAt (PD P W D) (w13.setCell ⟨D, 1, none⟩ (.slice a13 (aheadZ r4).length c13)) (.slice a13 (aheadZ r4).length c13) (aheadZ r4)) := ho13'.stay (by simp) (fun b hb _ => Below.heap_setCell _ _ _ _ (by show b ≠ D; exact hb.2.2))
                    clear h23 ho13 ho13' hb13 hd13 HT4 HD12 HR12 hdl
                    go_upto_region 16 with fail
                    generalize aheadZ r4 = av at *
                    generalize w13.setCell ⟨D, 1, none⟩ (.slice a13 av.length c13) = w14 at *
                    clear d0 d1 d2 g1 g2
                    obtain ⟨d0, d1, d2, _, _⟩ := HD14.out.cells
                    obtain ⟨k0, k1, k2, f0, f1, f2⟩ := HD14.out.rcells
                    clear hI3 hI4
                    go_wp2
                    refine bodyPost_ret (v := .tuple #[.agg #[.string fs, .slice a13 av.length c13, .bool true], .bool true]) (by simp [results, Try.results41, go_sem, k0, k1, k2]) rfl ⟨by rw [HN2.out]; exact ⟨_, rfl, (HV14.out.wider (fun b hb _ => ⟨hb.1, hb.2.1⟩)).three _ _ _⟩, below_three HD14.out.1 _ _ _⟩

end Go.Proofs.Ytihdiaklhkecmaa
namespace Go.Proofs.Ytihdiaklhkecmaa
open Go.RowKit
set_option maxRecDepth 100000

set_option maxHeartbeats 2000000 in
theorem rdecls_any {P : Nat → Prop} {W : World} {v : Value} {vs : List V} (hv : VsAt P W v vs) (hsz : ∀ y ∈ vs, y.tok.tx.size ≤ 1000000000000) (hn : vs.length ≤ 100000) :
    Calls Try.prog 21 #[v] W fun e w' => ∃ out ps, e = .returned out ∧ Row3 (fun _ => True) W.heap.size w' out ps ∧ ps.map D3.said = declsZ vs.length vs ∧ Below W.heap.size W w' := by
  obtain ⟨i0, hi0, hz0, hz1, hz2⟩ := info_parts Try.info48
  have HV : Hid (VsAt (fun b => b < W.heap.size) W v vs) := hv.wider (fun b _ h => h)
  have HM : Hid (Hid (∀ y ∈ vs, y.tok.tx.size ≤ 1000000000000)) := hsz
  obtain ⟨a, cap, rfl, hl, hcap⟩ := hv.slice
  clear hv hsz
  go_enter Try.func21, Try.ntmps21
  go_wp2
  go_loopw [0, 3] (fun a0 a3 wr => ∃ (g : Nat) (us : List V) (ps : List D3), us.length ≤ g ∧ VsAt (fun b => b < W.heap.size) wr a0 us ∧ Hid (∀ y ∈ us, y.tok.tx.size ≤ 1000000000000) ∧ Row3 (fun _ => True) W.heap.size wr a3 ps ∧ Below W.heap.size W wr ∧ Hid (declsZ vs.length vs = ps.map D3.said ++ declsZ g us) ∧ ps.length + us.length ≤ vs.length) (fun a0 _ _ => sliceLen a0)
  case atStart => exact ⟨vs.length, vs, [], Nat.le_refl _, HV.out, HM.out, ⟨World.ownsRow_nil _ _ _ _, fun g hg => trivial, fun p hp => by cases hp⟩, Below.refl _ _, (rfl : _ = _), by simp⟩
  case round =>
    obtain ⟨g, us, ps, hg, hus, hmu, hrow, hB, hE, hpl⟩ := hrel
    clear HV HM
    cases us with
    | nil =>
      obtain ⟨a0, c0, rfl, _⟩ := hus.slice
      have HE : Hid (ps.map D3.said = declsZ vs.length vs) := by
        show _ = _
        rw [hE.out, declsZ_nil, List.append_nil]
      have HROW := hid_mk hrow
      clear hrow hE hus hmu
      go_wp2
      go_ret
      exact ⟨_, ps, rfl, HROW.out, HE.out, hB⟩
    | cons x r =>
      obtain ⟨g, rfl⟩ : ∃ g', g = g' + 1 := ⟨g - 1, by rw [List.length_cons] at hg; omega⟩
      obtain ⟨a0, c0, rfl, hl0, hc0⟩ := hus.slice
      have HUS := hid_mk hus
      have HMU := hid_mk hmu
      obtain ⟨_, _, _, hcs⟩ := hus.cells
      obtain ⟨b, off, kv, rfl, hbl, hcc, hkid⟩ := hcs 0 (by simp)
      simp only [Nat.zero_mul, Nat.add_zero, List.getElem_cons_zero] at hcc hkid
      obtain ⟨⟨tk, tx, un, wh, fl⟩, xk⟩ := x
      obtain ⟨ka, kc, rfl, _, _⟩ := hkid.slice
      have HQ : Hid (∀ w', Below wr.heap.size wr w' → w'.cell? ⟨b, off, none⟩ = some (.int .i64 tk) ∧ w'.cell? ⟨b, off + 1, none⟩ = some (.string tx) ∧ w'.cell? ⟨b, off + 2, none⟩ = some (.string un) ∧ w'.cell? ⟨b, off + 3, none⟩ = some (.bool wh) ∧ w'.cell? ⟨b, off + 4, none⟩ = some (.bool fl) ∧ w'.cell? ⟨b, off + 5, none⟩ = some (.slice ka xk.length kc)) := fun w' hw' =>
        have hq := fun j y hy => (hw'.cell (p := ⟨b, off + j, none⟩) hbl).trans (hcc j y hy)
        ⟨hq 0 _ rfl, hq 1 _ rfl, hq 2 _ rfl, hq 3 _ rfl, hq 4 _ rfl, hq 5 _ rfl⟩
      have HNE : Hid (declsZ (g + 1) (V.mk ⟨tk, tx, un, wh, fl⟩ xk :: r) = if hasZ [13, 17] tk then declsZ g r else if hasZ [3] tk then declsZ g ((V.mk ⟨tk, tx, un, wh, fl⟩ xk :: r).drop (nextZ [17, 23] (V.mk ⟨tk, tx, un, wh, fl⟩ xk :: r) + 1)) else (declZ (V.mk ⟨tk, tx, un, wh, fl⟩ xk) (r.take (nextZ [17] r))).toList ++ declsZ g (r.drop (nextZ [17] r))) := by
        show _ = _
        rw [declsZ]
        rfl
      have HIS : Hid (∀ w' k, Calls Try.prog 36 #[.agg #[.int .i64 tk, .string tx, .string un, .bool wh, .bool fl, .slice ka xk.length kc], .int .i64 k] w' fun e w'' => e = .returned (.bool (tk == k)) ∧ Below w'.heap.size w' w'') := fun w' k => ris_any w' tk tx un wh fl _ k
      rw [List.length_cons] at hg hl0 hpl
      simp only [List.length_cons]
      have HROW := hid_mk hrow
      have HBB := hid_mk hB
      clear hcs hcc hkid hus hmu hrow hB
      go_upto_region 3 with fail
      go_cut [10] (fun s8 wx => s8 = .bool (hasZ [13, 17] tk) ∧ Below wr.heap.size wr wx)
      case first =>
        obtain ⟨q0, q1, q2, q3, q4, q5⟩ := HQ.out wr (Below.refl _ _)
        go_wp2_with (go_at_call 36; fail)
        refine (HIS.out _ _).mono ?_
        rintro e w1 ⟨rfl, hb1⟩
        by_cases h13 : tk = 13
        · have z13 : (tk == 13) = true := by simpa using h13
          have HZ : Hid (hasZ [13, 17] tk = true) := by show _ = _; rw [h13]; decide
          clear h13
          go_wp2_with fail
          go_meet
          exact ⟨by rw [HZ.out], hb1⟩
        · have z13 : (tk == 13) = false := by simpa using h13
          obtain ⟨p0, p1, p2, p3, p4, p5⟩ := HQ.out w1 hb1
          clear q0 q1 q2 q3 q4 q5
          go_wp2_with (go_at_call 36; fail)
          refine (HIS.out _ _).mono ?_
          rintro e w2 ⟨rfl, hb2⟩
          have hB2 : Below wr.heap.size wr w2 := hb1.trans (hb2.mono hb1.size)
          have HZ : Hid (hasZ [13, 17] tk = (tk == 17)) := by
            show _ = _
            unfold hasZ
            simp [h13]
            rfl
          clear h13
          go_wp2_with fail
          go_meet
          exact ⟨by rw [HZ.out], hB2⟩
      case rest =>
      obtain ⟨rfl, hb1⟩ := hcut
      have HX17' : Hid (hasZ [13, 17] tk = false → hasZ [17] tk = false) := fun h => has17 h
      generalize hasZ [13, 17] tk = y1 at *
      have HZ3 : Hid (hasZ [3] tk = (tk == 3)) := by show _ = _; unfold hasZ; simp; rfl
      rw [HZ3.out] at HNE
      clear HZ3
      have hB1 : Below W.heap.size W wc := HBB.out.trans (hb1.mono HBB.out.size)
      have HR1 := hid_mk (HROW.out.keep hb1)
      have HU1 := hid_mk (HUS.out.keep hb1)
      clear HROW HBB
      cases y1 with
      | true =>
        have HN : Hid (declsZ vs.length vs = ps.map D3.said ++ declsZ g r) := by
          show _ = _
          rw [hE.out, HNE.out, if_pos rfl]
        clear HNE hE HIS
        go_wp2
        go_roundw
        case rel => exact ⟨g, r, ps, by omega, HU1.out.dropO 1 (by simp) (by simp) rfl (fun h => by simp only [List.length_cons] at h; rw [if_neg (by omega)]), fun y hy => HMU.out y (List.mem_cons_of_mem _ hy), HR1.out, hB1, HN.out, by omega⟩
        case measure => simp [sliceLen]
      | false =>
        have HX17 := hid_mk (HX17'.out rfl)
        clear HX17'
        obtain ⟨q0, q1, q2, q3, q4, q5⟩ := HQ.out wc hb1
        go_wp2_with (go_at_call 36; fail)
        refine (HIS.out _ _).mono ?_
        rintro e w2 ⟨rfl, hb2⟩
        have hB2 : Below W.heap.size W w2 := hB1.trans (hb2.mono hB1.size)
        have HR2 := hid_mk (HR1.out.keep hb2)
        have HU2 := hid_mk (HU1.out.keep hb2)
        clear HIS q0 q1 q2 q3 q4 q5 HR1 HU1 hB1 hb2 hb1 HQ HUS
        generalize (tk == 3) = y2 at *
        cases y2 with
        | true =>
          have HN : Hid (declsZ vs.length vs = ps.map D3.said ++ declsZ g ((V.mk ⟨tk, tx, un, wh, fl⟩ xk :: r).drop (nextZ [17, 23] (V.mk ⟨tk, tx, un, wh, fl⟩ xk :: r) + 1))) := by
            show _ = _
            rw [hE.out, HNE.out, if_neg (by decide), if_pos rfl]
          clear HNE hE
          have hba := ratv_any HU2.out (by simp only [List.length_cons]; omega)
          have hdl : ((V.mk ⟨tk, tx, un, wh, fl⟩ xk :: r).drop (nextZ [17, 23] (V.mk ⟨tk, tx, un, wh, fl⟩ xk :: r) + 1)).length ≤ r.length := by simp
          have HMD : Hid (∀ y ∈ (V.mk ⟨tk, tx, un, wh, fl⟩ xk :: r).drop (nextZ [17, 23] (V.mk ⟨tk, tx, un, wh, fl⟩ xk :: r) + 1), y.tok.tx.size ≤ 1000000000000) := fun y hy => HMU.out y (List.mem_of_mem_drop hy)
          simp only [List.length_cons] at hba
          generalize (V.mk ⟨tk, tx, un, wh, fl⟩ xk :: r).drop (nextZ [17, 23] (V.mk ⟨tk, tx, un, wh, fl⟩ xk :: r) + 1) = ds at *
          clear HU2 HMU
          go_wp2_with (go_at_call 37; fail)
          refine hba.mono ?_
          rintro e w3 ⟨o3, rfl, ho3, hb3⟩
          have HO3 := hid_mk ho3
          obtain ⟨a3, c3, rfl, _, _⟩ := ho3.slice
          clear ho3 hba
          go_wp2
          go_roundw
          case rel => exact ⟨g, ds, ps, by omega, HO3.out, HMD.out, HR2.out.keep hb3, hB2.trans (hb3.mono hB2.size), HN.out, by omega⟩
          case measure => simp [sliceLen]; omega
        | false =>
          have h17 : hasZ [17] tk = false := HX17.out
          have HN : Hid (declsZ vs.length vs = ps.map D3.said ++ ((declZ (V.mk ⟨tk, tx, un, wh, fl⟩ xk) (r.take (nextZ [17] r))).toList ++ declsZ g (r.drop (nextZ [17] r)))) := by
            show _ = _
            rw [hE.out, HNE.out, if_neg (by decide), if_neg (by decide)]
          have hnx : nextZ [17] (V.mk ⟨tk, tx, un, wh, fl⟩ xk :: r) = nextZ [17] r + 1 := by rw [nextZ, show (V.mk ⟨tk, tx, un, wh, fl⟩ xk).tok.k = tk from rfl, h17]; rfl
          clear HNE hE
          have hle := nextZ_le [17] r
          have HLT := hid_mk (nextZ_lt (ks := [17]) (V.mk ⟨tk, tx, un, wh, fl⟩ xk :: r))
          have HAT := hid_mk (nextZ_at (ks := [17]) (V.mk ⟨tk, tx, un, wh, fl⟩ xk :: r))
          rw [hnx] at HLT HAT
          have HTK : Hid ((V.mk ⟨tk, tx, un, wh, fl⟩ xk :: r).take (nextZ [17] r + 1) = V.mk ⟨tk, tx, un, wh, fl⟩ xk :: r.take (nextZ [17] r)) := (rfl : _ = _)
          have HDR : Hid ((V.mk ⟨tk, tx, un, wh, fl⟩ xk :: r).drop (nextZ [17] r + 1) = r.drop (nextZ [17] r)) := (rfl : _ = _)
          have hlu : (V.mk ⟨tk, tx, un, wh, fl⟩ xk :: r).length = r.length + 1 := rfl
          have HSU : Hid (∀ y ∈ V.mk ⟨tk, tx, un, wh, fl⟩ xk :: r.take (nextZ [17] r), y.tok.tx.size ≤ 1000000000000) := fun y hy => HMU.out y (by
            rcases List.mem_cons.1 hy with h | h
            · rw [h]; exact List.mem_cons_self ..
            · exact List.mem_cons_of_mem _ (List.mem_of_mem_take h))
          have HSD : Hid (∀ y ∈ r.drop (nextZ [17] r), y.tok.tx.size ≤ 1000000000000) := fun y hy => HMU.out y (List.mem_cons_of_mem _ (List.mem_of_mem_drop hy))
          rw [← hlu]
          rw [← hlu] at hg hl0 hpl
          have HLU := hid_mk hlu
          have hnm : nextZ [17] r + 1 ≤ (V.mk ⟨tk, tx, un, wh, fl⟩ xk :: r).length := by rw [hlu]; omega
          have HDX := hid_mk (fun w' (sl : Value) (h : VsAt (fun b => b < W.heap.size) w' sl (V.mk ⟨tk, tx, un, wh, fl⟩ xk :: r.take (nextZ [17] r))) => rdecl_any h (by rw [List.length_cons, List.length_take]; omega) HSU.out)
          generalize declZ (V.mk ⟨tk, tx, un, wh, fl⟩ xk) (r.take (nextZ [17] r)) = dz at *
          generalize V.mk ⟨tk, tx, un, wh, fl⟩ xk :: r.take (nextZ [17] r) = tks at *
          have hdl : (r.drop (nextZ [17] r)).length = r.length - nextZ [17] r := List.length_drop
          have HDL : Hid ((r.drop (nextZ [17] r)).length ≤ r.length) := by show _ ≤ _; omega
          generalize r.drop (nextZ [17] r) = drs at *
          generalize V.mk ⟨tk, tx, un, wh, fl⟩ xk :: r = us at *
          obtain ⟨n, hn0⟩ : ∃ n, n = nextZ [17] r + 1 := ⟨_, rfl⟩
          rw [← hn0] at HLT HAT HTK HDR hnm
          have hn1 : 0 < n := by omega
          clear hlu hnx hle hdl h17 HSU hn0 HMU HX17
          go_upto_block 3 with fail
          go_cut [4] (fun a4 wx => a4 = .int .i64 (n : Nat) ∧ Below w2.heap.size w2 wx)
          case first =>
            go_wp2_with fail
            go_loopw [4] (fun a4 wx => ∃ (k : Nat), a4 = .int .i64 k ∧ k ≤ n ∧ Below w2.heap.size w2 wx) (fun a4 _ => n + 1 - (intOf a4).toNat)
            case atStart => exact ⟨0, rfl, Nat.zero_le _, Below.refl _ _⟩
            case round =>
              obtain ⟨k, rfl, hk, hBq⟩ := hrel
              by_cases hku : k < us.length
              · obtain ⟨_, _, _, hcs⟩ := HU2.out.cells
                obtain ⟨bb, oo, kv, ebo, hbb, hcc, hkid⟩ := hcs k hku
                have e1 : bb = b := by injection ebo with e; injection e with e1 e2; exact e1.symm
                have e2 : oo = off := by injection ebo with e; injection e with e1 e2; exact e2.symm
                subst e1 e2
                have HLK := hid_mk (fun h => HLT.out k hku h)
                have HAK : Hid (∀ (h : k = n), hasZ [17] (us[k]'hku).tok.k = true) := fun h => by subst h; exact HAT.out hku
                obtain ⟨kb, kd, rfl, _, _⟩ := hkid.slice
                have hq := fun j y hy => (hBq.cell (p := ⟨bb, oo + k * 6 + j, none⟩) hbb).trans (hcc j y hy)
                have hbq : bb < wr.heap.size := Nat.lt_of_lt_of_le hbb hBq.size
                clear hcs hcc hkid ebo
                generalize (us[k]'hku).tok = tq at *
                generalize (us[k]'hku).kids.length = kn at *
                obtain ⟨sk, sx, sn, sh, sl⟩ := tq
                have q0 : wr.cell? ⟨bb, oo + k * 6, none⟩ = some (.int .i64 sk) := hq 0 _ rfl
                have q1 : wr.cell? ⟨bb, oo + k * 6 + 1, none⟩ = some (.string sx) := hq 1 _ rfl
                have q2 : wr.cell? ⟨bb, oo + k * 6 + 2, none⟩ = some (.string sn) := hq 2 _ rfl
                have q3 : wr.cell? ⟨bb, oo + k * 6 + 3, none⟩ = some (.bool sh) := hq 3 _ rfl
                have q4 : wr.cell? ⟨bb, oo + k * 6 + 4, none⟩ = some (.bool sl) := hq 4 _ rfl
                have q5 : wr.cell? ⟨bb, oo + k * 6 + 5, none⟩ = some (.slice kb kn kd) := hq 5 _ rfl
                have h36 := ris_any wr sk sx sn sh sl (.slice kb kn kd) 17
                clear hq
                go_wp2_with (go_at_call 36; fail)
                refine h36.mono ?_
                rintro e w3 ⟨rfl, hb3⟩
                have HB3 : Hid (Below w2.heap.size w2 w3) := hBq.trans (hb3.mono hBq.size)
                clear h36 hb3 hBq q0 q1 q2 q3 q4 q5
                by_cases hkn : k < n
                · have hz := HLK.out hkn
                  have z17 : (sk == 17) = false := by
                    have : hasZ [17] sk = false := hz
                    unfold hasZ at this
                    simpa using this
                  clear hz HLK HAK
                  go_wp2
                  go_roundw
                  case rel => exact ⟨k + 1, by go_num, by omega, HB3.out⟩
                  case measure => simp [intOf]; omega
                · have hkk : k = n := by omega
                  have hz := HAK.out hkk
                  have z17 : (sk == 17) = true := by
                    have : hasZ [17] sk = true := hz
                    unfold hasZ at this
                    simpa using this
                  clear hz HLK HAK
                  subst hkk
                  go_wp2_with fail
                  go_meet
                  exact ⟨rfl, HB3.out⟩
              · have hkk : k = n := by omega
                have HBQ := hid_mk hBq
                clear hBq
                subst hkk
                go_wp2_with fail
                go_meet
                exact ⟨rfl, HBQ.out⟩
          case rest =>
          obtain ⟨rfl, hbc⟩ := hcut
          have hBc : Below W.heap.size W wc := hB2.trans (hbc.mono hB2.size)
          have HRc := hid_mk (HR2.out.keep hbc)
          have HUc := hid_mk (HU2.out.keep hbc)
          have htake := HUc.out.take n hnm
          rw [HTK.out] at htake
          have h41 := HDX.out wc _ htake
          have hI1 : (0 : Int) ≤ (n : Int) := by omega
          have hI2 : (n : Int) ≤ (c0 : Int) := by omega
          have HLTc : Hid (∀ k, u3.ownBlock = some k → W.heap.size ≤ k ∧ k < wc.heap.size) := HRc.out.1.lt
          clear HLT HAT HTK HDX htake HR2 HU2 hbc
          go_wp2_with (go_at_call 41; fail)
          refine h41.mono ?_
          rintro e w3 ⟨hsaid, hb3⟩
          have hB3 : Below W.heap.size W w3 := hBc.trans (hb3.mono hBc.size)
          have HR3 := hid_mk (HRc.out.keep hb3)
          have HU3 := hid_mk (HUc.out.keep hb3)
          clear h41 HRc HUc hBc hb3 hB2
          cases dz with
          | none =>
            have he : e = .returned (.tuple #[.agg #[.string ⟨#[]⟩, .slice none 0 0, .bool false], .bool false]) := hsaid
            subst he
            have HN2 : Hid (declsZ vs.length vs = ps.map D3.said ++ declsZ g drs) := by
              show _ = _
              rw [HN.out]
              rfl
            have HBA : Hid (∀ o, Below W.heap.size W (w3.alloc o)) := fun o => hB3.alloc hB3.size o
            have HRA : Hid (∀ o, Row3 (fun _ => True) W.heap.size (w3.alloc o) u3 ps) := fun o => HR3.out.keep ((Below.refl _ w3).alloc (Nat.le_refl _) o)
            have HUA : Hid (∀ o, VsAt (fun b => b < W.heap.size) (w3.alloc o) (.slice (some ⟨b, off, none⟩) us.length c0) us) := fun o => HU3.out.keep ((Below.refl _ w3).alloc (Nat.le_refl _) o)
            clear hsaid HN HR3 HU3 hB3
            go_wp2
            all_goals
              have hlu := HLU.out
              have hdl := HDL.out
              exact ⟨⟨g, drs, ps, by omega, by rw [← HDR.out]; exact (HUA.out _).dropO n hnm rfl rfl (fun h => by rw [if_neg (by omega)]), HSD.out, HRA.out _, HBA.out _, HN2.out, by omega⟩, by simp only [sliceLen]; omega⟩
          | some d =>
            obtain ⟨out, he, hvo⟩ := hsaid
            subst he
            obtain ⟨dn, dv, di⟩ := d
            dsimp only at hvo ⊢
            have HVO := hid_mk hvo
            obtain ⟨oa, oc, rfl, _, _⟩ := hvo.slice
            have hown3 := HR3.out.1
            have hLT : ∀ k, u3.ownBlock = some k → W.heap.size ≤ k ∧ k < wc.heap.size := HLTc.out
            have HLT3 := hid_mk hLT
            have hA4 : Below w3.heap.size w3 (w3.alloc (.cells #[.string dn, .slice oa dv.length oc, .bool di] 48)) := (Below.refl _ w3).alloc (Nat.le_refl _) _
            have hx4 := heap_alloc_new w3 (.cells #[.string dn, .slice oa dv.length oc, .bool di] 48)
            have hB4 : Below W.heap.size W (w3.alloc (.cells #[.string dn, .slice oa dv.length oc, .bool di] 48)) := hB3.alloc hB3.size _
            have HR4 := hid_mk (HR3.out.keep hA4)
            have HU4 := hid_mk (HU3.out.keep hA4)
            have HVO4 := hid_mk (HVO.out.keep hA4)
            have HN2 : Hid (declsZ vs.length vs = (ps ++ [(⟨dn, .slice oa dv.length oc, dv, di⟩ : D3)]).map D3.said ++ declsZ g drs) := by
              show _ = _
              rw [HN.out, List.map_append, List.append_assoc]
              rfl
            clear hvo HVO hLT hown3 HR3 HU3 hB3 hA4 HN HLTc
            go_upto_region 12 with fail
            generalize w3.alloc (.cells #[.string dn, .slice oa dv.length oc, .bool di] 48) = w4 at *
            have k0 : w4.cell? ⟨w3.heap.size, 0, none⟩ = some (.string dn) := by simp [World.cell?, hx4]
            have k1 : w4.cell? ⟨w3.heap.size, 1, none⟩ = some (.slice oa dv.length oc) := by simp [World.cell?, hx4]
            have k2 : w4.cell? ⟨w3.heap.size, 2, none⟩ = some (.bool di) := by simp [World.cell?, hx4]
            have hown4 := HR4.out.1
            have hbs4 := hB4.size
            clear hx4
            go_wp2_with (at_builtin; go_must (refine wpList_append_own_at _ rfl _ _ 39 rfl W.heap.size 48 i0 _ 3 48 Try.underlying39 hi0 hz0 hz1 hz2 rfl (by decide) _ _ _ rfl (hown4.alloc _) ⟨w4.heap.size, 0, none⟩ 1 1 [.string dn, .slice oa dv.length oc, .bool di] rfl rfl (news3 w4 _ _ _) (by intro u hu; simp at hu; rcases hu with rfl | rfl | rfl <;> rfl) (by unfold maxLen; omega) (by omega) (by simp; omega) ?_); intro v' w7 hown7 hgrow7 _ hat7)
            all_goals
              have HRP : Hid (Row3 (fun _ => True) W.heap.size w7 v' (ps ++ [(⟨dn, .slice oa dv.length oc, dv, di⟩ : D3)])) := HR4.out.push (x := ⟨dn, .slice oa dv.length oc, dv, di⟩) (HVO4.out.wider (fun b hb _ => ⟨trivial, fun e => by have := HLT3.out b e; rcases hb with hb | hb <;> omega⟩)) hown7 hgrow7 hat7 trivial
              have hBw7 : Below W.heap.size W w7 := (hB4.alloc hbs4 _).grown hgrow7 (by simp; omega) (fun j hj => (hown4.lt j hj).1)
              have HU7 : Hid (VsAt (fun b => b < W.heap.size) w7 (.slice (some ⟨b, off, none⟩) us.length c0) us) := HU4.out.stay (by have := hgrow7.size; simp at this; omega) (fun b hb _ => (hBw7.block b hb).trans (hB4.block b hb).symm)
              have hlu := HLU.out
              have hdl := HDL.out
              exact ⟨⟨g, drs, _, by omega, by rw [← HDR.out]; exact HU7.out.dropO n hnm rfl rfl (fun h => by rw [if_neg (by omega)]), HSD.out, HRP.out, hBw7, HN2.out, by rw [List.length_append, List.length_singleton]; omega⟩, by simp only [sliceLen]; omega⟩

end Go.Proofs.Ytihdiaklhkecmaa
namespace Go.Proofs.Ytihdiaklhkecmaa
open Go.RowKit
set_option maxRecDepth 100000

set_option maxHeartbeats 400000 in
theorem ptrim_any {P : Nat → Prop} {W : World} {v : Value} {vs : List V} (hv : VsAt P W v vs) (hm : V.most vs) :
    Calls Try.prog 22 #[v] W fun e w' => ∃ out, e = .returned out ∧ VsAt (fun b => W.heap.size ≤ b) w' out (trimZ vs) ∧ Below W.heap.size W w' := by
  have h42 := trimmed_any hv hm.len
  have hm2 := trim_most hm
  unfold trimZ at hm2 ⊢
  obtain ⟨a, cap, rfl, _, _⟩ := hv.slice
  generalize aheadZ (vs.dropWhile spaceV) = tv at *
  go_enter Try.func22, Try.ntmps22
  go_wp2_with (go_at_call 42; fail)
  refine h42.mono ?_
  rintro e w1 ⟨o1, rfl, ho1, hb1⟩
  have h35 := own_any ho1 w1 (Below.refl _ _) hm2
  have HB1 := hid_mk hb1
  obtain ⟨a1, c1, rfl, _, _⟩ := ho1.slice
  clear h42 ho1 hb1
  go_wp2_with (go_at_call 35; fail)
  refine h35.mono ?_
  rintro e w2 ⟨o2, rfl, ho2, hb2⟩
  have HB2 : Hid (Below W.heap.size W w2) := HB1.out.trans (hb2.mono HB1.out.size)
  have HO2 : Hid (VsAt (fun b => W.heap.size ≤ b) w2 o2 tv) := ho2.wider (fun b hb _ => Nat.le_trans HB1.out.size hb)
  obtain ⟨a2, c2, rfl, _, _⟩ := ho2.slice
  clear h35 ho2 hb2
  go_wp2
  go_ret
  exact ⟨_, rfl, HO2.out, HB2.out⟩
theorem great_no {vs : List V} (h : greatZ vs = false) : countL vs ≤ 3000 := by
  unfold greatZ at h
  have h2 : decide (3000 < countL vs) = false := by
    cases hd : deepL vs 100 <;> simp_all
  have := of_decide_eq_false h2
  omega
set_option maxHeartbeats 1000000 in
theorem pdecls_walk {P : Nat → Prop} {W : World} {v u : Value} {vs us : List V} (hv : VsAt P W v vs) (hc : countL vs ≤ 2000000) (hsz : ∀ y ∈ vs, y.tok.tx.size ≤ 1000000000) (hu : VsAt P W u us) (hd : countL us ≤ 2000000) : Calls Try.prog 5 #[v, u] W fun e w' => e = .returned (.bool true) ∧ Below W.heap.size W w' := by
  have HV := hid_mk hv
  have HU := hid_mk hu
  have HL : Hid (∀ w, Calls Try.prog 9 #[] w fun e w' => e = .returned (.bool true) ∧ Below w.heap.size w w') := lives_any
  have h13 := great_any hv W (Below.refl _ _) hc
  have H13 : Hid (∀ w, Below W.heap.size W w → Calls Try.prog 13 #[u] w fun e w' => e = .returned (.bool (greatZ us)) ∧ Below w.heap.size w w') := fun w hw => great_any HU.out w hw hd
  have HGR : Hid (greatZ vs = false → countL vs ≤ 3000) := great_no
  have HS := hid_mk hsz
  obtain ⟨a, cap, rfl, hl, hcap⟩ := hv.slice
  obtain ⟨a', cap', rfl, hl', hcap'⟩ := hu.slice
  clear hv hu hsz
  generalize greatZ vs = gz at *
  generalize greatZ us = gy at *
  go_enter Try.func5, Try.ntmps5
  go_wp2_with (go_at_call 13; fail)
  refine h13.mono ?_
  rintro e w1 ⟨rfl, hb1⟩
  have HB1 := hid_mk hb1
  clear h13 hb1
  cases gz with
  | true =>
    clear HGR
    go_wp2_with (go_at_call 9; fail)
    refine (HL.out _).mono ?_
    rintro e w2 ⟨rfl, hb2⟩
    have HB2 : Hid (Below W.heap.size W w2) := HB1.out.trans (hb2.mono HB1.out.size)
    clear hb2
    go_wp2
    go_ret
    exact ⟨rfl, HB2.out⟩
  | false =>
    have h13 := H13.out w1 HB1.out
    go_wp2_with (go_at_call 13; fail)
    refine h13.mono ?_
    rintro e w2 ⟨rfl, hb2⟩
    have HB2 : Hid (Below W.heap.size W w2) := HB1.out.trans (hb2.mono HB1.out.size)
    clear h13 hb2 H13 HB1
    cases gy with
    | true =>
      clear HGR
      go_wp2_with (go_at_call 9; fail)
      refine (HL.out _).mono ?_
      rintro e w3 ⟨rfl, hb3⟩
      have HB3 : Hid (Below W.heap.size W w3) := HB2.out.trans (hb3.mono HB2.out.size)
      clear hb3
      go_wp2
      go_ret
      exact ⟨rfl, HB3.out⟩
    | false =>
      have hct := HGR.out (by first | rfl | trivial)
      have HM := hid_mk (count_most _ vs (Nat.le_refl _) (by omega))
      have hln := count_len vs
      have HV2 := hid_mk (HV.out.keep HB2.out)
      have h20 := decls_any HV2.out HM.out (fun y hy => Nat.le_trans (HS.out y hy) (by decide)) (by omega)
      clear HGR
      go_wp2_with (go_at_call 20; fail)
      refine h20.mono ?_
      rintro e w3 ⟨o3, ps, rfl, hr3, hd3, hb3⟩
      have HV3 := hid_mk (HV2.out.keep hb3)
      have HB3 : Hid (Below W.heap.size W w3) := HB2.out.trans (hb3.mono HB2.out.size)
      have HR3 := hid_mk hr3
      have HD3 := hid_mk hd3
      obtain ⟨pa, pc, rfl, _, _, -⟩ := owns_cells hr3.1
      clear h20 hr3 hd3 hb3 HV2 HB2
      have h21 := rdecls_any HV3.out (fun y hy => Nat.le_trans (HS.out y hy) (by decide)) (by omega)
      go_wp2_with (go_at_call 21; fail)
      refine h21.mono ?_
      rintro e w4 ⟨o4, qs, rfl, hr4, hd4, hb4⟩
      have HV4 := hid_mk (HV3.out.keep hb4)
      have HB4 : Hid (Below W.heap.size W w4) := HB3.out.trans (hb4.mono HB3.out.size)
      have h19 := samedecls_yes (HR3.out.keep hb4) hr4 (by rw [HD3.out, hd4]) w4 (Below.refl _ _)
      obtain ⟨qa, qc, rfl, _, _, -⟩ := owns_cells hr4.1
      clear h21 hr4 hd4 hb4 HV3 HB3 HR3 HD3
      go_wp2_with (go_at_call 19; fail)
      refine h19.mono ?_
      rintro e w5 ⟨rfl, m5, rfl⟩
      have HB5 : Hid (Below W.heap.size W (w4.drewN m5)) := HB4.out.trans (below_drewN5 _ _ _)
      have HV5 := hid_mk (HV4.out.keep (below_drewN5 _ w4 m5))
      clear h19 HV4 HB4
      generalize w4.drewN m5 = w5 at *
      have h22 := ptrim_any HV5.out HM.out
      go_wp2_with (go_at_call 22; fail)
      refine h22.mono ?_
      rintro e w6 ⟨o6, rfl, ho6, hb6⟩
      have HV6 := hid_mk (HV5.out.keep hb6)
      have HB6 : Hid (Below W.heap.size W w6) := HB5.out.trans (hb6.mono HB5.out.size)
      have HO6 := hid_mk ho6
      obtain ⟨a6, c6, rfl, _, _⟩ := ho6.slice
      clear h22 ho6 hb6 HV5 HB5
      have h23 := rtrim_any HV6.out (by omega)
      go_wp2_with (go_at_call 23; fail)
      refine h23.mono ?_
      rintro e w7 ⟨o7, rfl, ho7, hb7⟩
      have HB7 : Hid (Below W.heap.size W w7) := HB6.out.trans (hb7.mono HB6.out.size)
      have h10 := rsame_yes (HO6.out.keep hb7) o7 ho7 w7 (Below.refl _ _)
      obtain ⟨a7, c7, rfl, _, _⟩ := ho7.slice
      clear h23 ho7 hb7 HV6 HB6 HO6
      generalize (trimZ vs).length = tl at *
      go_wp2_with (go_at_call 10; fail)
      refine h10.mono ?_
      rintro e w8 ⟨rfl, m8, rfl⟩
      have HB8 : Hid (Below W.heap.size W (w7.drewN m8)) := HB7.out.trans (below_drewN5 _ _ _)
      clear h10 HB7
      generalize w7.drewN m8 = w8 at *
      obtain ⟨p, hp⟩ : ∃ p : Bool, p = true ↔ vs = us := by
        classical exact ⟨decide (vs = us), decide_eq_true_iff⟩
      have h24 := psame_any (HV.out.keep HB8.out) _ _ (HU.out.keep HB8.out) w8 (Below.refl _ _) p hp
      go_wp2_with (go_at_call 24; fail)
      refine h24.mono ?_
      rintro e w9 ⟨rfl, hb9⟩
      have HB9 : Hid (Below W.heap.size W w9) := HB8.out.trans (hb9.mono HB8.out.size)
      clear h24 hb9 HB8
      have h10 := rsame_any (HV.out.keep HB9.out) _ _ (HU.out.keep HB9.out) w9 (Below.refl _ _) p hp
      go_wp2_with (go_at_call 10; fail)
      refine h10.mono ?_
      rintro e w10 ⟨rfl, m10, rfl⟩
      have HB10 : Hid (Below W.heap.size W (w9.drewN m10)) := HB9.out.trans (below_drewN5 _ _ _)
      clear h10 HB9 hp
      generalize w9.drewN m10 = w10 at *
      have h24 := psame_any (HV.out.keep HB10.out) _ _ (HV.out.keep HB10.out) w10 (Below.refl _ _) true (by simp)
      have zp : (p == p) = true := by cases p <;> rfl
      go_wp2_with (go_at_call 24; fail)
      refine h24.mono ?_
      rintro e w11 ⟨rfl, hb11⟩
      have HB11 : Hid (Below W.heap.size W w11) := HB10.out.trans (hb11.mono HB10.out.size)
      clear h24 hb11 HB10
      go_wp2_with (go_at_call 9; fail)
      refine (HL.out _).mono ?_
      rintro e w12 ⟨rfl, hb12⟩
      have HB12 : Hid (Below W.heap.size W w12) := HB11.out.trans (hb12.mono HB11.out.size)
      clear hb12 HB11
      go_wp2
      go_ret
      exact ⟨rfl, HB12.out⟩

end Go.Proofs.Ytihdiaklhkecmaa
