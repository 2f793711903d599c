/- gouachelaw03.ParseValues: the walk. -/
import Derived.Test.YtihdiaklhkecmaaLivesV
namespace Go.Proofs.Ytihdiaklhkecmaa
open Go.RowKit
set_option maxRecDepth 100000

theorem flat5c_at : ∀ (ts : List T5) (k i : Nat) (h : k < ts.length), i < 5 → (ts.flatMap t5Cells)[k * 5 + i]? = (t5Cells (ts[k]'h))[i]?
  | [], k, _, h, _ => by simp at h
  | t :: r, 0, i, _, hi => by
    simp only [List.flatMap_cons, Nat.zero_mul, Nat.zero_add]
    rw [List.getElem?_append_left (by simpa [t5Cells] using hi)]
    rfl
  | t :: r, k + 1, i, h, hi => by
    have e : (k + 1) * 5 + i = 5 + (k * 5 + i) := by omega
    rw [List.flatMap_cons, e, List.getElem?_append_right (by simp [t5Cells])]
    have e2 : 5 + (k * 5 + i) - (t5Cells t).length = k * 5 + i := by simp [t5Cells]
    rw [e2]
    exact flat5c_at r k i (by simpa using h) hi
theorem flat5c_len (ts : List T5) : (ts.flatMap t5Cells).length = ts.length * 5 := by
  induction ts with
  | nil => rfl
  | cons t r ih =>
    rw [List.flatMap_cons, List.length_append, ih, List.length_cons]
    simp [t5Cells]
    omega
theorem TsAt.own5 {w : World} {B : Nat} {v : Value} {ts : List T5} (h : w.ownsRow B 44 5 v ts.length (ts.flatMap t5Cells)) : TsAt w v ts := by
  obtain ⟨hl, h⟩ := h
  rcases h with ⟨rfl, hn⟩ | ⟨g, cap, cur, rfl, _, hg, hnc, hcm, hsz, hx⟩
  · have hts : ts = [] := List.length_eq_zero_iff.1 hn
    subst hts
    exact TsAt.nil w
  · refine ⟨_, cap, rfl, by omega, hcm, fun _ => ⟨g, 0, rfl, (Array.getElem?_eq_some_iff.1 hg).1, fun i hi j y hy => ?_⟩⟩
    have hj : j < 5 := by
      have := (List.getElem?_eq_some_iff.1 hy).1
      simpa [t5Cells] using this
    have h1 : (ts.flatMap t5Cells)[i * 5 + j]? = some y := by rw [flat5c_at ts i j hi hj, ← hy]
    have hlt : i * 5 + j < ts.length * 5 := by omega
    rw [← hx, List.getElem?_take_of_lt hlt] at h1
    rw [Nat.zero_add]
    simp only [World.cell?, hg]
    simpa using h1
theorem TsAt.news {W : World} {b off n c : Nat} {ts : List T5} (h : TsAt W (.slice (some ⟨b, off, none⟩) n c) ts) : ∀ j u, (ts.flatMap t5Cells)[j]? = some u → W.cell? ((⟨b, off, none⟩ : Addr).add j) = some u := by
  intro j u hu
  have hlt := (List.getElem?_eq_some_iff.1 hu).1
  rw [flat5c_len] at hlt
  obtain ⟨a, c', hv, _, _, h3⟩ := h
  obtain ⟨b', off', ea, hb, hc⟩ := h3 (by omega)
  subst ea
  cases hv
  have e : j = j / 5 * 5 + j % 5 := by omega
  have hk : j / 5 < ts.length := by omega
  rw [e, flat5c_at ts (j / 5) (j % 5) hk (by omega)] at hu
  have := hc (j / 5) hk (j % 5) u hu
  rw [Addr.add_mid, show off + j = off + j / 5 * 5 + j % 5 by omega]
  exact this
theorem wpList_append_same {P : Program} (w : World) {ops : Array Oper} {rest : List Oper} {o : Oper} {a : Act} {Q : Exit → Act → World → Prop} (hgd : o.guard = none) (s x : Operand) (t : TypeId)
    (ho : o.op = .call { callee := .builtin .append, args := #[s, x], argTypes := #[t, t] }) (v u : Value) (hs : a.eval s = v) (hx : a.eval x = u) (hr : (Builtin.append_ #[t, t] o.type #[v, u]).run P w = .ok v w) (h : wpList P ops Q rest (a.put o.dst v) w) : wpList P ops Q (o :: rest) a w := by
  refine wpList_plain hgd fun K hK => ?_
  unfold Oper.wp execOp
  simp only [ho, resolve, invoke, builtin, Sem.run_bind, Sem.run_pure, Result.andThen_ok, List.map_toArray, List.map_cons, List.map_nil, hs, hx, hr]
  exact hK _ _ h
set_option maxHeartbeats 1000000 in
theorem pvalues_walk {W : World} {v : Value} {ts : List T5} (hv : TsAt W v ts) : Calls Try.prog 3 #[v] W fun e w' => e = .returned (.bool true) ∧ Below W.heap.size W w' := by
  obtain ⟨i0, hi0, hz0, hz1, hz2⟩ := info_parts Try.info44
  have HV := hid_mk hv
  have HL : Hid (∀ w, Calls Try.prog 9 #[] w fun e w' => e = .returned (.bool true) ∧ Below w.heap.size w w') := lives_any
  obtain ⟨a, cap, rfl, hl, hcap, hx⟩ := hv
  by_cases h3 : 3000 < ts.length
  · go_enter Try.func3, Try.ntmps3
    go_wp2_with (go_at_call 9; fail)
    refine (HL.out _).mono ?_
    rintro e w' ⟨rfl, hb⟩
    go_wp2
    go_ret
    exact ⟨rfl, hb⟩
  · have HRV : Hid (∀ w, Below W.heap.size W w → Calls Try.prog 12 #[.slice a ts.length cap] w fun e w' => ∃ out, e = .returned out ∧ VsAt (fun b => w.heap.size ≤ b) w' out (valsZ ts) ∧ Below w.heap.size w w') := fun w hw => rvalues_any (HV.out.keep hw) (by omega)
    have HVA : Hid (∀ w u, TsAt w u ts → Calls Try.prog 11 #[u] w fun e w' => ∃ out, e = .returned out ∧ VsAt (fun b => w.heap.size ≤ b) w' out (valsZ ts) ∧ Below w.heap.size w w') := fun w u hu => values_any hu (by omega)
    by_cases h0 : ts = []
    · have hal : Below W.heap.size W (W.alloc (.cells #[] 44)) := (Below.refl _ W).alloc (Nat.le_refl _) _
      have hown : (W.alloc (.cells #[] 44)).ownsRow W.heap.size 44 5 (.slice (some ⟨W.heap.size, 0, none⟩) 0 0) 0 [] := World.ownsRow_lit (base := W.heap.size) (e := 44) (size := 5) W #[] 0 (Nat.le_refl _) (by decide) rfl
      have hln : ts.length = 0 := by rw [h0]; rfl
      have hap : (Builtin.append_ #[22, 22] 22 #[.slice (some ⟨W.heap.size, 0, none⟩) 0 0, .slice a ts.length cap]).run Try.prog (W.alloc (.cells #[] 44)) = .ok (.slice (some ⟨W.heap.size, 0, none⟩) 0 0) (W.alloc (.cells #[] 44)) := by
        rw [hln]
        cases a <;> simp [Builtin.append_, run_underlying Try.underlying22, sizeOf, typeInfo, hi0, Builtin.lenOf, Builtin.firstCells, loadCells, loadCellsFrom, storeCells]
      have hts : TsAt (W.alloc (.cells #[] 44)) (.slice (some ⟨W.heap.size, 0, none⟩) 0 0) ts := by
        have h := hown
        rw [h0]
        exact TsAt.own5 (by simpa using h)
      have hB7 := hal
      clear hx h0 hln
      go_enter Try.func3, Try.ntmps3
      go_wp2_with (at_builtin; go_must (refine wpList_append_same _ rfl _ _ 22 rfl _ _ rfl rfl hap ?_))
      obtain ⟨w7, hw7⟩ : ∃ w7, w7 = W.alloc (.cells #[] 44) := ⟨_, rfl⟩
      rw [← hw7] at hts hB7
      rw [← hw7]
      clear hw7 hal
      have h11 := HVA.out w7 (.slice (some ⟨W.heap.size, 0, none⟩) 0 0) hts
      clear hap hown
      refine h11.mono ?_
      rintro e w8 ⟨o8, rfl, ho8, hb8⟩
      have hB8 : Below W.heap.size W w8 := hB7.trans (hb8.mono hB7.size)
      have h12 := HRV.out w8 hB8
      obtain ⟨a8, c8, rfl, _, _⟩ := ho8.slice
      clear h11 hts
      go_wp2_with (go_at_call 12; fail)
      refine h12.mono ?_
      rintro e w9 ⟨o9, rfl, ho9, hb9⟩
      have hB9 : Below W.heap.size W w9 := hB8.trans (hb9.mono hB8.size)
      have h10 := rsame_yes (ho8.keep hb9) o9 ho9 w9 (Below.refl _ _)
      obtain ⟨a9, c9, rfl, _, _⟩ := ho9.slice
      generalize (valsZ ts).length = zl at *
      clear h12 ho8 ho9
      go_wp2_with (go_at_call 10; fail)
      refine h10.mono ?_
      rintro e w10 ⟨rfl, m, rfl⟩
      clear h10
      go_wp2_with (go_at_call 9; fail)
      refine (HL.out _).mono ?_
      rintro e w11 ⟨rfl, hb11⟩
      have hB10 : Below W.heap.size W (w9.drewN m) := hB9.trans (below_drewN5 _ _ _)
      have HBF : Hid (Below W.heap.size W w11) := hB10.trans (hb11.mono hB10.size)
      clear hb11 hB10
      go_wp2
      go_ret
      exact ⟨rfl, HBF.out⟩
    · have hp : 0 < ts.length := List.length_pos_iff.2 h0
      obtain ⟨b, off, rfl, hbl, _⟩ := hx hp
      have hal : Below W.heap.size W (W.alloc (.cells #[] 44)) := (Below.refl _ W).alloc (Nat.le_refl _) _
      have hown : (W.alloc (.cells #[] 44)).ownsRow W.heap.size 44 5 (.slice (some ⟨W.heap.size, 0, none⟩) 0 0) 0 [] := World.ownsRow_lit (base := W.heap.size) (e := 44) (size := 5) W #[] 0 (Nat.le_refl _) (by decide) rfl
      have hnw := TsAt.news (HV.out.keep hal)
      have hone : ∀ u ∈ ts.flatMap t5Cells, u.oneCell' = true := by
        intro u hu
        obtain ⟨t, _, ht⟩ := List.mem_flatMap.1 hu
        simp [t5Cells] at ht
        rcases ht with rfl | rfl | rfl | rfl | rfl <;> rfl
      have hlen := flat5c_len ts
      have HLN := hid_mk hlen
      clear hx h0 hlen
      go_enter Try.func3, Try.ntmps3
      go_wp2_with (at_builtin; go_must (refine wpList_append_own _ rfl _ _ 22 rfl W.heap.size 44 i0 _ 5 48 Try.underlying22 hi0 hz0 hz1 hz2 rfl (by decide) _ _ _ rfl hown ⟨b, off, none⟩ ts.length cap (ts.flatMap t5Cells) rfl HLN.out hnw hone (by unfold maxLen; omega) (by omega) (by simp) ?_); intro v' w7 hown7 hgrow7 _)
      have hB7 : Below W.heap.size W w7 := hal.grown hgrow7 (by simp) (fun k hk => (hown.lt k hk).1)
      have hts : TsAt w7 v' ts := TsAt.own5 (by simpa using hown7)
      have h11 := HVA.out w7 v' hts
      clear hown7 hgrow7 hnw hone hown hal
      refine h11.mono ?_
      rintro e w8 ⟨o8, rfl, ho8, hb8⟩
      have hB8 : Below W.heap.size W w8 := hB7.trans (hb8.mono hB7.size)
      have h12 := HRV.out w8 hB8
      obtain ⟨a8, c8, rfl, _, _⟩ := ho8.slice
      clear h11 hts
      go_wp2_with (go_at_call 12; fail)
      refine h12.mono ?_
      rintro e w9 ⟨o9, rfl, ho9, hb9⟩
      have hB9 : Below W.heap.size W w9 := hB8.trans (hb9.mono hB8.size)
      have h10 := rsame_yes (ho8.keep hb9) o9 ho9 w9 (Below.refl _ _)
      obtain ⟨a9, c9, rfl, _, _⟩ := ho9.slice
      generalize (valsZ ts).length = zl at *
      clear h12 ho8 ho9
      go_wp2_with (go_at_call 10; fail)
      refine h10.mono ?_
      rintro e w10 ⟨rfl, m, rfl⟩
      clear h10
      go_wp2_with (go_at_call 9; fail)
      refine (HL.out _).mono ?_
      rintro e w11 ⟨rfl, hb11⟩
      have hB10 : Below W.heap.size W (w9.drewN m) := hB9.trans (below_drewN5 _ _ _)
      have HBF : Hid (Below W.heap.size W w11) := hB10.trans (hb11.mono hB10.size)
      clear hb11 hB10
      go_wp2
      go_ret
      exact ⟨rfl, HBF.out⟩

end Go.Proofs.Ytihdiaklhkecmaa
