/- Attr, SetAttr, DropAttr. -/
import Derived.Test.YtdiljkmlneeboaaGreatWeaN
import Derived.Laws.EntriesVeiled
namespace Go.Proofs.YtdiljkmlneeboaaGreat.N
open Go.RowKit
set_option maxRecDepth 100000

set_option maxHeartbeats 400000 in
theorem wears_any (w : World) (id : Int) (nm : ByteArray) (v : ByteArray) : Calls Tryz.prog 61 #[.int .i64 id, .string nm, .string v] w fun e w' => e = .returned (.agg #[.int .i64 id, .func (Fn.func 99) #[] #[.pointer (some ⟨w.heap.size, 0, none⟩), .pointer (some ⟨w.heap.size + 1, 0, none⟩)]]) ∧ (w'.cell? ⟨w.heap.size, 0, none⟩ = some (.string nm) ∧ w'.cell? ⟨w.heap.size + 1, 0, none⟩ = some (.string v)) ∧ w.heap.size + 1 + 1 < w'.heap.size ∧ Below w.heap.size w w' := by
  obtain ⟨q1, q2⟩ := box_cell (box_last ((w.alloc (.cells #[.string nm] 9)).alloc (.cells #[.string v] 9)) (w.heap.size + 1 + 1) (by simp) (.cells #[.int .i64 id, .nilFunc] 98))
  have hF := box_last ((w.alloc (.cells #[.string nm] 9)).alloc (.cells #[.string v] 9)) (w.heap.size + 1 + 1) (by simp) (.cells #[.int .i64 id, .func (Fn.func 99) #[] #[.pointer (some ⟨w.heap.size, 0, none⟩), .pointer (some ⟨w.heap.size + 1, 0, none⟩)]] 98)
  have r0 := one_cell (box_keep _ _ (.cells #[.int .i64 id, .func (Fn.func 99) #[] #[.pointer (some ⟨w.heap.size, 0, none⟩), .pointer (some ⟨w.heap.size + 1, 0, none⟩)]] 98) _ (box_keep _ _ (.cells #[.string v] 9) _ (box_last w (w.heap.size) (by simp) (.cells #[.string nm] 9))))
  have r1 := one_cell (box_keep _ _ (.cells #[.int .i64 id, .func (Fn.func 99) #[] #[.pointer (some ⟨w.heap.size, 0, none⟩), .pointer (some ⟨w.heap.size + 1, 0, none⟩)]] 98) _ (box_last (w.alloc (.cells #[.string nm] 9)) (w.heap.size + 1) (by simp) (.cells #[.string v] 9)))
  have hB : Below w.heap.size w (((w.alloc (.cells #[.string nm] 9)).alloc (.cells #[.string v] 9)).alloc (.cells #[.int .i64 id, .func (Fn.func 99) #[] #[.pointer (some ⟨w.heap.size, 0, none⟩), .pointer (some ⟨w.heap.size + 1, 0, none⟩)]] 98)) := (((Below.refl w.heap.size w).alloc (by simp) _).alloc (by simp <;> omega) _).alloc (by simp <;> omega) _
  have HF := hid_mk hF
  have HB := hid_mk hB
  have HR0 := hid_mk r0
  have HR1 := hid_mk r1
  clear hF hB r0 r1
  go_enter Tryz.func61, Tryz.ntmps61
  go_wp2
  obtain ⟨y0, y1, hl⟩ := chg_cell HF.out
  exact bodyPost_ret (v := .agg #[.int .i64 id, .func (Fn.func 99) #[] #[.pointer (some ⟨w.heap.size, 0, none⟩), .pointer (some ⟨w.heap.size + 1, 0, none⟩)]]) (by simp [results, Tryz.results61, go_sem]) rfl ⟨rfl, ⟨HR0.out, HR1.out⟩, hl, HB.out⟩
set_option maxHeartbeats 400000 in
theorem sheds_any (w : World) (id : Int) (nm : ByteArray) : Calls Tryz.prog 62 #[.int .i64 id, .string nm] w fun e w' => e = .returned (.agg #[.int .i64 id, .func (Fn.func 101) #[] #[.pointer (some ⟨w.heap.size, 0, none⟩)]]) ∧ (w'.cell? ⟨w.heap.size, 0, none⟩ = some (.string nm)) ∧ w.heap.size + 1 < w'.heap.size ∧ Below w.heap.size w w' := by
  obtain ⟨q1, q2⟩ := box_cell (box_last (w.alloc (.cells #[.string nm] 9)) (w.heap.size + 1) (by simp) (.cells #[.int .i64 id, .nilFunc] 98))
  have hF := box_last (w.alloc (.cells #[.string nm] 9)) (w.heap.size + 1) (by simp) (.cells #[.int .i64 id, .func (Fn.func 101) #[] #[.pointer (some ⟨w.heap.size, 0, none⟩)]] 98)
  have r0 := one_cell (box_keep _ _ (.cells #[.int .i64 id, .func (Fn.func 101) #[] #[.pointer (some ⟨w.heap.size, 0, none⟩)]] 98) _ (box_last w (w.heap.size) (by simp) (.cells #[.string nm] 9)))
  have hB : Below w.heap.size w ((w.alloc (.cells #[.string nm] 9)).alloc (.cells #[.int .i64 id, .func (Fn.func 101) #[] #[.pointer (some ⟨w.heap.size, 0, none⟩)]] 98)) := ((Below.refl w.heap.size w).alloc (by simp) _).alloc (by simp <;> omega) _
  have HF := hid_mk hF
  have HB := hid_mk hB
  have HR0 := hid_mk r0
  clear hF hB r0
  go_enter Tryz.func62, Tryz.ntmps62
  go_wp2
  obtain ⟨y0, y1, hl⟩ := chg_cell HF.out
  exact bodyPost_ret (v := .agg #[.int .i64 id, .func (Fn.func 101) #[] #[.pointer (some ⟨w.heap.size, 0, none⟩)]]) (by simp [results, Tryz.results62, go_sem]) rfl ⟨rfl, HR0.out, hl, HB.out⟩
/-- The boxes of a change of an attribute. -/
def WeaAt (W : World) (k : Nat) (nm v : ByteArray) : Prop := (W.cell? ⟨k, 0, none⟩ = some (.string nm) ∧ W.cell? ⟨k + 1, 0, none⟩ = some (.string v)) ∧ k + 1 < W.heap.size
def SheAt (W : World) (k : Nat) (nm : ByteArray) : Prop := W.cell? ⟨k, 0, none⟩ = some (.string nm) ∧ k < W.heap.size
theorem WeaAt.keep {W W' : World} {k : Nat} {nm v : ByteArray} (h : WeaAt W k nm v) (hb : Below W.heap.size W W') : WeaAt W' k nm v :=
  ⟨⟨(hb.cell (p := ⟨k, 0, none⟩) (by have := h.2; dsimp only; omega)).trans h.1.1, (hb.cell (p := ⟨k + 1, 0, none⟩) h.2).trans h.1.2⟩, Nat.lt_of_lt_of_le h.2 hb.size⟩
theorem SheAt.keep {W W' : World} {k : Nat} {nm : ByteArray} (h : SheAt W k nm) (hb : Below W.heap.size W W') : SheAt W' k nm :=
  ⟨(hb.cell (p := ⟨k, 0, none⟩) h.2).trans h.1, Nat.lt_of_lt_of_le h.2 hb.size⟩
theorem wears_at {w W : World} (hW : Below w.heap.size w W) (id : Int) (nm v : ByteArray) : Calls Tryz.prog 61 #[.int .i64 id, .string nm, .string v] W fun e w' => ∃ k, e = .returned (.agg #[.int .i64 id, .func (Fn.func 99) #[] #[.pointer (some ⟨k, 0, none⟩), .pointer (some ⟨k + 1, 0, none⟩)]]) ∧ Hid (WeaAt w' k nm v) ∧ Below w.heap.size w w' := by
  refine (wears_any W id nm v).mono ?_
  rintro e w' ⟨rfl, h1, h2, hB⟩
  exact ⟨_, rfl, hid_mk ⟨h1, by omega⟩, hW.trans (hB.mono hW.size)⟩
theorem sheds_at {w W : World} (hW : Below w.heap.size w W) (id : Int) (nm : ByteArray) : Calls Tryz.prog 62 #[.int .i64 id, .string nm] W fun e w' => ∃ k, e = .returned (.agg #[.int .i64 id, .func (Fn.func 101) #[] #[.pointer (some ⟨k, 0, none⟩)]]) ∧ Hid (SheAt w' k nm) ∧ Below w.heap.size w w' := by
  refine (sheds_any W id nm).mono ?_
  rintro e w' ⟨rfl, h1, h2, hB⟩
  exact ⟨_, rfl, hid_mk ⟨h1, by omega⟩, hW.trans (hB.mono hW.size)⟩
theorem does_wears {w0 : World} {k : Nat} {nm v : ByteArray} (h : WeaAt w0 k nm v) (e : El) (hs : Srt e.us) (hn : e.us.length ≤ 1000) : Does w0 99 [.pointer (some ⟨k, 0, none⟩), .pointer (some ⟨k + 1, 0, none⟩)] e { e with us := setU e.us nm v } := by
  intro w g s hW hg hN hE o1 o2
  have h' := h.keep hW
  refine (wears1 hN h'.1.1 h'.1.2 hE.2.2.2.2 hs hn (by have := h'.2; omega) h'.2).mono ?_
  rintro x w' ⟨a', c', rfl, q1, q3, q2⟩
  exact ⟨rfl, _, q1, ⟨hE.1, hE.2.1, hE.2.2.1, hE.2.2.2.1.keepOld o1 q2, q3⟩, q2⟩
theorem does_sheds {w0 : World} {k : Nat} {nm : ByteArray} (h : SheAt w0 k nm) (e : El) (hs : Srt e.us) (hn : e.us.length ≤ 1000) (hv : (valA e.us nm).isSome = true) : Does w0 101 [.pointer (some ⟨k, 0, none⟩)] e { e with us := dropU e.us nm } := by
  intro w g s hW hg hN hE o1 o2
  have h' := h.keep hW
  refine (sheds1 hN h'.1 hE.2.2.2.2 hs hn hv).mono ?_
  rintro x w' ⟨a', c', rfl, q1, q3, q2⟩
  exact ⟨rfl, _, q1, ⟨hE.1, hE.2.1, hE.2.2.1, hE.2.2.2.1.keepOld o1 q2, q3⟩, q2⟩
theorem uOk.srt {us : Us} (h : uOk us) : Srt us := h.2.1
theorem uOk.len {us : Us} (h : uOk us) : us.length ≤ 1000 := by have := h.1; omega
variable {m : M} {nx : Int} {d : Int → Nat}
theorem wea_changed {w W3 W : World} {tp : Value} {id : Int} {e : El} {nm v : ByteArray} {k : Nat} (hT : TrM w tp m) (hw : Below w.heap.size w W3) (hW : Below W3.heap.size W3 W) (h1 : WeaAt W3 k nm v) (he : m id = some e) (hr : 0 ≤ id ∧ id < 1048576) (hu : uOk e.us)
    (hb : W.heap[W3.heap.size]? = some (.cells #[.int .i64 id, .func (Fn.func 99) #[] #[.pointer (some ⟨k, 0, none⟩), .pointer (some ⟨k + 1, 0, none⟩)]] 98 (0, 0))) :
    Calls Tryz.prog 49 #[tp, .slice (some ⟨W3.heap.size, 0, none⟩) 1 1] W fun x w' => ∃ b, x = .returned (.pointer (some ⟨b, 0, none⟩)) ∧ Hid (TrM w' (.pointer (some ⟨b, 0, none⟩)) (mset m id { e with us := setU e.us nm v })) ∧ Below w.heap.size w w' := by
  have hB := hw.trans (hW.mono hw.size)
  refine (changed_any (hT.keep hB) (chs_one hb) (.cons (e' := { e with us := setU e.us nm v }) hr e90 (Does.arr (by
      dsimp only
      rw [he]
      exact does_wears (h1.keep hW) e hu.srt hu.len)) (.nil _)) (by simp)).mono ?_
  rintro x w' ⟨b, rfl, hT', hB'⟩
  exact ⟨b, rfl, hid_mk hT', hB.trans (hB'.mono hB.size)⟩
theorem she_changed {w W3 W : World} {tp : Value} {id : Int} {e : El} {nm : ByteArray} {k : Nat} (hT : TrM w tp m) (hw : Below w.heap.size w W3) (hW : Below W3.heap.size W3 W) (h1 : SheAt W3 k nm) (he : m id = some e) (hr : 0 ≤ id ∧ id < 1048576) (hu : uOk e.us) (hv : (valA e.us nm).isSome = true)
    (hb : W.heap[W3.heap.size]? = some (.cells #[.int .i64 id, .func (Fn.func 101) #[] #[.pointer (some ⟨k, 0, none⟩)]] 98 (0, 0))) :
    Calls Tryz.prog 49 #[tp, .slice (some ⟨W3.heap.size, 0, none⟩) 1 1] W fun x w' => ∃ b, x = .returned (.pointer (some ⟨b, 0, none⟩)) ∧ Hid (TrM w' (.pointer (some ⟨b, 0, none⟩)) (mset m id { e with us := dropU e.us nm })) ∧ Below w.heap.size w w' := by
  have hB := hw.trans (hW.mono hw.size)
  refine (changed_any (hT.keep hB) (chs_one hb) (.cons (e' := { e with us := dropU e.us nm }) hr e92 (Does.arr (by
      dsimp only
      rw [he]
      exact does_sheds (h1.keep hW) e hu.srt hu.len hv)) (.nil _)) (by simp)).mono ?_
  rintro x w' ⟨b, rfl, hT', hB'⟩
  exact ⟨b, rfl, hid_mk hT', hB.trans (hB'.mono hB.size)⟩
/-- The first thing that is wrong with a SetAttr, with a DropAttr. -/
def setErr (m : M) (id : Int) (nm v : ByteArray) : Int := match m id with
  | none => 1
  | some e => if nameZ nm = false then 7 else if 1000 < v.size then 11 else if (valA e.us nm).isSome = false ∧ 16 ≤ e.us.length then 5 else 0
def drpErr (m : M) (id : Int) (nm : ByteArray) : Int := match m id with
  | none => 1
  | some e => if (valA e.us nm).isSome = false then 7 else 0
set_option maxHeartbeats 2000000 in
theorem setAttr_err {w : World} {dp : Value} (h : Tree w dp m nx) (id : Int) (nm v : ByteArray) (hs : nm.size ≤ maxLen) (hsv : v.size ≤ maxLen) (herr : setErr m id nm v ≠ 0) : Calls Tryz.prog 27 #[dp, .int .i64 id, .string nm, .string v] w fun x w' => x = .returned (.tuple #[dp, .int .i64 (setErr m id nm v)]) ∧ Below w.heap.size w w' := by
  unfold maxLen at hsv
  obtain ⟨hD, d, I⟩ := h
  cases he : m id with
  | none =>
    have HR : Hid (setErr m id nm v = 1) := by show _ = _; simp [setErr, he]
    have hf := dom_find_none hD he
    obtain ⟨b, tp, rfl, _⟩ := hD
    clear herr he I
    go_enter Tryz.func27, Tryz.ntmps27
    go_wp2_with (go_at_call 54; fail)
    refine hf.mono ?_
    rintro x w1 ⟨rfl, hB⟩
    have HB := hid_mk hB
    clear hf hB
    go_wp2
    rw [HR.out]
    refine bodyPost_ret (v := .tuple #[.pointer (some ⟨b, 0, none⟩), .int .i64 1]) (by simp [results, Tryz.results27, go_sem]) rfl ⟨rfl, HB.out.alloc HB.out.size _⟩
  | some e =>
    have hu := I.us he
    have HR : Hid (setErr m id nm v = if nameZ nm = false then 7 else if 1000 < v.size then 11 else if (valA e.us nm).isSome = false ∧ 16 ≤ e.us.length then 5 else 0) := by show _ = _; simp only [setErr, he]
    have hf := dom_find hD he
    have HNM : Hid (∀ W, Calls Tryz.prog 48 #[.string nm] W fun e w' => e = .returned (.bool (nameZ nm)) ∧ Below W.heap.size W w') := fun W => name_any nm W hs
    obtain ⟨b, tp, rfl, _⟩ := hD
    generalize setErr m id nm v = R at *
    have hul := hu.1
    go_enter Tryz.func27, Tryz.ntmps27
    go_wp2_with (go_at_call 54; fail)
    refine hf.mono ?_
    rintro x w1 ⟨s, rfl, hE, hB1⟩
    obtain ⟨W1, hW1⟩ : ∃ W1, W1 = w1.alloc (.cells #[.int .i64 s.id, .string s.tag, .int .i64 s.par, .slice s.ka s.kn s.kc, .slice s.aa s.an s.ac] 76) := ⟨_, rfl⟩
    have hBW : Below w.heap.size w W1 := by rw [hW1]; exact hB1.alloc hB1.size _
    have hN1 : NodeAt W1 w1.heap.size s := by rw [hW1]; exact heap_alloc_last w1 _
    have hpl := place_any (hE.keep hBW).2.2.2.2 hu.srt hu.len nm
    have han := hE.an
    rw [← han] at HR hul
    obtain ⟨⟨_, _, _, _, n4⟩, _, _, _, _, _, hl1⟩ := hN1.cells
    generalize (valA e.us nm).isSome = hv at *
    generalize (loA e.us nm).length = L at *
    have HN1 := hid_mk hN1
    have HBW := hid_mk hBW
    have HW1 := hid_mk hW1
    clear hf hB1 hE hW1 hN1 hBW hu he I han hs
    go_wp2_with (go_at_call 60; fail)
    rw [← HW1.out]
    refine hpl.mono ?_
    rintro x w2 ⟨rfl, hB2⟩
    have HB2 : Hid (Below w.heap.size w w2) := HBW.out.trans (hB2.mono HBW.out.size)
    have HN2 := hid_mk ((hB2.block _ hl1).trans HN1.out)
    have hnm := HNM.out w2
    clear hpl hB2 n4 hl1 HW1 HNM
    generalize nameZ nm = nb at *
    go_wp2_with (go_at_call 48; fail)
    refine hnm.mono ?_
    rintro x w3 ⟨rfl, hB3⟩
    have HB3 : Hid (Below w.heap.size w w3) := HB2.out.trans (hB3.mono HB2.out.size)
    have hN3 : NodeAt w3 w1.heap.size s := (hB3.block _ (Array.getElem?_eq_some_iff.1 HN2.out).1).trans HN2.out
    obtain ⟨⟨_, _, _, _, n4⟩, _⟩ := hN3.cells
    clear hnm hB3 hN3 HN2 HN1 HB2 HBW
    cases nb with
    | false =>
      have HRR : Hid (R = 7) := by have := HR.out; rw [if_pos rfl] at this; exact this
      go_wp2
      rw [HRR.out]
      refine bodyPost_ret (v := .tuple #[.pointer (some ⟨b, 0, none⟩), .int .i64 7]) (by simp [results, Tryz.results27, go_sem]) rfl ⟨rfl, HB3.out⟩
    | true =>
      have HR2 : Hid (R = if 1000 < v.size then 11 else if hv = false ∧ 16 ≤ s.an then 5 else 0) := by have := HR.out; rw [if_neg (by decide)] at this; exact this
      by_cases h11 : 1000 < v.size
      · have HRR : Hid (R = 11) := by have := HR2.out; rw [if_pos h11] at this; exact this
        go_wp2
        rw [HRR.out]
        refine bodyPost_ret (v := .tuple #[.pointer (some ⟨b, 0, none⟩), .int .i64 11]) (by simp [results, Tryz.results27, go_sem]) rfl ⟨rfl, HB3.out⟩
      · have HR3 : R = if hv = false ∧ 16 ≤ s.an then 5 else 0 := by have := HR2.out; rw [if_neg h11] at this; exact this
        by_cases h5 : hv = false ∧ 16 ≤ s.an
        · have HRR : Hid (R = 5) := by rw [if_pos h5] at HR3; exact HR3
          obtain ⟨rfl, h16⟩ := h5
          clear HR3 HR2 HR
          go_wp2
          rw [HRR.out]
          refine bodyPost_ret (v := .tuple #[.pointer (some ⟨b, 0, none⟩), .int .i64 5]) (by simp [results, Tryz.results27, go_sem]) rfl ⟨rfl, HB3.out⟩
        · rw [if_neg h5] at HR3
          exact absurd HR3 herr
theorem drop_len {us : Us} (nm : ByteArray) (h : Srt us) : (dropU us nm).length ≤ us.length := by
  have := (set_len nm nm h).2
  unfold dropU
  rw [List.length_append]
  omega
theorem uOk_set {us : Us} {nm v : ByteArray} (h : uOk us) (hn : nameZ nm = true) (hv : v.size ≤ 1000) (hl : ¬ ((valA us nm).isSome = false ∧ 16 ≤ us.length)) : uOk (setU us nm v) := by
  refine ⟨?_, srt_set h.srt, fun p hp => ?_⟩
  · obtain ⟨h1, h2⟩ := set_len nm v h.srt
    rw [mid_len] at h2
    have h3 := h.1
    unfold cntA at h2
    cases e : (valA us nm).isSome with
    | false =>
      rw [e, if_neg (by simp)] at h2
      have : us.length < 16 := Nat.lt_of_not_le fun hc => hl ⟨e, hc⟩
      omega
    | true =>
      rw [e, if_pos rfl] at h2
      omega
  · unfold setU at hp
    rcases List.mem_append.1 hp with hp | hp
    · rcases List.mem_append.1 hp with hp | hp
      · exact h.2.2 p (loA_mem hp).1
      · rw [List.mem_singleton] at hp
        rw [hp]
        exact ⟨hn, hv⟩
    · exact h.2.2 p (hiA_mem hp).1
theorem uOk_drop {us : Us} (nm : ByteArray) (h : uOk us) : uOk (dropU us nm) := by
  refine ⟨Nat.le_trans (drop_len nm h.srt) h.1, srt_drop h.srt, fun p hp => ?_⟩
  rcases List.mem_append.1 hp with hp | hp
  · exact h.2.2 p (loA_mem hp).1
  · exact h.2.2 p (hiA_mem hp).1
def satM (m : M) (id : Int) (nm v : ByteArray) : M := match m id with
  | none => m
  | some e => mset m id { e with us := setU e.us nm v }
def datM (m : M) (id : Int) (nm : ByteArray) : M := match m id with
  | none => m
  | some e => mset m id { e with us := dropU e.us nm }

end Go.Proofs.YtdiljkmlneeboaaGreat.N
