/- SetAttr and DropAttr that go well; Attr. -/
import Derived.Test.YtdiljkmlneeboaaGreatSatN
namespace Go.Proofs.YtdiljkmlneeboaaGreat.N
open Go.RowKit
set_option maxRecDepth 100000

variable {m : M} {nx : Int} {d : Int → Nat}
theorem ok_setErr {id : Int} {nm v : ByteArray} (h : setErr m id nm v = 0) : ∃ e, m id = some e ∧ nameZ nm = true ∧ v.size ≤ 1000 ∧ ¬ ((valA e.us nm).isSome = false ∧ 16 ≤ e.us.length) := by
  unfold setErr at h
  cases he : m id with
  | none => rw [he] at h; cases h
  | some e =>
    rw [he] at h
    dsimp only at h
    split at h
    · cases h
    · split at h
      · cases h
      · split at h
        · cases h
        · rename_i h1 h2 h3
          exact ⟨e, rfl, by simpa using h1, by omega, h3⟩
set_option maxHeartbeats 4000000 in
theorem setAttr_ok {w : World} {dp : Value} (h : Tree w dp m nx) (id : Int) (nm v : ByteArray) (hs : nm.size ≤ maxLen) (herr : setErr m id nm v = 0) : Calls Tryz.prog 27 #[dp, .int .i64 id, .string nm, .string v] w fun x w' => ∃ b, x = .returned (.tuple #[.pointer (some ⟨b, 0, none⟩), .int .i64 0]) ∧ Tree w' (.pointer (some ⟨b, 0, none⟩)) (satM m id nm v) nx ∧ Below w.heap.size w w' := by
  obtain ⟨hD, d, I⟩ := h
  obtain ⟨e, he, hn1, hv1, hl16⟩ := ok_setErr herr
  have hu := I.us he
  have HINV : Hid (∃ d, Inv uOk (satM m id nm v) nx d) := by
    show ∃ d, Inv uOk (satM m id nm v) nx d
    unfold satM
    rw [he]
    exact ⟨d, I.attrs he (uOk_set hu hn1 hv1 hl16)⟩
  have HSM : Hid (satM m id nm v = mset m id { e with us := setU e.us nm v }) := by show _ = _; unfold satM; rw [he]
  have hf := dom_find hD he
  have HNM : Hid (∀ W, Calls Tryz.prog 48 #[.string nm] W fun e w' => e = .returned (.bool true) ∧ Below W.heap.size W w') := fun W => by
    have := name_any nm W hs
    rwa [hn1] at this
  have hidl := I.lo he
  have hnx := I.nxb
  obtain ⟨b, tp, rfl, hb, hcell⟩ := dom_next_cell hD
  have HCL := hid_mk hcell
  have HE := hid_mk he
  have HU := hid_mk hu
  clear I hD hcell herr
  go_enter Tryz.func27, Tryz.ntmps27
  go_wp2_with (go_at_call 54; fail)
  refine hf.mono ?_
  rintro x wf ⟨s, rfl, hE, hB1⟩
  obtain ⟨W1, hW1⟩ : ∃ W1, W1 = wf.alloc (.cells #[.int .i64 s.id, .string s.tag, .int .i64 s.par, .slice s.ka s.kn s.kc, .slice s.aa s.an s.ac] 76) := ⟨_, rfl⟩
  have hBW : Below w.heap.size w W1 := by rw [hW1]; exact hB1.alloc hB1.size _
  have hN1 : NodeAt W1 wf.heap.size s := by rw [hW1]; exact heap_alloc_last wf _
  have hpl := place_any (hE.keep hBW).2.2.2.2 hu.srt hu.len nm
  have han := hE.an
  rw [← han] at hl16
  have hul : s.an ≤ 16 := by rw [han]; exact hu.1
  obtain ⟨⟨_, _, _, _, n4⟩, _, _, _, _, _, hl1⟩ := hN1.cells
  generalize (valA e.us nm).isSome = hv at *
  generalize (loA e.us nm).length = L at *
  have HN1 := hid_mk hN1
  have HBW := hid_mk hBW
  have HW1 := hid_mk hW1
  clear hf hB1 hE hW1 hN1 hBW hu he han hs
  go_wp2_with (go_at_call 60; fail)
  rw [← HW1.out]
  refine hpl.mono ?_
  rintro x w2 ⟨rfl, hB2⟩
  have HB2 : Hid (Below w.heap.size w w2) := HBW.out.trans (hB2.mono HBW.out.size)
  have HN2 := hid_mk ((hB2.block _ hl1).trans HN1.out)
  have hnm := HNM.out w2
  clear hpl hB2 n4 hl1 HW1 HNM
  go_wp2_with (go_at_call 48; fail)
  refine hnm.mono ?_
  rintro x w1 ⟨rfl, hB3⟩
  have hB1 : Below w.heap.size w w1 := HB2.out.trans (hB3.mono HB2.out.size)
  have hN3 : NodeAt w1 wf.heap.size s := (hB3.block _ (Array.getElem?_eq_some_iff.1 HN2.out).1).trans HN2.out
  obtain ⟨⟨_, _, _, _, n4⟩, _⟩ := hN3.cells
  obtain ⟨c0, c1, hT⟩ := HCL.out w1 hB1
  have hbl : b < w1.heap.size := Nat.lt_of_lt_of_le hb hB1.size
  have HF : Hid (∀ W, Below w1.heap.size w1 W → W.cell? ⟨b, 0, none⟩ = some tp ∧ W.cell? ⟨b, 1, none⟩ = some (.int .i64 nx)) := fun W hW => ⟨(hW.cell (p := ⟨b, 0, none⟩) hbl).trans c0, (hW.cell (p := ⟨b, 1, none⟩) hbl).trans c1⟩
  have H61 : Hid (∀ W, Below w1.heap.size w1 W → _) := fun W hW => wears_at hW id nm v
  have H28 : Hid (∀ (W3 W : World) (k1 : Nat), Below w1.heap.size w1 W3 → Below W3.heap.size W3 W → WeaAt W3 k1 nm v → _ → _) := fun W3 W k1 hw hW h1 hb => wea_changed (k := k1) hT hw hW h1 HE.out (by omega) HU.out hb
  have HB1 := hid_mk hB1
  have gd : Below w1.heap.size w1 w1.drew := (Below.refl _ w1).drew
  have g0 : Below w1.heap.size w1 w1 := Below.refl _ w1
  obtain ⟨bt, rfl⟩ := hT.ptr
  clear hnm hB3 hN3 HN2 HN1 HB2 HBW hT hB1
  have HAL : Hid (∀ (W3 : World) o, Below W3.heap.size W3 (W3.alloc o)) := fun W3 o => (Below.refl _ _).alloc (Nat.le_refl _) o
  have HLA : Hid (∀ (W3 : World) o, (W3.alloc o).heap[W3.heap.size]? = some o) := fun W3 o => heap_alloc_last W3 o
  have hcase : hv = true ∨ (hv = false ∧ ¬ (16 ≤ (s.an : Int))) := by
    cases hv with
    | true => exact .inl rfl
    | false => exact .inr ⟨rfl, fun hc => hl16 ⟨rfl, by omega⟩⟩
  clear hl16
  rcases hcase with rfl | ⟨rfl, h16⟩
  all_goals
    go_upto_region 11 with (fail)
    go_region_held3 (fun w' => w'.cell? ⟨b, 0, none⟩ = some (.pointer (some ⟨bt, 0, none⟩)) ∧ w'.cell? ⟨b, 1, none⟩ = some (.int .i64 nx))
      (first | with_reducible exact HF.out _ g0 | with_reducible exact HF.out _ gd | with_reducible exact HF.out _ g2 | with_reducible exact HF.out _ g3 | exact HF.out _ (g2.trans ((HAL.out _ _).mono g2.size)) | exact HF.out _ (g3.trans ((HAL.out _ _).mono g3.size)))
      (first
      | (go_at_call 61; with_reducible refine (H61.out _ gd).mono ?_; rintro x w2 ⟨k1, rfl, HON, g2⟩)
      | (go_at_call 49; refine (H28.out w2 _ k1 g2 (HAL.out _ _) HON.out (HLA.out _ _)).mono ?_; rintro x w3 ⟨b3, rfl, HT3, g3⟩))
    all_goals
      have HG3 : Hid (Below w.heap.size w w3) := HB1.out.trans (g3.mono HB1.out.size)
      clear g2 g3 gd g0 HF H61 H28 HON HB1 c0 c1 n4
      go_wp2
      refine bodyPost_ret (v := .tuple #[.pointer (some ⟨w3.heap.size, 0, none⟩), .int .i64 0]) (by simp [results, Tryz.results27, go_sem]) rfl ⟨_, rfl, ⟨by rw [HSM.out]; exact dom_box HT3.out, HINV.out⟩, HG3.out.alloc HG3.out.size _⟩
theorem ok_drpErr {id : Int} {nm : ByteArray} (h : drpErr m id nm = 0) : ∃ e, m id = some e ∧ (valA e.us nm).isSome = true := by
  unfold drpErr at h
  cases he : m id with
  | none => rw [he] at h; cases h
  | some e =>
    rw [he] at h
    dsimp only at h
    split at h
    · cases h
    · rename_i h1
      exact ⟨e, rfl, by cases hx : (valA e.us nm).isSome with
        | true => rfl
        | false => exact absurd hx h1⟩
set_option maxHeartbeats 4000000 in
theorem dropAttr_err {w : World} {dp : Value} (h : Tree w dp m nx) (id : Int) (nm : ByteArray) (herr : drpErr m id nm ≠ 0) : Calls Tryz.prog 28 #[dp, .int .i64 id, .string nm] w fun x w' => x = .returned (.tuple #[dp, .int .i64 (drpErr m id nm)]) ∧ Below w.heap.size w w' := by
  obtain ⟨hD, d, I⟩ := h
  cases he : m id with
  | none =>
    have HR : Hid (drpErr m id nm = 1) := by show _ = _; simp [drpErr, he]
    have hf := dom_find_none hD he
    obtain ⟨b, tp, rfl, _⟩ := hD
    clear herr he I
    go_enter Tryz.func28, Tryz.ntmps28
    go_wp2_with (go_at_call 54; fail)
    refine hf.mono ?_
    rintro x w1 ⟨rfl, hB⟩
    have HB := hid_mk hB
    clear hf hB
    go_wp2
    rw [HR.out]
    refine bodyPost_ret (v := .tuple #[.pointer (some ⟨b, 0, none⟩), .int .i64 1]) (by simp [results, Tryz.results28, go_sem]) rfl ⟨rfl, HB.out.alloc HB.out.size _⟩
  | some e =>
    have hu := I.us he
    have hv : (valA e.us nm).isSome = false := by
      cases hx : (valA e.us nm).isSome with
      | false => rfl
      | true => exact absurd (by simp only [drpErr, he, hx]; rfl) herr
    have HR : Hid (drpErr m id nm = 7) := by show _ = _; simp only [drpErr, he]; rw [if_pos hv]
    have hf := dom_find hD he
    obtain ⟨b, tp, rfl, _⟩ := hD
    generalize drpErr m id nm = R at *
    go_enter Tryz.func28, Tryz.ntmps28
    go_wp2_with (go_at_call 54; fail)
    refine hf.mono ?_
    rintro x w1 ⟨s, rfl, hE, hB1⟩
    obtain ⟨W1, hW1⟩ : ∃ W1, W1 = w1.alloc (.cells #[.int .i64 s.id, .string s.tag, .int .i64 s.par, .slice s.ka s.kn s.kc, .slice s.aa s.an s.ac] 76) := ⟨_, rfl⟩
    have hBW : Below w.heap.size w W1 := by rw [hW1]; exact hB1.alloc hB1.size _
    have hpl := place_any (hE.keep hBW).2.2.2.2 hu.srt hu.len nm
    rw [hv] at hpl
    generalize (loA e.us nm).length = L at *
    have HBW := hid_mk hBW
    have HW1 := hid_mk hW1
    clear hf hB1 hE hW1 hBW hu he I hv herr
    go_wp2_with (go_at_call 60; fail)
    rw [← HW1.out]
    refine hpl.mono ?_
    rintro x w2 ⟨rfl, hB2⟩
    have HB2 : Hid (Below w.heap.size w w2) := HBW.out.trans (hB2.mono HBW.out.size)
    clear hpl hB2 HW1
    go_wp2
    rw [HR.out]
    refine bodyPost_ret (v := .tuple #[.pointer (some ⟨b, 0, none⟩), .int .i64 7]) (by simp [results, Tryz.results28, go_sem]) rfl ⟨rfl, HB2.out⟩
set_option maxHeartbeats 4000000 in
theorem dropAttr_ok {w : World} {dp : Value} (h : Tree w dp m nx) (id : Int) (nm : ByteArray) (herr : drpErr m id nm = 0) : Calls Tryz.prog 28 #[dp, .int .i64 id, .string nm] w fun x w' => ∃ b, x = .returned (.tuple #[.pointer (some ⟨b, 0, none⟩), .int .i64 0]) ∧ Tree w' (.pointer (some ⟨b, 0, none⟩)) (datM m id nm) nx ∧ Below w.heap.size w w' := by
  obtain ⟨hD, d, I⟩ := h
  obtain ⟨e, he, hv⟩ := ok_drpErr herr
  have hu := I.us he
  have HINV : Hid (∃ d, Inv uOk (datM m id nm) nx d) := by
    show ∃ d, Inv uOk (datM m id nm) nx d
    unfold datM
    rw [he]
    exact ⟨d, I.attrs he (uOk_drop nm hu)⟩
  have HSM : Hid (datM m id nm = mset m id { e with us := dropU e.us nm }) := by show _ = _; unfold datM; rw [he]
  have hf := dom_find hD he
  have hidl := I.lo he
  have hnx := I.nxb
  obtain ⟨b, tp, rfl, hb, hcell⟩ := dom_next_cell hD
  have HCL := hid_mk hcell
  have HE := hid_mk he
  have HU := hid_mk hu
  have HV := hid_mk hv
  clear I hD hcell herr
  go_enter Tryz.func28, Tryz.ntmps28
  go_wp2_with (go_at_call 54; fail)
  refine hf.mono ?_
  rintro x wf ⟨s, rfl, hE, hB1⟩
  obtain ⟨W1, hW1⟩ : ∃ W1, W1 = wf.alloc (.cells #[.int .i64 s.id, .string s.tag, .int .i64 s.par, .slice s.ka s.kn s.kc, .slice s.aa s.an s.ac] 76) := ⟨_, rfl⟩
  have hBW : Below w.heap.size w W1 := by rw [hW1]; exact hB1.alloc hB1.size _
  have hpl := place_any (hE.keep hBW).2.2.2.2 hu.srt hu.len nm
  rw [hv] at hpl
  generalize (loA e.us nm).length = L at *
  have HBW := hid_mk hBW
  have HW1 := hid_mk hW1
  clear hf hB1 hE hW1 hBW hu he hv
  go_wp2_with (go_at_call 60; fail)
  rw [← HW1.out]
  refine hpl.mono ?_
  rintro x w1 ⟨rfl, hB2⟩
  have hB1 : Below w.heap.size w w1 := HBW.out.trans (hB2.mono HBW.out.size)
  obtain ⟨c0, c1, hT⟩ := HCL.out w1 hB1
  have hbl : b < w1.heap.size := Nat.lt_of_lt_of_le hb hB1.size
  have HF : Hid (∀ W, Below w1.heap.size w1 W → W.cell? ⟨b, 0, none⟩ = some tp ∧ W.cell? ⟨b, 1, none⟩ = some (.int .i64 nx)) := fun W hW => ⟨(hW.cell (p := ⟨b, 0, none⟩) hbl).trans c0, (hW.cell (p := ⟨b, 1, none⟩) hbl).trans c1⟩
  have H62 : Hid (∀ W, Below w1.heap.size w1 W → _) := fun W hW => sheds_at hW id nm
  have H28 : Hid (∀ (W3 W : World) (k1 : Nat), Below w1.heap.size w1 W3 → Below W3.heap.size W3 W → SheAt W3 k1 nm → _ → _) := fun W3 W k1 hw hW h1 hb => she_changed (k := k1) hT hw hW h1 HE.out (by omega) HU.out HV.out hb
  have HB1 := hid_mk hB1
  have gd : Below w1.heap.size w1 w1.drew := (Below.refl _ w1).drew
  have g0 : Below w1.heap.size w1 w1 := Below.refl _ w1
  obtain ⟨bt, rfl⟩ := hT.ptr
  clear hpl hB2 HW1 HBW hT hB1
  have HAL : Hid (∀ (W3 : World) o, Below W3.heap.size W3 (W3.alloc o)) := fun W3 o => (Below.refl _ _).alloc (Nat.le_refl _) o
  have HLA : Hid (∀ (W3 : World) o, (W3.alloc o).heap[W3.heap.size]? = some o) := fun W3 o => heap_alloc_last W3 o
  go_upto_region 7 with (fail)
  go_region_held3 (fun w' => w'.cell? ⟨b, 0, none⟩ = some (.pointer (some ⟨bt, 0, none⟩)) ∧ w'.cell? ⟨b, 1, none⟩ = some (.int .i64 nx))
    (first | with_reducible exact HF.out _ g0 | with_reducible exact HF.out _ gd | with_reducible exact HF.out _ g2 | with_reducible exact HF.out _ g3 | exact HF.out _ (g2.trans ((HAL.out _ _).mono g2.size)) | exact HF.out _ (g3.trans ((HAL.out _ _).mono g3.size)))
    (first
    | (go_at_call 62; with_reducible refine (H62.out _ gd).mono ?_; rintro x w2 ⟨k1, rfl, HON, g2⟩)
    | (go_at_call 49; refine (H28.out w2 _ k1 g2 (HAL.out _ _) HON.out (HLA.out _ _)).mono ?_; rintro x w3 ⟨b3, rfl, HT3, g3⟩))
  all_goals
    have HG3 : Hid (Below w.heap.size w w3) := HB1.out.trans (g3.mono HB1.out.size)
    clear g2 g3 gd g0 HF H62 H28 HON HB1 c0 c1
    go_wp2
    refine bodyPost_ret (v := .tuple #[.pointer (some ⟨w3.heap.size, 0, none⟩), .int .i64 0]) (by simp [results, Tryz.results28, go_sem]) rfl ⟨_, rfl, ⟨by rw [HSM.out]; exact dom_box HT3.out, HINV.out⟩, HG3.out.alloc HG3.out.size _⟩
/-- What Attr tells. -/
def attrZ (m : M) (id : Int) (nm : ByteArray) : Option ByteArray := match m id with
  | none => none
  | some e => valA e.us nm
end Go.Proofs.YtdiljkmlneeboaaGreat.N
