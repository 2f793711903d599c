/- dom.Doc's Remove. -/
import Derived.Test.YtdiljkmlneeboaaGreatMovN
namespace Go.Proofs.YtdiljkmlneeboaaGreat.N
open Go.RowKit
set_option maxRecDepth 100000

variable {uok : List (ByteArray × ByteArray) → Prop} {m : M} {nx : Int} {d : Int → Nat}
/-- The first thing that is wrong with a Remove. -/
def remErr (m : M) (id : Int) : Int := if m id = none then 1 else if id = 1 then 2 else 0
theorem mcut_drop (m : M) (l : List Int) (x : Int) : mdrop (mcut m l) x = mcut m (l ++ [x]) := by
  funext k
  unfold mdrop mcut
  by_cases h : k = x
  · rw [if_pos h, if_pos (by simp [h])]
  · rw [if_neg h]
    by_cases h2 : k ∈ l
    · rw [if_pos h2, if_pos (by simp [h2])]
    · rw [if_neg h2, if_neg (by simp [h, h2])]
theorem mcut_nil (m : M) : mcut m [] = m := by funext k; simp [mcut]
theorem rem_changed {w W3 W : World} {tp : Value} {id : Int} {e P : El} {k1 : Nat} (I : Inv uok m nx d) (he : m id = some e) (h1' : id ≠ 1) (hP : m e.par = some P) (hT : TrM w tp m) (hw : Below w.heap.size w W3) (hW : Below W3.heap.size W3 W) (h1 : OneAt W3 k1 id)
    (hb : W.heap[W3.heap.size]? = some (.cells #[.int .i64 e.par, .func (Fn.func 89) #[] #[.pointer (some ⟨k1, 0, none⟩)]] 98 (0, 0))) :
    Calls Tryz.prog 49 #[tp, .slice (some ⟨W3.heap.size, 0, none⟩) 1 1] W fun x w' => ∃ b, x = .returned (.pointer (some ⟨b, 0, none⟩)) ∧ Hid (TrM w' (.pointer (some ⟨b, 0, none⟩)) (mset m e.par { P with ks := rmv P.ks id })) ∧ Below w.heap.size w w' := by
  have h1a := h1.keep hW
  have hB := hw.trans (hW.mono hw.size)
  obtain ⟨P', hP', hk⟩ := I.par he h1'
  rw [hP] at hP'
  cases hP'
  obtain ⟨k, hkl, hix, hrm⟩ := idx_mem (I.nd hP) hk
  have hpl := I.lo hP
  have hnx := I.nxb
  have hPl := I.ksLen hP
  refine (changed_any (hT.keep hB) (chs_one hb) (.cons (e' := { P with ks := rmv P.ks id }) (by dsimp only; omega) e77 (Does.arr (by
      dsimp only
      rw [hP]
      have := does_gives h1a.1 h1a.2 P hix hkl (by omega)
      rw [hrm] at this
      exact this)) (.nil _)) (by simp)).mono ?_
  rintro x w' ⟨b, rfl, hT', hB'⟩
  exact ⟨b, rfl, hid_mk hT', hB.trans (hB'.mono hB.size)⟩
set_option maxHeartbeats 2000000 in
theorem remove_err {w : World} {dp : Value} (h : Dom w dp m nx) (id : Int) (he : remErr m id ≠ 0) : Calls Tryz.prog 25 #[dp, .int .i64 id] w fun x w' => x = .returned (.tuple #[dp, .int .i64 (remErr m id)]) ∧ Below w.heap.size w w' := by
  cases hn : m id with
  | none =>
    have HR : Hid (remErr m id = 1) := by show _ = _; simp [remErr, hn]
    have hf := dom_find_none h hn
    obtain ⟨b, tp, rfl, _⟩ := h
    clear he hn
    go_enter Tryz.func25, Tryz.ntmps25
    go_wp2_with (go_at_call 54; fail)
    refine hf.mono ?_
    rintro x w1 ⟨rfl, hB⟩
    have HB := hid_mk hB
    clear hf hB
    go_wp2
    rw [HR.out]
    refine bodyPost_ret (v := .tuple #[.pointer (some ⟨b, 0, none⟩), .int .i64 1]) (by simp [results, Tryz.results25, go_sem]) rfl ⟨rfl, HB.out.alloc HB.out.size _⟩
  | some e =>
    have hid : id = 1 := by
      refine Classical.byContradiction fun h1 => he ?_
      simp [remErr, hn, h1]
    subst hid
    have HR : Hid (remErr m 1 = 2) := by show _ = _; simp [remErr, hn]
    have hf := dom_find h hn
    obtain ⟨b, tp, rfl, _⟩ := h
    clear he hn
    go_enter Tryz.func25, Tryz.ntmps25
    go_wp2_with (go_at_call 54; fail)
    refine hf.mono ?_
    rintro x w1 ⟨s, rfl, _, hB⟩
    have HB := hid_mk hB
    clear hf hB
    go_wp2
    rw [HR.out]
    refine bodyPost_ret (v := .tuple #[.pointer (some ⟨b, 0, none⟩), .int .i64 2]) (by simp [results, Tryz.results25, go_sem]) rfl ⟨rfl, HB.out.alloc HB.out.size _⟩
set_option maxHeartbeats 4000000 in
theorem remove_ok {w : World} {dp : Value} (h : Dom w dp m nx) (I : Inv uok m nx d) {id : Int} {e : El} (he : m id = some e) (h1 : id ≠ 1) {k : Nat} (F : Full m id k) : Calls Tryz.prog 25 #[dp, .int .i64 id] w fun x w' => ∃ dp', x = .returned (.tuple #[dp', .int .i64 0]) ∧ Dom w' dp' (cutM m id (levs m id k)) nx ∧ Below w.heap.size w w' := by
  have hf := dom_find h he
  obtain ⟨P, hP, hk⟩ := I.par he h1
  have HUN : Hid (∀ W, Below w.heap.size w W → Calls Tryz.prog 56 #[dp, .int .i64 id] W fun x w' => ∃ a c, x = .returned (.tuple #[.slice a (levs m id k).length c, .int .i64 (k : Nat)]) ∧ Hid (RowAt w' 1 a (levs m id k).length c (intsV (levs m id k))) ∧ Below W.heap.size W w') := fun W hW => by
    refine (under_any (h.keep hW) I he).mono ?_
    rintro x w' ⟨v, k', rfl, hF, hown, hB⟩
    obtain rfl := hF.uniq F
    obtain ⟨a, c, rfl, hr, _⟩ := RowAt.of_owns hown (intsV_one _)
    exact ⟨a, c, rfl, hid_mk hr, hB⟩
  have hln := levs_len I he k
  have hnxb := I.nxb
  have HEQ : Hid (mcut (mset m e.par { P with ks := rmv P.ks id }) (levs m id k) = cutM m id (levs m id k)) := cutM_eq I he hP _
  have hne : (id == 1) = false := by simpa using h1
  obtain ⟨b, tp, rfl, hb, hcell⟩ := dom_next_cell h
  have HCL := hid_mk hcell
  have HI := hid_mk I
  have HE := hid_mk he
  have HP := hid_mk hP
  have H1 := hid_mk h1
  clear h I hcell he hP hk F
  go_enter Tryz.func25, Tryz.ntmps25
  go_wp2_with (go_at_call 54; fail)
  refine hf.mono ?_
  rintro x wf ⟨s, rfl, hE, hBf⟩
  obtain ⟨w1, hw1⟩ : ∃ w1, w1 = wf.alloc (.cells #[.int .i64 s.id, .string s.tag, .int .i64 s.par, .slice s.ka s.kn s.kc, .slice s.aa s.an s.ac] 76) := ⟨_, rfl⟩
  have hB1 : Below w.heap.size w w1 := by rw [hw1]; exact hBf.alloc hBf.size _
  have hN : NodeAt w1 wf.heap.size s := by rw [hw1]; exact heap_alloc_last wf _
  have hpar := hE.2.2.1
  obtain ⟨⟨_, _, n2, _, _⟩, _, _, _, _, _, hl1⟩ := hN.cells
  rw [hpar] at n2
  obtain ⟨c0, c1, hT⟩ := HCL.out w1 hB1
  have hbl : b < w1.heap.size := Nat.lt_of_lt_of_le hb hB1.size
  have HF : Hid (∀ W, Below w1.heap.size w1 W → W.cell? ⟨b, 0, none⟩ = some tp ∧ W.cell? ⟨wf.heap.size, 2, none⟩ = some (.int .i64 e.par)) := fun W hW => ⟨(hW.cell (p := ⟨b, 0, none⟩) hbl).trans c0, (hW.cell (p := ⟨wf.heap.size, 2, none⟩) hl1).trans n2⟩
  have H53 : Hid (∀ W, Below w1.heap.size w1 W → _) := fun W hW => gives_at hW e.par id
  have H28 : Hid (∀ (W3 W : World) (k1 : Nat), Below w1.heap.size w1 W3 → Below W3.heap.size W3 W → OneAt W3 k1 id → _ → _) := fun W3 W k1 hw hW h1 hb => rem_changed (k1 := k1) HI.out HE.out H1.out HP.out hT hw hW h1 hb
  have HB1 := hid_mk hB1
  have gd : Below w1.heap.size w1 w1.drew := (Below.refl _ w1).drew
  have g0 : Below w1.heap.size w1 w1 := Below.refl _ w1
  obtain ⟨bt, rfl⟩ := hT.ptr
  have HW1 := hid_mk hw1
  clear hB1 hT hw1 hN hE hBf hpar hf
  have HAL : Hid (∀ (W3 : World) o, Below W3.heap.size W3 (W3.alloc o)) := fun W3 o => (Below.refl _ _).alloc (Nat.le_refl _) o
  have HLA : Hid (∀ (W3 : World) o, (W3.alloc o).heap[W3.heap.size]? = some o) := fun W3 o => heap_alloc_last W3 o
  go_upto_region 6 with (fail)
  rw [← HW1.out]
  go_region_held3 (fun w' => w'.cell? ⟨b, 0, none⟩ = some (.pointer (some ⟨bt, 0, none⟩)) ∧ w'.cell? ⟨wf.heap.size, 2, none⟩ = some (.int .i64 e.par))
    (first | with_reducible exact HF.out _ g0 | with_reducible exact HF.out _ gd | with_reducible exact HF.out _ g2 | with_reducible exact HF.out _ g3 | exact HF.out _ (g2.trans ((HAL.out _ _).mono g2.size)))
    (first
    | (go_at_call 55; with_reducible refine (H53.out _ gd).mono ?_; rintro x w2 ⟨k1, rfl, HON, HB2, g2⟩)
    | (go_at_call 49; refine (H28.out w2 _ k1 g2 (HAL.out _ _) HON.out (HLA.out _ _)).mono ?_; rintro x w3 ⟨b3, rfl, HT3, g3⟩))
  all_goals
    have HG3 : Hid (Below w.heap.size w w3) := HB1.out.trans (g3.mono HB1.out.size)
    clear g2 g3 gd g0 HF H53 H28 HON HB2 HB1 c0 c1 n2
    go_wp2_with (go_at_call 56; fail)
    refine (HUN.out w3 HG3.out).mono ?_
    rintro x w4 ⟨a, c, rfl, HRW, hB4⟩
    have HG4 : Hid (Below w.heap.size w w4) := HG3.out.trans (hB4.mono HG3.out.size)
    have HT4 := hid_mk (HT3.out.keep hB4)
    clear HUN hB4 HT3 HG3
    have HC : Hid (∀ i (h : i < (levs m id k).length), ∃ ab ao, a = some ⟨ab, ao, none⟩ ∧ ab < w4.heap.size ∧ w4.cell? ⟨ab, ao + i, none⟩ = some (.int .i64 (levs m id k)[i])) := fun i hi => by
      rcases HRW.out.2.2.2.2 with ⟨_, h0⟩ | ⟨ab, ao, e1, l1, g1⟩
      · have := HRW.out.2.1; omega
      · exact ⟨ab, ao, e1, l1, g1 i _ (intsV_at hi)⟩
    have hcap := HRW.out.2.1
    generalize hL : levs m id k = L at *
    have HL := hid_mk hL
    clear HRW hL
    go_wp2
    go_loopw [8, 44] (fun a8 a44 wr => ∃ (i b8 : Nat), a44 = .int .i64 i ∧ a8 = .pointer (some ⟨b8, 0, none⟩) ∧ i ≤ L.length ∧ Hid (TrM wr (.pointer (some ⟨b8, 0, none⟩)) (mcut (mset m e.par { P with ks := rmv P.ks id }) (L.take i))) ∧ Hid (Below w4.heap.size w4 wr)) (fun _ a44 _ => L.length + 1 - (intOf a44).toNat)
    case atStart => exact ⟨0, b3, rfl, rfl, Nat.zero_le _, by rw [List.take_zero, mcut_nil]; exact HT4, hid_mk (Below.refl _ _)⟩
    case round =>
      obtain ⟨i, b8, rfl, rfl, hi, HT, HB⟩ := hrel
      by_cases hlt : i < L.length
      · obtain ⟨ab, ao, rfl, hab, hcl⟩ := HC.out i hlt
        have q1 := (HB.out.cell (p := ⟨ab, ao + i, none⟩) hab).trans hcl
        have hdr := trm_drop HT.out L[i]
        rw [mcut_drop, ← List.take_succ_eq_append_getElem hlt] at hdr
        generalize L[i] = x at *
        clear HC hcl
        go_wp2_with (go_at_call 57; fail)
        refine hdr.mono ?_
        rintro y w5 ⟨b5, rfl, hT5, hB5⟩
        have HT5 := hid_mk hT5
        have HB5 := hid_mk (HB.out.trans (hB5.mono HB.out.size))
        clear hdr hT5 hB5 q1
        go_wp2
        exact ⟨⟨i + 1, b5, by go_num, rfl, hlt, HT5, HB5⟩, by simp only [intOf]; omega⟩
      · obtain rfl : i = L.length := by omega
        have hT := HT.out
        rw [List.take_length, HEQ.out] at hT
        have HT6 := hid_mk hT
        have HG6 : Hid (Below w.heap.size w wr) := HG4.out.trans (HB.out.mono HG4.out.size)
        obtain ⟨c0, c1, _⟩ := HCL.out wr HG6.out
        clear HT hT HB HC
        go_wp2
        refine bodyPost_ret (v := .tuple #[.pointer (some ⟨wr.heap.size, 0, none⟩), .int .i64 0]) (by simp [results, Tryz.results25, go_sem]) rfl ⟨_, rfl, by rw [HL.out]; exact dom_box HT6.out, HG6.out.alloc HG6.out.size _⟩

end Go.Proofs.YtdiljkmlneeboaaGreat.N
