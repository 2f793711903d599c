/- dom.Doc's Move. -/
import Derived.Test.YtecbgleidohjpabMmvN
namespace Go.Proofs.Ytecbgleidohjpab.N
open Go.RowKit
set_option maxRecDepth 100000

theorem idx_mem {l : List Int} {x : Int} (hn : l.Nodup) (hx : x ∈ l) : ∃ k, k < l.length ∧ Lib.idxOf l x = (k : Nat) ∧ l.take k ++ l.drop (k + 1) = rmv l x := by
  obtain ⟨k, hk, he⟩ := List.getElem_of_mem hx
  have hg : l[k]? = some x := by rw [List.getElem?_eq_getElem hk, he]
  refine ⟨k, hk, ?_, rmv_at hn hg⟩
  have := Lib.idxOf_hit l l.length k x hk (Nat.le_refl _) (by rw [List.getD_eq_getElem?_getD, hg]; rfl) (fun j hj hjx => by
    have hjl : j < l.length := by omega
    rw [List.getD_eq_getElem?_getD, List.getElem?_eq_getElem hjl] at hjx
    have h1 : l[j] = l[k] := hjx.trans he.symm
    exact (List.pairwise_iff_getElem.1 hn) j k hjl hk hj h1)
  rwa [List.take_length] at this
theorem gives_at {w W : World} (hW : Below w.heap.size w W) (id kid : Int) : Calls Try.prog 25 #[.int .i64 id, .int .i64 kid] W fun e w' => ∃ k, e = .returned (.agg #[.int .i64 id, .func (Fn.func 44) #[] #[.pointer (some ⟨k, 0, none⟩)]]) ∧ Hid (OneAt w' k kid) ∧ Hid (Below W.heap.size W w') ∧ Below w.heap.size w w' := by
  refine (gives_any W id kid).mono ?_
  rintro e w' ⟨rfl, h1, h2, hB⟩
  exact ⟨_, rfl, hid_mk ⟨h1, by omega⟩, hid_mk hB, hW.trans (hB.mono hW.size)⟩
theorem stands_at {w W : World} (hW : Below w.heap.size w W) (id p : Int) : Calls Try.prog 33 #[.int .i64 id, .int .i64 p] W fun e w' => ∃ k, e = .returned (.agg #[.int .i64 id, .func (Fn.func 51) #[] #[.pointer (some ⟨k, 0, none⟩)]]) ∧ Hid (OneAt w' k p) ∧ Hid (Below W.heap.size W w') ∧ Below w.heap.size w w' := by
  refine (stands_any W id p).mono ?_
  rintro e w' ⟨rfl, h1, h2, hB⟩
  exact ⟨_, rfl, hid_mk ⟨h1, by omega⟩, hid_mk hB, hW.trans (hB.mono hW.size)⟩
/-- What a Move that goes well asks. -/
structure MovOk (uok : List (ByteArray × ByteArray) → Prop) (m : M) (nx : Int) (d : Int → Nat) (id tg : Int) (i h : Nat) (e q : El) : Prop where
  he : m id = some e
  hq : m tg = some q
  full : Full m id h
  not : id ∉ ups m tg
  room : i ≤ (rmv q.ks id).length
  deep : (ups m tg).length + h ≤ 512
variable {uok : List (ByteArray × ByteArray) → Prop} {m : M} {nx : Int} {d : Int → Nat}
theorem MovOk.ne1 {id tg : Int} {i h : Nat} {e q : El} (O : MovOk uok m nx d id tg i h e q) (I : Inv uok m nx d) : id ≠ 1 := by
  rintro rfl
  exact O.not (root_ups I 512 tg q O.hq (I.top O.hq))
theorem MovOk.ne {id tg : Int} {i h : Nat} {e q : El} (O : MovOk uok m nx d id tg i h e q) (I : Inv uok m nx d) : tg ≠ id := by
  rintro rfl
  exact O.not (by rw [ups_some I O.hq]; exact List.mem_cons_self)
theorem MovOk.far {id tg : Int} {i h : Nat} {e q : El} (O : MovOk uok m nx d id tg i h e q) (I : Inv uok m nx d) : tg ∉ levs m id h := fun hm => O.not ((O.full.iff I O.he O.hq).1 hm)
theorem MovOk.inv {id tg : Int} {i h : Nat} {e q : El} (O : MovOk uok m nx d id tg i h e q) (I : Inv uok m nx d) : Inv uok (mvM m id tg i) nx (fun k => if k ∈ levs m id h then d tg + 1 + (d k - d id) else d k) :=
  I.move O.he (O.ne1 I) O.hq O.full (O.far I) (by have := O.deep; rw [ups_len I O.hq] at this; exact this) i
theorem par_ne {id : Int} {e : El} (I : Inv uok m nx d) (he : m id = some e) (h1 : id ≠ 1) : e.par ≠ id := by
  intro h
  have := I.dep he h1
  rw [h] at this
  omega
theorem mov_changed {w W3 W : World} {tp : Value} {id tg : Int} {e q : El} {k1 k2 k3 i h : Nat} (I : Inv uok m nx d) (O : MovOk uok m nx d id tg i h e q) (hT : TrM w tp m) (hw : Below w.heap.size w W3) (hW : Below W3.heap.size W3 W) (h1 : OneAt W3 k1 id) (h2 : TakAt W3 k2 id i) (h3 : OneAt W3 k3 tg)
    (hb : W.heap[W3.heap.size]? = some (.cells #[.int .i64 e.par, .func (Fn.func 44) #[] #[.pointer (some ⟨k1, 0, none⟩)], .int .i64 tg, .func (Fn.func 42) #[] #[.pointer (some ⟨k2 + 1, 0, none⟩), .pointer (some ⟨k2, 0, none⟩)], .int .i64 id, .func (Fn.func 51) #[] #[.pointer (some ⟨k3, 0, none⟩)]] 53 (0, 0))) :
    Calls Try.prog 17 #[tp, .slice (some ⟨W3.heap.size, 0, none⟩) 3 3] W fun x w' => ∃ b, x = .returned (.pointer (some ⟨b, 0, none⟩)) ∧ Hid (TrM w' (.pointer (some ⟨b, 0, none⟩)) (mvM m id tg i)) ∧ Below w.heap.size w w' := by
  have h1' := h1.keep hW
  have h2' := h2.keep hW
  have h3' := h3.keep hW
  have hB := hw.trans (hW.mono hw.size)
  have n1 := O.ne1 I
  obtain ⟨P, hP, hk⟩ := I.par O.he n1
  obtain ⟨k, hkl, hix, hrm⟩ := idx_mem (I.nd hP) hk
  have hpl := I.lo hP
  have htl := I.lo O.hq
  have hil := I.lo O.he
  have hnx := I.nxb
  have hPl := I.ksLen hP
  have hpi := par_ne I O.he n1
  have hti := O.ne I
  obtain ⟨Q, hQ, hQl, hQr⟩ : ∃ Q, mset m e.par { P with ks := rmv P.ks id } tg = some Q ∧ Q.ks.length ≤ 300000 ∧ i ≤ Q.ks.length := by
    have hr := O.room
    by_cases ht : tg = e.par
    · refine ⟨{ P with ks := rmv P.ks id }, by rw [ht]; exact mset_same _ _ _, ?_, ?_⟩
      · have := List.length_filter_le (fun y => y != id) P.ks
        show (rmv P.ks id).length ≤ _
        unfold rmv
        omega
      · have : q = P := by
          have := O.hq
          rw [ht, hP] at this
          cases this
          rfl
        rw [this] at hr
        exact hr
    · refine ⟨q, by rw [mset_ne ht]; exact O.hq, ?_, ?_⟩
      · have := I.ksLen O.hq
        omega
      · have := List.length_filter_le (fun y => y != id) q.ks
        unfold rmv at hr
        omega
  have hEQ := mvM_eq  I O.he hP hpi hti hQ i
  have hid2 : (mset (mset m e.par { P with ks := rmv P.ks id }) tg { Q with ks := ins Q.ks i id }) id = some e := by
    rw [mset_ne (Ne.symm hti), mset_ne (Ne.symm hpi), O.he]
  rw [← hEQ]
  refine (changed_any (hT.keep hB) (chs_three hb) (.cons (e' := { P with ks := rmv P.ks id }) (by dsimp only; omega) e77 (Does.arr (by
      dsimp only
      rw [hP]
      have := does_gives h1'.1 h1'.2 P hix hkl (by omega)
      rw [hrm] at this
      exact this)) (.cons (e' := { Q with ks := ins Q.ks i id }) (by dsimp only; omega) e74 (Does.arr (by
      dsimp only
      rw [hQ]
      exact does_takes h2'.1.2 h2'.1.1 h2'.2 (by have := h2'.2; omega) Q hQr hQl)) (.cons (e' := { e with par := tg }) (by dsimp only; omega) e79 (Does.arr (by
      dsimp only
      rw [hid2]
      exact does_stands h3'.1 h3'.2 e)) (.nil _)))) (by simp)).mono ?_
  rintro x w' ⟨b, rfl, hT', hB'⟩
  exact ⟨b, rfl, hid_mk hT', hB.trans (hB'.mono hB.size)⟩

theorem movErr_ok {id tg : Int} {i k : Nat} {e q : El} (O : MovOk uok m nx d id tg i k e q) : movErr m id tg i k = 0 := by
  unfold movErr
  rw [O.he, O.hq]
  dsimp only
  have := O.room
  have := O.deep
  rw [if_neg O.not, if_neg (by omega), if_neg (by omega)]
theorem ok_movErr {id tg i : Int} {k : Nat} (F : m id ≠ none → Full m id k) (h : movErr m id tg i k = 0) : ∃ (j : Nat) (e q : El), i = j ∧ MovOk uok m nx d id tg j k e q := by
  unfold movErr at h
  cases he : m id with
  | none => rw [he] at h; cases h
  | some e =>
    cases hq : m tg with
    | none => rw [he, hq] at h; cases h
    | some q =>
      rw [he, hq] at h
      dsimp only at h
      split at h
      · cases h
      · split at h
        · cases h
        · split at h
          · cases h
          · rename_i h1 h2 h3
            exact ⟨i.toNat, e, q, by omega, he, hq, F (by rw [he]; simp), h1, by omega, by omega⟩
set_option maxHeartbeats 2000000 in
theorem move_err {w : World} {dp : Value} (h : Dom w dp m nx) (I : Inv uok m nx d) (id tg i : Int) {k : Nat} (F : m id ≠ none → Full m id k) (he : movErr m id tg i k ≠ 0) : Calls Try.prog 14 #[dp, .int .i64 id, .int .i64 tg, .int .i64 i] w fun x w' => x = .returned (.tuple #[dp, .int .i64 (movErr m id tg i k)]) ∧ Below w.heap.size w w' := by
  have hm := mayMove_any h I id tg i F
  obtain ⟨b, tp, rfl, _⟩ := h
  generalize movErr m id tg i k = R at *
  have hne : (R != 0) = true := by simpa using he
  clear I F
  go_enter Try.func14, Try.ntmps14
  go_wp2_with (go_at_call 32; fail)
  refine hm.mono ?_
  rintro x w1 ⟨rfl, hB⟩
  have HB := hid_mk hB
  clear hm hB
  go_wp2
  refine bodyPost_ret (v := .tuple #[.pointer (some ⟨b, 0, none⟩), .int .i64 R]) (by simp [results, Try.results14, go_sem]) rfl ⟨rfl, HB.out⟩
set_option maxHeartbeats 4000000 in
theorem move_ok {w : World} {dp : Value} (h : Dom w dp m nx) (I : Inv uok m nx d) {id tg : Int} {i k : Nat} {e q : El} (O : MovOk uok m nx d id tg i k e q) : Calls Try.prog 14 #[dp, .int .i64 id, .int .i64 tg, .int .i64 i] w fun x w' => ∃ dp', x = .returned (.tuple #[dp', .int .i64 0]) ∧ Dom w' dp' (mvM m id tg i) nx ∧ Below w.heap.size w w' := by
  have hm := mayMove_any h I id tg i (k := k) (fun _ => O.full)
  rw [movErr_ok O] at hm
  have HFI : Hid (∀ W, Below w.heap.size w W → _) := fun W hW => dom_find (h.keep hW) O.he
  obtain ⟨b, tp, rfl, hb, hcell⟩ := dom_next_cell h
  have HCL := hid_mk hcell
  clear h hcell
  go_enter Try.func14, Try.ntmps14
  go_wp2_with (go_at_call 32; fail)
  refine hm.mono ?_
  rintro x w0 ⟨rfl, hB0⟩
  have HB0 := hid_mk hB0
  clear hm
  go_wp2_with (go_at_call 24; fail)
  refine (HFI.out _ hB0).mono ?_
  rintro x wf ⟨s, rfl, hE, hBf⟩
  obtain ⟨w1, hw1⟩ : ∃ w1, w1 = wf.alloc (.cells #[.int .i64 s.id, .string s.tag, .int .i64 s.par, .slice s.ka s.kn s.kc, .slice s.aa s.an s.ac] 41) := ⟨_, rfl⟩
  have hB1 : Below w.heap.size w w1 := by
    rw [hw1]
    exact (hB0.trans (hBf.mono hB0.size)).alloc (hB0.trans (hBf.mono hB0.size)).size _
  have hN : NodeAt w1 wf.heap.size s := by rw [hw1]; exact heap_alloc_last wf _
  have hpar := hE.2.2.1
  obtain ⟨⟨_, _, n2, _, _⟩, _, _, _, _, _, hl1⟩ := hN.cells
  rw [hpar] at n2
  obtain ⟨c0, c1, hT⟩ := HCL.out w1 hB1
  have hbl : b < w1.heap.size := Nat.lt_of_lt_of_le hb hB1.size
  have HF : Hid (∀ W, Below w1.heap.size w1 W → W.cell? ⟨b, 0, none⟩ = some tp ∧ W.cell? ⟨b, 1, none⟩ = some (.int .i64 nx) ∧ W.cell? ⟨wf.heap.size, 2, none⟩ = some (.int .i64 e.par)) := fun W hW => ⟨(hW.cell (p := ⟨b, 0, none⟩) hbl).trans c0, (hW.cell (p := ⟨b, 1, none⟩) hbl).trans c1, (hW.cell (p := ⟨wf.heap.size, 2, none⟩) hl1).trans n2⟩
  have H53 : Hid (∀ W, Below w1.heap.size w1 W → _) := fun W hW => gives_at hW e.par id
  have H51 : Hid (∀ W, Below w1.heap.size w1 W → _) := fun W hW => takes_at hW tg id i
  have H54 : Hid (∀ W, Below w1.heap.size w1 W → _) := fun W hW => stands_at hW id tg
  have H28 : Hid (∀ (W3 W : World) (k1 k2 k3 : Nat), Below w1.heap.size w1 W3 → Below W3.heap.size W3 W → OneAt W3 k1 id → TakAt W3 k2 id i → OneAt W3 k3 tg → _ → _) := fun W3 W k1 k2 k3 hw hW h1 h2 h3 hb => mov_changed (k1 := k1) (k2 := k2) (k3 := k3) I O hT hw hW h1 h2 h3 hb
  have HB1 := hid_mk hB1
  have gd : Below w1.heap.size w1 w1.drew := (Below.refl _ w1).drew
  have g0 : Below w1.heap.size w1 w1 := Below.refl _ w1
  obtain ⟨bt, rfl⟩ := hT.ptr
  have HW1 := hid_mk hw1
  clear HCL hB1 hT hw1 hN hE hBf hB0 HFI I O hpar
  have HAL : Hid (∀ (W3 : World) o, Below W3.heap.size W3 (W3.alloc o)) := fun W3 o => (Below.refl _ _).alloc (Nat.le_refl _) o
  have HLA : Hid (∀ (W3 : World) o, (W3.alloc o).heap[W3.heap.size]? = some o) := fun W3 o => heap_alloc_last W3 o
  go_upto_region 5 with (fail)
  rw [← HW1.out]
  go_region_held3 (fun w' => w'.cell? ⟨b, 0, none⟩ = some (.pointer (some ⟨bt, 0, none⟩)) ∧ w'.cell? ⟨b, 1, none⟩ = some (.int .i64 nx) ∧ w'.cell? ⟨wf.heap.size, 2, none⟩ = some (.int .i64 e.par))
    (first | with_reducible exact HF.out _ g0 | with_reducible exact HF.out _ gd | with_reducible exact HF.out _ g2 | with_reducible exact HF.out _ g3 | with_reducible exact HF.out _ g4 | with_reducible exact HF.out _ g5 | exact HF.out _ (g4.trans ((HAL.out _ _).mono g4.size)) | exact HF.out _ (g5.trans ((HAL.out _ _).mono g5.size)))
    (first
    | (go_at_call 25; with_reducible refine (H53.out _ gd).mono ?_; rintro x w2 ⟨k1, rfl, HON, HB2, g2⟩)
    | (go_at_call 23; with_reducible refine (H51.out _ g2).mono ?_; rintro x w3 ⟨k2, rfl, HTK, HB3, g3⟩)
    | (go_at_call 33; with_reducible refine (H54.out _ g3).mono ?_; rintro x w4 ⟨k3, rfl, HST, HB4, g4⟩)
    | (go_at_call 17; refine (H28.out w4 _ k1 k2 k3 g4 (HAL.out _ _) ((HON.out.keep HB3.out).keep HB4.out) (HTK.out.keep HB4.out) HST.out (HLA.out _ _)).mono ?_; rintro x w5 ⟨b5, rfl, HT5, g5⟩))
  all_goals
    have HG5 : Hid (Below w.heap.size w w5) := HB1.out.trans (g5.mono HB1.out.size)
    clear g2 g3 g4 g5 gd g0 HF H53 H51 H54 H28 HON HTK HST HB2 HB3 HB4 HB1
    go_wp2
    refine bodyPost_ret (v := .tuple #[.pointer (some ⟨w5.heap.size, 0, none⟩), .int .i64 0]) (by simp [results, Try.results14, go_sem]) rfl ⟨_, rfl, dom_box HT5.out, HG5.out.alloc HG5.out.size _⟩

end Go.Proofs.Ytecbgleidohjpab.N
