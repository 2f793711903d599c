/- gouachelaw15.ValueBack: the walk. -/
import Derived.Test.YtfgnlgkpgihbmaaGreatDoorZDg
import Derived.Test.YtfgnlgkpgihbmaaGreatDoorZGr
namespace Go.Proofs.YtfgnlgkpgihbmaaGreatDoor.Z
open Go.RowKit
open Go.Proofs.YtfgnlgkpgihbmaaGreatDoor.L (T5 V VsAt t5Cells vCells cell_of_heap hid_mk)
set_option maxRecDepth 100000

theorem len_part (n : Int) (up : Bool) (h0 : -1000000 ≤ n) (h1 : n ≤ 1000000) : askO (.num .len up) ⟨12, W.itS n, pxS, true, false⟩ = if up = true ∧ n < 0 then none else some (W.itS n ++ pxS) := by
  have hi := intP_num 12 n pxS (.inr (.inr rfl)) h0 h1
  show wholeO .len up (numT 12 n pxS) = _
  split
  · rename_i h
    unfold wholeO
    rw [hi, if_pos (.inr (.inr h))]
  · rename_i h
    rw [whole_in (by rw [hi]) (by rw [hi]; exact num_ok_self .len n) (by rw [hi]; exact h), hi]
    rfl
theorem asks_len : asksA (⟨#[60, 108, 101, 110, 62]⟩ : ByteArray) = .num .len false ∧ asksA (⟨#[60, 108, 101, 110, 43, 62]⟩ : ByteArray) = .num .len true := by
  constructor <;> kernel_rfl
set_option maxHeartbeats 8000000 in
theorem back_walk (name : ByteArray) {P0 : Nat → Prop} {v : Value} {vs : List V} (n : Int) (w : World) (hv : VsAt P0 w v vs) (hm : Y.V.most vs) (hz : ∀ y ∈ vs, y.tok.tx.size ≤ 140737488351232 ∧ y.tok.un.size ≤ 140737488351232) (hok : Ok w) :
    Calls Tryz.prog 5 #[.string name, v, .int .i64 n] w fun e w' => e = .returned (.bool true) ∧ Below w.heap.size w w' := by
  have HOK : Hid (∀ w', Below w.heap.size w w' → Ok w') := fun w' hb => hok.keep hb
  have HL : Hid (∀ w', Below w.heap.size w w' → Calls Tryz.prog 9 #[] w' fun e w'' => e = .returned (.bool true) ∧ Below w.heap.size w w'') := fun w' hb => (lives_any w' (HOK.out w' hb)).mono fun e w'' h => ⟨h.1, hb.trans (h.2.mono hb.size)⟩
  have hgr := great_any hv (fun y hy => by have := hz y hy; omega)
  have HPA : Hid (∀ w', Below w.heap.size w w' → (∀ y ∈ vs, y.tok.tx.size + y.tok.un.size ≤ 500) → Calls Tryz.prog 10 #[.string name, v] w' fun e w'' => e = .returned (res (parseO name vs)) ∧ Below w.heap.size w w'') := fun w' hb hs => (parse_any name (hv.keep hb) hm (fun y hy => by have := hs y hy; omega) (HOK.out w' hb)).mono fun e w'' h => ⟨h.1, hb.trans (h.2.mono hb.size)⟩
  have HBK : Hid (∀ s, parseO name vs = some s → okS s = true ∧ parseO name (valsS s) = some s ∧ s ≠ ⟨#[]⟩) := fun s h => back h
  have HDG : Hid (-1000000 ≤ n → n ≤ 1000000 → Hid (∀ w, Calls Tryz.prog 21 #[.int .i64 n] w fun e w' => e = .returned (.string (W.itS n)) ∧ w = w') ∧ Hid (∀ w', Below w.heap.size w w' → Calls Tryz.prog 14 #[.string ⟨#[60, 108, 101, 110, 62]⟩, .agg #[.int .i64 12, .string (W.itS n), .string ⟨#[112, 120]⟩, .bool true, .bool false, .slice none 0 0]] w' fun e w'' => e = .returned (.tuple #[.string (W.itS n ++ pxS), .bool true]) ∧ Below w'.heap.size w' w'') ∧ Hid (∀ w', Below w.heap.size w w' → Calls Tryz.prog 14 #[.string ⟨#[60, 108, 101, 110, 43, 62]⟩, .agg #[.int .i64 12, .string (W.itS n), .string ⟨#[112, 120]⟩, .bool true, .bool false, .slice none 0 0]] w' fun e w'' => (∃ q, e = .returned (.tuple #[.string q, .bool (decide (0 ≤ n))])) ∧ Below w'.heap.size w' w'') ∧ Hid (∀ w', Calls Tryz.prog 18 #[.string (W.itS n ++ pxS)] w' fun e w'' => e = .returned (.tuple #[.int .i64 n, .string ⟨#[112, 120]⟩, .bool true]) ∧ Below w'.heap.size w' w'') ∧ (W.itS n).size ≤ 21) := fun r0 r1 => by
    have hit := W.it_size n
    refine ⟨fun w => digits_any n r0 r1 w, fun w' hb => ?_, fun w' hb => ?_, fun w' => number_px n r0 r1 w', hit⟩
    · have h := part_any (⟨#[60, 108, 101, 110, 62]⟩ : ByteArray) ⟨12, W.itS n, pxS, true, false⟩ none 0 0 (by decide) (by show (W.itS n).size ≤ 100000; omega) (show pxS.size ≤ 1000000 by decide) w' (HOK.out w' hb)
      have e : partO (⟨#[60, 108, 101, 110, 62]⟩ : ByteArray) ⟨12, W.itS n, pxS, true, false⟩ 0 = some (W.itS n ++ pxS) := by
        unfold partO
        rw [if_neg (by decide), asks_len.1, len_part n false r0 r1, if_neg (by rintro ⟨h, _⟩; cases h)]
      rw [e] at h
      exact h
    · have h := part_any (⟨#[60, 108, 101, 110, 43, 62]⟩ : ByteArray) ⟨12, W.itS n, pxS, true, false⟩ none 0 0 (by decide) (by show (W.itS n).size ≤ 100000; omega) (show pxS.size ≤ 1000000 by decide) w' (HOK.out w' hb)
      have e : (partO (⟨#[60, 108, 101, 110, 43, 62]⟩ : ByteArray) ⟨12, W.itS n, pxS, true, false⟩ 0).isSome = decide (0 ≤ n) := by
        unfold partO
        rw [if_neg (by decide), asks_len.2, len_part n true r0 r1]
        by_cases hn : n < 0
        · rw [if_pos ⟨rfl, hn⟩]; symm; exact decide_eq_false (by omega)
        · rw [if_neg (by rintro ⟨_, h⟩; exact hn h)]; symm; exact decide_eq_true (by omega)
      refine h.mono fun e' w'' h2 => ⟨⟨(partO (⟨#[60, 108, 101, 110, 43, 62]⟩ : ByteArray) ⟨12, W.itS n, pxS, true, false⟩ 0).getD noS, ?_⟩, h2.2⟩
      rw [h2.1, ← e]
      rfl
  obtain ⟨va, vc, rfl, _, _⟩ := hv.slice
  generalize vs.length = vn at *
  clear hv hm hz hok
  by_cases hnm : 500 < name.size
  · have hd : decide ((500 : Int) < (name.size : Int)) = true := decide_eq_true (by omega)
    have hi : (500 : Int) < (name.size : Int) := by omega
    have e9 := HL.out _ (Below.refl _ _)
    clear HPA HBK HDG hgr
    go_enter Tryz.func5, Tryz.ntmps5
    go_wp2_with (go_at_call 9; fail)
    refine e9.mono ?_
    rintro e y8 ⟨rfl, d8⟩
    clear e9
    go_wp2
    go_ret
    exact ⟨rfl, d8⟩
  · have hd : decide ((500 : Int) < (name.size : Int)) = false := decide_eq_false (by omega)
    have hi : ¬ (500 : Int) < (name.size : Int) := by omega
    go_enter Tryz.func5, Tryz.ntmps5
    go_wp2_with (go_at_call 8; fail)
    refine hgr.mono ?_
    rintro e w2 ⟨⟨gb, rfl, hgs⟩, hb2⟩
    have HB2 := hid_mk hb2
    clear hgr hb2
    cases gb with
    | true =>
      have e9 := HL.out _ HB2.out
      clear HPA HBK HDG
      go_wp2_with (go_at_call 9; fail)
      refine e9.mono ?_
      rintro e y8 ⟨rfl, d8⟩
      clear e9
      go_wp2
      go_ret
      exact ⟨rfl, d8⟩
    | false =>
      have e10 := HPA.out _ HB2.out (hgs rfl)
      clear hgs HPA
      cases hpo : parseO name vs with
      | none =>
        rw [hpo, res_none] at e10
        clear HBK
        go_wp2_with (go_at_call 10; fail)
        refine e10.mono ?_
        rintro e w3 ⟨rfl, hb3⟩
        have HB3 := hid_mk hb3
        clear e10 hb3 HB2
        by_cases hr : n < -1000000 ∨ 1000000 < n
        · have hdd : decide (n < -1000000) = true ∨ (decide (n < -1000000) = false ∧ decide ((1000000 : Int) < n) = true) := by
            rcases hr with h | h
            · exact .inl (decide_eq_true h)
            · exact .inr ⟨decide_eq_false (by omega), decide_eq_true h⟩
          have e9 := HL.out _ HB3.out
          clear HDG
          rcases hdd with hd1 | ⟨hd1, hd2⟩
          all_goals
            go_wp2_with (go_at_call 9; fail)
            refine e9.mono ?_
            rintro e y8 ⟨rfl, d8⟩
            clear e9
            go_wp2
            go_ret
            exact ⟨rfl, d8⟩
        · have hd1 : decide (n < -1000000) = false := decide_eq_false (by omega)
          have hd2 : decide ((1000000 : Int) < n) = false := decide_eq_false (by omega)
          obtain ⟨r0, r1⟩ : -1000000 ≤ n ∧ n ≤ 1000000 := by omega
          obtain ⟨HD1, HD2, HD3, HD4, hes⟩ := HDG.out r0 r1
          clear HDG hr
          go_wp2_with (go_at_call 21; fail)
          refine (HD1.out _).mono ?_
          rintro e y1 ⟨rfl, rfl⟩
          have hX9 := P.Bx.new w3 32 #[.int .i64 12, .string (W.itS n), .string ⟨#[112, 120]⟩, .bool true, .bool false, .slice none 0 0]
          have hBB : Below w.heap.size w (w3.alloc (.cells #[.int .i64 12, .string (W.itS n), .string ⟨#[112, 120]⟩, .bool true, .bool false, .slice none 0 0] 32)) := (HB3.out).alloc (HB3.out).size _
          have e14 := HD2.out _ hBB
          have HBB := hid_mk hBB
          have HX9 := hid_mk hX9
          clear HD1 HD2 hX9 hBB
          generalize W.itS n ++ pxS = sp at *
          generalize W.itS n = si at *
          go_wp2_with (go_at_call 14; fail)
          refine e14.mono ?_
          rintro e y2 ⟨rfl, hy2⟩
          have HB2 : Hid (Below w.heap.size w y2) := HBB.out.trans (hy2.mono HBB.out.size)
          have hx2 := HX9.out.below hy2
          have c0 := hx2.cell 0 _ rfl
          have c1 := hx2.cell 1 _ rfl
          have c2 := hx2.cell 2 _ rfl
          have c3 := hx2.cell 3 _ rfl
          have c4 := hx2.cell 4 _ rfl
          have c5 := hx2.cell 5 _ rfl
          have e15 := HD3.out y2 HB2.out
          clear e14 hy2 hx2 HD3 HX9 HBB
          go_wp2_with (go_at_call 14; fail)
          refine e15.mono ?_
          rintro e y3 ⟨⟨q1, rfl⟩, hy3⟩
          have HB3 : Hid (Below w.heap.size w y3) := HB2.out.trans (hy3.mono HB2.out.size)
          have e18 := HD4.out y3
          clear e15 hy3 HD4 HB2 c0 c1 c2 c3 c4 c5
          go_wp2_with (go_at_call 18; fail)
          refine e18.mono ?_
          rintro e y4 ⟨rfl, hy4⟩
          have HB4 : Hid (Below w.heap.size w y4) := HB3.out.trans (hy4.mono HB3.out.size)
          have e9 := HL.out _ HB4.out
          clear e18 hy4 HB3
          have hnn : (n == n) = true := by simp
          have hge : (decide (0 ≤ n) == decide (0 ≤ n)) = true := by simp
          go_wp2_with (go_at_call 9; fail)
          refine e9.mono ?_
          rintro e y5 ⟨rfl, d5⟩
          clear e9 HB4
          go_wp2
          go_ret
          exact ⟨rfl, d5⟩
      | some s =>
        rw [hpo, res_some] at e10
        obtain ⟨oks, hps, hse⟩ := HBK.out s hpo
        have HVS : Hid (∀ w', Below w.heap.size w w' → Calls Tryz.prog 20 #[.string s] w' fun e w'' => ∃ a m c, e = .returned (.slice a m c) ∧ VsAt (fun _ => True) w'' (.slice a m c) (valsS s) ∧ Below w.heap.size w w'') := fun w' hb => (vals_ok oks w').mono fun e w'' h => by
          obtain ⟨u, h1, h2, h3⟩ := h
          obtain ⟨a, c, hu, _, _⟩ := h2.slice
          rw [hu] at h1 h2
          exact ⟨a, _, c, h1, h2, hb.trans (h3.mono hb.size)⟩
        have HPS : Hid (∀ w' v, Below w.heap.size w w' → VsAt (fun _ => True) w' v (valsS s) → Calls Tryz.prog 10 #[.string name, v] w' fun e w'' => e = .returned (.tuple #[.string s, .bool true]) ∧ Below w.heap.size w w'') := fun w' v hb hv => (parse_ok oks hps hv (HOK.out w' hb)).mono fun e w'' h => ⟨h.1, hb.trans (h.2.mono hb.size)⟩
        have hsn : (s.toList == []) = false := by
          rw [Bool.eq_false_iff]
          intro h
          have h := beq_iff_eq.1 h
          rw [ByteArray.toList_eq] at h
          exact hse (ByteArray.ext (Array.ext' h))
        have hss : (s.toList == s.toList) = true := by simp
        generalize valsS s = vl at *
        clear HBK hpo oks hps hse
        go_wp2_with (go_at_call 10; fail)
        refine e10.mono ?_
        rintro e w3 ⟨rfl, hb3⟩
        have e20 := HVS.out _ hb3
        clear e10 HB2 HVS
        go_wp2_with (go_at_call 20; fail)
        refine e20.mono ?_
        rintro e w4 ⟨a4, m4, c4, rfl, s4, d4⟩
        have e11 := HPS.out _ _ d4 s4
        clear e20 HPS s4 hb3
        go_wp2_with (go_at_call 10; fail)
        refine e11.mono ?_
        rintro e w5 ⟨rfl, hb5⟩
        have HB5 := hid_mk hb5
        clear e11 d4 hb5
        by_cases hr : n < -1000000 ∨ 1000000 < n
        · have hdd : decide (n < -1000000) = true ∨ (decide (n < -1000000) = false ∧ decide ((1000000 : Int) < n) = true) := by
            rcases hr with h | h
            · exact .inl (decide_eq_true h)
            · exact .inr ⟨decide_eq_false (by omega), decide_eq_true h⟩
          have e9 := HL.out _ HB5.out
          clear HDG
          rcases hdd with hd1 | ⟨hd1, hd2⟩
          all_goals
            go_wp2_with (go_at_call 9; fail)
            refine e9.mono ?_
            rintro e y8 ⟨rfl, d8⟩
            clear e9
            go_wp2
            go_ret
            exact ⟨rfl, d8⟩
        · have hd1 : decide (n < -1000000) = false := decide_eq_false (by omega)
          have hd2 : decide ((1000000 : Int) < n) = false := decide_eq_false (by omega)
          obtain ⟨r0, r1⟩ : -1000000 ≤ n ∧ n ≤ 1000000 := by omega
          obtain ⟨HD1, HD2, HD3, HD4, hes⟩ := HDG.out r0 r1
          clear HDG hr
          go_wp2_with (go_at_call 21; fail)
          refine (HD1.out _).mono ?_
          rintro e y1 ⟨rfl, rfl⟩
          have hX9 := P.Bx.new w5 32 #[.int .i64 12, .string (W.itS n), .string ⟨#[112, 120]⟩, .bool true, .bool false, .slice none 0 0]
          have hBB : Below w.heap.size w (w5.alloc (.cells #[.int .i64 12, .string (W.itS n), .string ⟨#[112, 120]⟩, .bool true, .bool false, .slice none 0 0] 32)) := (HB5.out).alloc (HB5.out).size _
          have e14 := HD2.out _ hBB
          have HBB := hid_mk hBB
          have HX9 := hid_mk hX9
          clear HD1 HD2 hX9 hBB
          generalize W.itS n ++ pxS = sp at *
          generalize W.itS n = si at *
          go_wp2_with (go_at_call 14; fail)
          refine e14.mono ?_
          rintro e y2 ⟨rfl, hy2⟩
          have HB2 : Hid (Below w.heap.size w y2) := HBB.out.trans (hy2.mono HBB.out.size)
          have hx2 := HX9.out.below hy2
          have c0 := hx2.cell 0 _ rfl
          have c1 := hx2.cell 1 _ rfl
          have c2 := hx2.cell 2 _ rfl
          have c3 := hx2.cell 3 _ rfl
          have c4 := hx2.cell 4 _ rfl
          have c5 := hx2.cell 5 _ rfl
          have e15 := HD3.out y2 HB2.out
          clear e14 hy2 hx2 HD3 HX9 HBB
          go_wp2_with (go_at_call 14; fail)
          refine e15.mono ?_
          rintro e y3 ⟨⟨q1, rfl⟩, hy3⟩
          have HB3 : Hid (Below w.heap.size w y3) := HB2.out.trans (hy3.mono HB2.out.size)
          have e18 := HD4.out y3
          clear e15 hy3 HD4 HB2 c0 c1 c2 c3 c4 c5
          go_wp2_with (go_at_call 18; fail)
          refine e18.mono ?_
          rintro e y4 ⟨rfl, hy4⟩
          have HB4 : Hid (Below w.heap.size w y4) := HB3.out.trans (hy4.mono HB3.out.size)
          have e9 := HL.out _ HB4.out
          clear e18 hy4 HB3
          have hnn : (n == n) = true := by simp
          have hge : (decide (0 ≤ n) == decide (0 ≤ n)) = true := by simp
          go_wp2_with (go_at_call 9; fail)
          refine e9.mono ?_
          rintro e y5 ⟨rfl, d5⟩
          clear e9 HB4
          go_wp2
          go_ret
          exact ⟨rfl, d5⟩
end Go.Proofs.YtfgnlgkpgihbmaaGreatDoor.Z
