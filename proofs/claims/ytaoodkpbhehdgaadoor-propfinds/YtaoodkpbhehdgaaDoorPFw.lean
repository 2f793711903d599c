/- PropFinds: the walk. -/
import Derived.Test.YtaoodkpbhehdgaaDoorPLv
namespace Go.Proofs.YtaoodkpbhehdgaaDoor
open Go.RowKit
set_option maxRecDepth 100000

theorem T_small : T.all (fun p => decide (p.f.size ≤ 100)) = true := by kernel_rfl
theorem prc_small (name : ByteArray) : (prc name).f.size ≤ 1000 := by
  rcases fnd_cases name with ⟨_, h⟩ | ⟨k, p, _, _, h, hT⟩
  · rw [h]
    decide
  · rw [h]
    have := List.all_eq_true.1 T_small p (List.mem_of_getElem? hT)
    have := of_decide_eq_true this
    omega

set_option maxHeartbeats 8000000 in
theorem finds_walk (name : ByteArray) (w : World) (hm : MC w) : Calls Tryd.prog 3 #[.string name] w fun e w' => e = .returned (.bool true) ∧ Below w.heap.size w w' := by
  by_cases hsz : name.size ≤ 1000
  · have hf := find_any name w
    have hps := prc_small name
    obtain ⟨p, hp⟩ : ∃ p, p = prc name := ⟨_, rfl⟩
    rw [← hp] at hf hps
    have HRF : Hid (∀ w, Calls Tryd.prog 8 #[.string name] w fun e w' => e = .returned (.tuple #[.agg (c4 p), .bool (decide (0 ≤ plc name))]) ∧ Below w.heap.size w w') := fun w => by
      have := rfind_any name w
      rw [← hp] at this
      exact this
    clear hp
    have HP0 : Hid (∀ w, Calls Tryd.prog 9 #[.string name] w fun e w' => e = .returned (.int .i64 (plc name)) ∧ Below w.heap.size w w') := place_any name
    have HR0 : Hid (∀ w, Calls Tryd.prog 10 #[.string name] w fun e w' => e = .returned (.int .i64 (plc name)) ∧ Below w.heap.size w w') := rplace_any name
    generalize plc name = i at *
    have HL0 : Hid (∀ w, Calls Tryd.prog 12 #[.string name] w fun e w' => (∃ a c, e = .returned (.slice a (lgs name).length c) ∧ StrAt w' (.slice a (lgs name).length c) (lgs name)) ∧ Below w.heap.size w w') := fun w => (longs_any name w).mono fun e w' h => by
      obtain ⟨⟨a, n, c, h1, rfl, h2⟩, h3⟩ := h
      exact ⟨⟨a, c, h1, h2⟩, h3⟩
    have HM0 : Hid (∀ w, Calls Tryd.prog 13 #[.string name] w fun e w' => (∃ a c, e = .returned (.slice a (lgs name).length c) ∧ StrAt w' (.slice a (lgs name).length c) (lgs name)) ∧ Below w.heap.size w w') := fun w => (rlongs_any name w).mono fun e w' h => by
      obtain ⟨⟨a, n, c, h1, rfl, h2⟩, h3⟩ := h
      exact ⟨⟨a, c, h1, h2⟩, h3⟩
    generalize (lgs name).length = LN at *
    generalize lgs name = LG at *
    have HF0 : Hid (∀ w, MC w → Calls Tryd.prog 14 #[.agg (c4 p)] w fun e w' => (∃ a c, e = .returned (.slice a (prts p.f).length c) ∧ StrAt w' (.slice a (prts p.f).length c) (prts p.f)) ∧ Below w.heap.size w w') := fun w h => forms_any p w h hps
    have HG0 : Hid (∀ w, Calls Tryd.prog 15 #[.agg (c4 p)] w fun e w' => (∃ a c, e = .returned (.slice a (prts p.f).length c) ∧ StrAt w' (.slice a (prts p.f).length c) (prts p.f)) ∧ Below w.heap.size w w') := fun w => rforms_any p w hps
    generalize (prts p.f).length = FN at *
    generalize prts p.f = FL at *
    obtain ⟨pn, pi, ph, pf⟩ := p
    clear hps
    go_enter Tryd.func3, Tryd.ntmps3
    go_wp2_with (go_at_call 7; fail)
    refine hf.mono ?_
    rintro e w1 ⟨rfl, hb1⟩
    obtain ⟨w2, hw2⟩ : ∃ w2, w2 = w1.alloc (.cells #[.string pn, .string pi, .bool ph, .string pf] 24) := ⟨_, rfl⟩
    have hX2 : Bx w2 w1.heap.size 24 #[.string pn, .string pi, .bool ph, .string pf] := by rw [hw2]; exact Bx.new _ _ _
    have hB2 : Below w.heap.size w w2 := by rw [hw2]; exact hb1.alloc hb1.size _
    have hrf := HRF.out w2
    clear hf hb1
    go_upto_region 4 with fail
    rw [← hw2]
    clear hw2
    go_wp2_with (go_at_call 8; fail)
    refine hrf.mono ?_
    rintro e w3 ⟨rfl, hb3⟩
    obtain ⟨w4, hw4⟩ : ∃ w4, w4 = w3.alloc (.cells #[.string pn, .string pi, .bool ph, .string pf] 27) := ⟨_, rfl⟩
    have hX4 : Bx w4 w3.heap.size 27 #[.string pn, .string pi, .bool ph, .string pf] := by rw [hw4]; exact Bx.new _ _ _
    have hB34 : Below w3.heap.size w3 w4 := by rw [hw4]; exact (Below.refl _ _).alloc (Nat.le_refl _) _
    have hX24 := (hX2.below hb3).below hB34
    have hB4 := later (later hB2 hb3) hB34
    clear hrf hb3 hB34 hX2 hB2
    go_upto_region 5 with fail
    rw [← hw4]
    clear hw4
    have HS : Hid (∀ w', Below w4.heap.size w4 w' → (w'.cell? ⟨w1.heap.size, 0, none⟩ = some (.string pn) ∧ w'.cell? ⟨w1.heap.size, 1, none⟩ = some (.string pi) ∧ w'.cell? ⟨w1.heap.size, 2, none⟩ = some (.bool ph) ∧ w'.cell? ⟨w1.heap.size, 3, none⟩ = some (.string pf)) ∧ w'.cell? ⟨w3.heap.size, 0, none⟩ = some (.string pn) ∧ w'.cell? ⟨w3.heap.size, 1, none⟩ = some (.string pi) ∧ w'.cell? ⟨w3.heap.size, 2, none⟩ = some (.bool ph) ∧ w'.cell? ⟨w3.heap.size, 3, none⟩ = some (.string pf)) := fun w' hb => by
      have h1 := hX24.below hb
      have h2 := hX4.below hb
      exact ⟨⟨h1.cell 0 _ rfl, h1.cell 1 _ rfl, h1.cell 2 _ rfl, h1.cell 3 _ rfl⟩, h2.cell 0 _ rfl, h2.cell 1 _ rfl, h2.cell 2 _ rfl, h2.cell 3 _ rfl⟩
    have HMC : Hid (∀ w', Below w4.heap.size w4 w' → MC w') := fun w' hb => hm.keep (later hB4 hb)
    have HB4 := hid_mk hB4
    have HP : Hid (∀ w', Below w4.heap.size w4 w' → Calls Tryd.prog 9 #[.string name] w' fun e w'' => e = .returned (.int .i64 i) ∧ Below w4.heap.size w4 w'') := fun w' hb => (HP0.out w').mono fun e w'' h => ⟨h.1, later hb h.2⟩
    have HR : Hid (∀ w', Below w4.heap.size w4 w' → Calls Tryd.prog 10 #[.string name] w' fun e w'' => e = .returned (.int .i64 i) ∧ Below w4.heap.size w4 w'') := fun w' hb => (HR0.out w').mono fun e w'' h => ⟨h.1, later hb h.2⟩
    have HL : Hid (∀ w', Below w4.heap.size w4 w' → Calls Tryd.prog 12 #[.string name] w' fun e w'' => (∃ a c, e = .returned (.slice a LN c) ∧ StrAt w'' (.slice a LN c) LG) ∧ Below w4.heap.size w4 w'') := fun w' hb => (HL0.out w').mono fun e w'' h => ⟨h.1, later hb h.2⟩
    have HM : Hid (∀ v w', Below w4.heap.size w4 w' → StrAt w' v LG → Calls Tryd.prog 13 #[.string name] w' fun e w'' => (∃ a c, e = .returned (.slice a LN c) ∧ StrAt w'' (.slice a LN c) LG ∧ StrAt w'' v LG) ∧ Below w4.heap.size w4 w'') := fun v w' hb hv => (HM0.out w').mono fun e w'' h => by
      obtain ⟨⟨a, c, h1, h2⟩, h3⟩ := h
      exact ⟨⟨a, c, h1, h2, hv.keep h3⟩, later hb h3⟩
    have HT : Hid (∀ L v1 v2 w', Below w4.heap.size w4 w' → StrAt w' v1 L → StrAt w' v2 L → Calls Tryd.prog 11 #[v1, v2] w' fun e w'' => e = .returned (.bool true) ∧ Below w4.heap.size w4 w'') := fun L v1 v2 w' hb h1 h2 => (texts_yes h1 h2).mono fun e w'' h => ⟨h.1, later hb h.2⟩
    have HF : Hid (∀ w', Below w4.heap.size w4 w' → Calls Tryd.prog 14 #[.agg #[.string pn, .string pi, .bool ph, .string pf]] w' fun e w'' => (∃ a c, e = .returned (.slice a FN c) ∧ StrAt w'' (.slice a FN c) FL) ∧ Below w4.heap.size w4 w'') := fun w' hb => (HF0.out w' (HMC.out w' hb)).mono fun e w'' h => ⟨h.1, later hb h.2⟩
    have HG : Hid (∀ v w', Below w4.heap.size w4 w' → StrAt w' v FL → Calls Tryd.prog 15 #[.agg #[.string pn, .string pi, .bool ph, .string pf]] w' fun e w'' => (∃ a c, e = .returned (.slice a FN c) ∧ StrAt w'' (.slice a FN c) FL ∧ StrAt w'' v FL) ∧ Below w4.heap.size w4 w'') := fun v w' hb hv => (HG0.out w').mono fun e w'' h => by
      obtain ⟨⟨a, c, h1, h2⟩, h3⟩ := h
      exact ⟨⟨a, c, h1, h2, hv.keep h3⟩, later hb h3⟩
    have HV : Hid (∀ w', Below w4.heap.size w4 w' → Calls Tryd.prog 6 #[] w' fun e w'' => e = .returned (.bool true) ∧ Below w4.heap.size w4 w'') := fun w' hb => (lives_any w').mono fun e w'' h => ⟨h.1, later hb h.2⟩
    have gd : Below w4.heap.size w4 w4 := Below.refl _ _
    have ge : Below w4.heap.size w4 w4.drew := (Below.refl _ _).drew
    clear hX4 hX24 hB4 hm HP0 HR0 HL0 HM0 HF0 HG0 HRF HMC
    cases hok : decide (0 ≤ i) with
    | false =>
      refine wp_region_held_drew (S := (fun w' => (w'.cell? ⟨w1.heap.size, 0, none⟩ = some (.string pn) ∧ w'.cell? ⟨w1.heap.size, 1, none⟩ = some (.string pi) ∧ w'.cell? ⟨w1.heap.size, 2, none⟩ = some (.bool ph) ∧ w'.cell? ⟨w1.heap.size, 3, none⟩ = some (.string pf)) ∧ w'.cell? ⟨w3.heap.size, 0, none⟩ = some (.string pn) ∧ w'.cell? ⟨w3.heap.size, 1, none⟩ = some (.string pi) ∧ w'.cell? ⟨w3.heap.size, 2, none⟩ = some (.bool ph) ∧ w'.cell? ⟨w3.heap.size, 3, none⟩ = some (.string pf))) (by kernel_rfl) (HS.out _ ge) (fun hHeld => ?_)
      refine wpAnyH_take (i := 0) (oi := { dst := some 21, op := Op.load 24 (Operand.tmp 3), type := 24, pos := "law.go:22", after := #[], guard := none }) (v := ?_) rfl (by kernel_rfl) (by kernel_rfl) (by kernel_rfl) (fun _ _ _ h => h) (Or.inl ⟨by rfl, ?_⟩) (by assumption) ?_
      rotate_left
      · intro w hSw
        (try dsimp only at hSw)
        go_simp
        try with_reducible rfl
      try simp only [Act.put, List.setIfInBounds_toArray, List.set_cons_zero, List.set_cons_succ]
      refine wpAnyH_take (i := 1) (oi := { dst := some 22, op := Op.load 27 (Operand.tmp 5), type := 27, pos := "law.go:22", after := #[], guard := none }) (v := ?_) rfl (by kernel_rfl) (by kernel_rfl) (by kernel_rfl) (fun _ _ _ h => h) (Or.inl ⟨by rfl, ?_⟩) (by assumption) ?_
      rotate_left
      · intro w hSw
        (try dsimp only at hSw)
        go_simp
        try with_reducible rfl
      try simp only [Act.put, List.setIfInBounds_toArray, List.set_cons_zero, List.set_cons_succ]
      refine wpAnyH_take (i := 2) (oi := { dst := some 23, op := Op.binOp BinOp.eql 24 (Operand.tmp 21) (Operand.tmp 22) 24, type := 4, pos := "law.go:22", after := #[{ on := 0, ground := Ground.data }, { on := 1, ground := Ground.data }], guard := none }) (v := ?_) rfl (by kernel_rfl) (by kernel_rfl) (by kernel_rfl) (fun _ _ _ h => h) (Or.inl ⟨by rfl, ?_⟩) (by assumption) ?_
      rotate_left
      · intro w hSw
        (try dsimp only at hSw)
        go_simp
        try with_reducible rfl
      try simp only [Act.put, List.setIfInBounds_toArray, List.set_cons_zero, List.set_cons_succ]
      refine wpAnyH_take (i := 3) (oi := { dst := some 24, op := Op.move (Operand.tmp 23), type := 4, pos := "law.go:22", after := #[{ on := 2, ground := Ground.data }], guard := none }) (v := ?_) rfl (by kernel_rfl) (by kernel_rfl) (by kernel_rfl) (fun _ _ _ h => h) (Or.inl ⟨by rfl, ?_⟩) (by assumption) ?_
      rotate_left
      · intro w hSw
        (try dsimp only at hSw)
        go_simp
        try with_reducible rfl
      try simp only [Act.put, List.setIfInBounds_toArray, List.set_cons_zero, List.set_cons_succ]
      refine wpAnyH_take (i := 4) (oi := { dst := some 25, op := Op.move (Operand.tmp 4), type := 4, pos := "law.go:22", after := #[{ on := 3, ground := Ground.guard }], guard := some (3, true) }) (v := ?_) rfl (by kernel_rfl) (by kernel_rfl) (by kernel_rfl) (fun _ _ _ h => h) (Or.inl ⟨by rfl, ?_⟩) (by assumption) ?_
      rotate_left
      · intro w hSw
        (try dsimp only at hSw)
        go_simp
        try with_reducible rfl
      try simp only [Act.put, List.setIfInBounds_toArray, List.set_cons_zero, List.set_cons_succ]
      refine wpAnyH_take (i := 5) (oi := { dst := some 26, op := Op.move (Operand.tmp 6), type := 4, pos := "law.go:22", after := #[{ on := 3, ground := Ground.guard }], guard := some (3, true) }) (v := ?_) rfl (by kernel_rfl) (by kernel_rfl) (by kernel_rfl) (fun _ _ _ h => h) (Or.inl ⟨by rfl, ?_⟩) (by assumption) ?_
      rotate_left
      · intro w hSw
        (try dsimp only at hSw)
        go_simp
        try with_reducible rfl
      try simp only [Act.put, List.setIfInBounds_toArray, List.set_cons_zero, List.set_cons_succ]
      refine wpAnyH_take (i := 6) (oi := { dst := some 27, op := Op.binOp BinOp.eql 4 (Operand.tmp 25) (Operand.tmp 26) 4, type := 4, pos := "law.go:22", after := #[{ on := 4, ground := Ground.data }, { on := 5, ground := Ground.data }, { on := 3, ground := Ground.guard }], guard := some (3, true) }) (v := ?_) rfl (by kernel_rfl) (by kernel_rfl) (by kernel_rfl) (fun _ _ _ h => h) (Or.inl ⟨by rfl, ?_⟩) (by assumption) ?_
      rotate_left
      · intro w hSw
        (try dsimp only at hSw)
        go_simp
        try with_reducible rfl
      try simp only [Act.put, List.setIfInBounds_toArray, List.set_cons_zero, List.set_cons_succ]
      refine wpAnyH_take (i := 7) (oi := { dst := some 28, op := Op.pick (Operand.tmp 24) (Operand.tmp 27) (Operand.const (Value.bool false)), type := 4, pos := "law.go:22", after := #[{ on := 3, ground := Ground.data }, { on := 6, ground := Ground.data }], guard := none }) (v := ?_) rfl (by kernel_rfl) (by kernel_rfl) (by kernel_rfl) (fun _ _ _ h => h) (Or.inl ⟨by rfl, ?_⟩) (by assumption) ?_
      rotate_left
      · intro w hSw
        (try dsimp only at hSw)
        go_simp
        try with_reducible rfl
      try simp only [Act.put, List.setIfInBounds_toArray, List.set_cons_zero, List.set_cons_succ]
      refine wpAnyH_take (i := 8) (oi := { dst := some 29, op := Op.move (Operand.tmp 28), type := 4, pos := "law.go:22", after := #[{ on := 7, ground := Ground.data }, { on := 3, ground := Ground.chain }], guard := none }) (v := ?_) rfl (by kernel_rfl) (by kernel_rfl) (by kernel_rfl) (fun _ _ _ h => h) (Or.inl ⟨by rfl, ?_⟩) (by assumption) ?_
      rotate_left
      · intro w hSw
        (try dsimp only at hSw)
        go_simp
        try with_reducible rfl
      try simp only [Act.put, List.setIfInBounds_toArray, List.set_cons_zero, List.set_cons_succ]
      refine wpAnyH_take (i := 9) (oi := { dst := some 30, op := Op.move (Operand.tmp 0), type := 9, pos := "law.go:22", after := #[{ on := 8, ground := Ground.guard }], guard := some (8, true) }) (v := ?_) rfl (by kernel_rfl) (by kernel_rfl) (by kernel_rfl) (fun _ _ _ h => h) (Or.inl ⟨by rfl, ?_⟩) (by assumption) ?_
      rotate_left
      · intro w hSw
        (try dsimp only at hSw)
        go_simp
        try with_reducible rfl
      try simp only [Act.put, List.setIfInBounds_toArray, List.set_cons_zero, List.set_cons_succ]
      refine wpAnyH_take (i := 11) (oi := { dst := some 32, op := Op.move (Operand.tmp 0), type := 9, pos := "law.go:22", after := #[{ on := 8, ground := Ground.guard }], guard := some (8, true) }) (v := ?_) rfl (by kernel_rfl) (by kernel_rfl) (by kernel_rfl) (fun _ _ _ h => h) (Or.inl ⟨by rfl, ?_⟩) (by assumption) ?_
      rotate_left
      · intro w hSw
        (try dsimp only at hSw)
        go_simp
        try with_reducible rfl
      try simp only [Act.put, List.setIfInBounds_toArray, List.set_cons_zero, List.set_cons_succ]
      refine wpAnyH_ready (rs := [10]) (by kernel_rfl) (by simp) ?_
      refine AllReadyH.cons (o := { dst := some 31, op := Op.call { callee := Callee.value (Operand.func 9), args := #[Operand.tmp 30], argTypes := #[9] }, type := 3, pos := "law.go:22", after := #[{ on := 9, ground := Ground.data }, { on := 8, ground := Ground.chain }, { on := 8, ground := Ground.guard }], guard := some (8, true) }) rfl (fun K hK => ?_) AllReadyH.nil
      go_simp
      refine (HP.out _ ge).mono ?_
      rintro e wa ⟨rfl, ga⟩
      refine hK.out _ _ (HS.out _ ga) (fun hHeld => ?_)
      clear hK K
      try simp only [Act.put, List.setIfInBounds_toArray, List.set_cons_zero, List.set_cons_succ]
      refine wpAnyH_ready (rs := [12]) (by kernel_rfl) (by simp) ?_
      refine AllReadyH.cons (o := { dst := some 33, op := Op.call { callee := Callee.value (Operand.func 10), args := #[Operand.tmp 32], argTypes := #[9] }, type := 3, pos := "law.go:22", after := #[{ on := 11, ground := Ground.data }, { on := 10, ground := Ground.chain }, { on := 8, ground := Ground.guard }], guard := some (8, true) }) rfl (fun K hK => ?_) AllReadyH.nil
      go_simp
      refine (HR.out _ ga).mono ?_
      rintro e wb ⟨rfl, gb⟩
      refine hK.out _ _ (HS.out _ gb) (fun hHeld => ?_)
      clear hK K
      try simp only [Act.put, List.setIfInBounds_toArray, List.set_cons_zero, List.set_cons_succ]
      refine wpAnyH_take (i := 13) (oi := { dst := some 34, op := Op.binOp BinOp.eql 3 (Operand.tmp 31) (Operand.tmp 33) 3, type := 4, pos := "law.go:22", after := #[{ on := 10, ground := Ground.data }, { on := 12, ground := Ground.data }, { on := 8, ground := Ground.guard }], guard := some (8, true) }) (v := ?_) rfl (by kernel_rfl) (by kernel_rfl) (by kernel_rfl) (fun _ _ _ h => h) (Or.inl ⟨by rfl, ?_⟩) (by assumption) ?_
      rotate_left
      · intro w hSw
        (try dsimp only at hSw)
        go_simp
        try with_reducible rfl
      try simp only [Act.put, List.setIfInBounds_toArray, List.set_cons_zero, List.set_cons_succ]
      refine wpAnyH_take (i := 14) (oi := { dst := some 35, op := Op.pick (Operand.tmp 29) (Operand.tmp 34) (Operand.const (Value.bool false)), type := 4, pos := "law.go:22", after := #[{ on := 8, ground := Ground.data }, { on := 13, ground := Ground.data }], guard := none }) (v := ?_) rfl (by kernel_rfl) (by kernel_rfl) (by kernel_rfl) (fun _ _ _ h => h) (Or.inl ⟨by rfl, ?_⟩) (by assumption) ?_
      rotate_left
      · intro w hSw
        (try dsimp only at hSw)
        go_simp
        try with_reducible rfl
      try simp only [Act.put, List.setIfInBounds_toArray, List.set_cons_zero, List.set_cons_succ]
      refine wpAnyH_take (i := 15) (oi := { dst := some 36, op := Op.move (Operand.tmp 35), type := 4, pos := "law.go:22", after := #[{ on := 14, ground := Ground.data }, { on := 12, ground := Ground.chain }], guard := none }) (v := ?_) rfl (by kernel_rfl) (by kernel_rfl) (by kernel_rfl) (fun _ _ _ h => h) (Or.inl ⟨by rfl, ?_⟩) (by assumption) ?_
      rotate_left
      · intro w hSw
        (try dsimp only at hSw)
        go_simp
        try with_reducible rfl
      try simp only [Act.put, List.setIfInBounds_toArray, List.set_cons_zero, List.set_cons_succ]
      refine wpAnyH_take (i := 16) (oi := { dst := some 37, op := Op.move (Operand.tmp 0), type := 9, pos := "law.go:22", after := #[{ on := 15, ground := Ground.guard }], guard := some (15, true) }) (v := ?_) rfl (by kernel_rfl) (by kernel_rfl) (by kernel_rfl) (fun _ _ _ h => h) (Or.inl ⟨by rfl, ?_⟩) (by assumption) ?_
      rotate_left
      · intro w hSw
        (try dsimp only at hSw)
        go_simp
        try with_reducible rfl
      try simp only [Act.put, List.setIfInBounds_toArray, List.set_cons_zero, List.set_cons_succ]
      refine wpAnyH_take (i := 18) (oi := { dst := some 39, op := Op.move (Operand.tmp 0), type := 9, pos := "law.go:22", after := #[{ on := 15, ground := Ground.guard }], guard := some (15, true) }) (v := ?_) rfl (by kernel_rfl) (by kernel_rfl) (by kernel_rfl) (fun _ _ _ h => h) (Or.inl ⟨by rfl, ?_⟩) (by assumption) ?_
      rotate_left
      · intro w hSw
        (try dsimp only at hSw)
        go_simp
        try with_reducible rfl
      try simp only [Act.put, List.setIfInBounds_toArray, List.set_cons_zero, List.set_cons_succ]
      refine wpAnyH_ready (rs := [17]) (by kernel_rfl) (by simp) ?_
      refine AllReadyH.cons (o := { dst := some 38, op := Op.call { callee := Callee.value (Operand.func 12), args := #[Operand.tmp 37], argTypes := #[9] }, type := 32, pos := "law.go:22", after := #[{ on := 16, ground := Ground.data }, { on := 15, ground := Ground.chain }, { on := 15, ground := Ground.guard }], guard := some (15, true) }) rfl (fun K hK => ?_) AllReadyH.nil
      go_simp
      refine (HL.out _ gb).mono ?_
      rintro e wc ⟨⟨a1, c1, rfl, s1⟩, gc⟩
      refine hK.out _ _ (HS.out _ gc) (fun hHeld => ?_)
      clear hK K
      try simp only [Act.put, List.setIfInBounds_toArray, List.set_cons_zero, List.set_cons_succ]
      refine wpAnyH_ready (rs := [19]) (by kernel_rfl) (by simp) ?_
      refine AllReadyH.cons (o := { dst := some 40, op := Op.call { callee := Callee.value (Operand.func 13), args := #[Operand.tmp 39], argTypes := #[9] }, type := 32, pos := "law.go:22", after := #[{ on := 18, ground := Ground.data }, { on := 17, ground := Ground.chain }, { on := 15, ground := Ground.guard }], guard := some (15, true) }) rfl (fun K hK => ?_) AllReadyH.nil
      go_simp
      refine (HM.out _ _ gc s1).mono ?_
      rintro e wd ⟨⟨a2, c2, rfl, s2, s3⟩, gf⟩
      refine hK.out _ _ (HS.out _ gf) (fun hHeld => ?_)
      clear hK K
      try simp only [Act.put, List.setIfInBounds_toArray, List.set_cons_zero, List.set_cons_succ]
      refine wpAnyH_ready (rs := [20]) (by kernel_rfl) (by simp) ?_
      refine AllReadyH.cons (o := { dst := some 41, op := Op.call { callee := Callee.value (Operand.func 11), args := #[Operand.tmp 38, Operand.tmp 40], argTypes := #[32, 32] }, type := 4, pos := "law.go:22", after := #[{ on := 17, ground := Ground.data }, { on := 19, ground := Ground.data }, { on := 19, ground := Ground.chain }, { on := 15, ground := Ground.guard }], guard := some (15, true) }) rfl (fun K hK => ?_) AllReadyH.nil
      go_simp
      refine (HT.out _ _ _ _ gf s3 s2).mono ?_
      rintro e we ⟨rfl, gg⟩
      refine hK.out _ _ (HS.out _ gg) (fun hHeld => ?_)
      clear hK K
      try simp only [Act.put, List.setIfInBounds_toArray, List.set_cons_zero, List.set_cons_succ]
      refine wpAnyH_take (i := 21) (oi := { dst := some 42, op := Op.pick (Operand.tmp 36) (Operand.tmp 41) (Operand.const (Value.bool false)), type := 4, pos := "law.go:22", after := #[{ on := 15, ground := Ground.data }, { on := 20, ground := Ground.data }], guard := none }) (v := ?_) rfl (by kernel_rfl) (by kernel_rfl) (by kernel_rfl) (fun _ _ _ h => h) (Or.inl ⟨by rfl, ?_⟩) (by assumption) ?_
      rotate_left
      · intro w hSw
        (try dsimp only at hSw)
        go_simp
        try with_reducible rfl
      try simp only [Act.put, List.setIfInBounds_toArray, List.set_cons_zero, List.set_cons_succ]
      refine wpAnyH_take (i := 22) (oi := { dst := some 43, op := Op.move (Operand.tmp 42), type := 4, pos := "law.go:22", after := #[{ on := 21, ground := Ground.data }, { on := 20, ground := Ground.chain }], guard := none }) (v := ?_) rfl (by kernel_rfl) (by kernel_rfl) (by kernel_rfl) (fun _ _ _ h => h) (Or.inl ⟨by rfl, ?_⟩) (by assumption) ?_
      rotate_left
      · intro w hSw
        (try dsimp only at hSw)
        go_simp
        try with_reducible rfl
      try simp only [Act.put, List.setIfInBounds_toArray, List.set_cons_zero, List.set_cons_succ]
      refine wpAnyH_take (i := 23) (oi := { dst := some 44, op := Op.move (Operand.tmp 4), type := 4, pos := "law.go:22", after := #[{ on := 22, ground := Ground.guard }], guard := some (22, true) }) (v := ?_) rfl (by kernel_rfl) (by kernel_rfl) (by kernel_rfl) (fun _ _ _ h => h) (Or.inl ⟨by rfl, ?_⟩) (by assumption) ?_
      rotate_left
      · intro w hSw
        (try dsimp only at hSw)
        go_simp
        try with_reducible rfl
      try simp only [Act.put, List.setIfInBounds_toArray, List.set_cons_zero, List.set_cons_succ]
      refine wpAnyH_take (i := 24) (oi := { dst := some 45, op := Op.unOp UnOp.not 4 (Operand.tmp 44), type := 4, pos := "law.go:22", after := #[{ on := 23, ground := Ground.data }, { on := 22, ground := Ground.guard }], guard := some (22, true) }) (v := ?_) rfl (by kernel_rfl) (by kernel_rfl) (by kernel_rfl) (fun _ _ _ h => h) (Or.inl ⟨by rfl, ?_⟩) (by assumption) ?_
      rotate_left
      · intro w hSw
        (try dsimp only at hSw)
        go_simp
        try with_reducible rfl
      try simp only [Act.put, List.setIfInBounds_toArray, List.set_cons_zero, List.set_cons_succ]
      refine wpAnyH_take (i := 25) (oi := { dst := some 46, op := Op.move (Operand.tmp 45), type := 4, pos := "law.go:22", after := #[{ on := 24, ground := Ground.data }, { on := 22, ground := Ground.chain }, { on := 22, ground := Ground.guard }], guard := some (22, true) }) (v := ?_) rfl (by kernel_rfl) (by kernel_rfl) (by kernel_rfl) (fun _ _ _ h => h) (Or.inl ⟨by rfl, ?_⟩) (by assumption) ?_
      rotate_left
      · intro w hSw
        (try dsimp only at hSw)
        go_simp
        try with_reducible rfl
      try simp only [Act.put, List.setIfInBounds_toArray, List.set_cons_zero, List.set_cons_succ]
      refine wpAnyH_take (i := 26) (oi := { dst := some 47, op := Op.load 24 (Operand.tmp 3), type := 24, pos := "law.go:22", after := #[{ on := 25, ground := Ground.guard }], guard := some (25, false) }) (v := undef) rfl (by kernel_rfl) (by kernel_rfl) (by kernel_rfl) (fun _ _ _ h => h) (Or.inr ⟨by rfl, rfl⟩) (by assumption) ?_
      try simp only [Act.put, List.setIfInBounds_toArray, List.set_cons_zero, List.set_cons_succ]
      refine wpAnyH_take (i := 28) (oi := { dst := some 49, op := Op.load 27 (Operand.tmp 5), type := 27, pos := "law.go:22", after := #[{ on := 25, ground := Ground.guard }], guard := some (25, false) }) (v := undef) rfl (by kernel_rfl) (by kernel_rfl) (by kernel_rfl) (fun _ _ _ h => h) (Or.inr ⟨by rfl, rfl⟩) (by assumption) ?_
      try simp only [Act.put, List.setIfInBounds_toArray, List.set_cons_zero, List.set_cons_succ]
      refine wpAnyH_take (i := 27) (oi := { dst := some 48, op := Op.call { callee := Callee.value (Operand.func 14), args := #[Operand.tmp 47], argTypes := #[24] }, type := 32, pos := "law.go:22", after := #[{ on := 26, ground := Ground.data }, { on := 25, ground := Ground.chain }, { on := 25, ground := Ground.guard }], guard := some (25, false) }) (v := undef) rfl (by kernel_rfl) (by kernel_rfl) (by kernel_rfl) (fun _ _ _ h => h) (Or.inr ⟨by rfl, rfl⟩) (by assumption) ?_
      try simp only [Act.put, List.setIfInBounds_toArray, List.set_cons_zero, List.set_cons_succ]
      refine wpAnyH_take (i := 29) (oi := { dst := some 50, op := Op.call { callee := Callee.value (Operand.func 15), args := #[Operand.tmp 49], argTypes := #[27] }, type := 32, pos := "law.go:22", after := #[{ on := 28, ground := Ground.data }, { on := 27, ground := Ground.chain }, { on := 25, ground := Ground.guard }], guard := some (25, false) }) (v := undef) rfl (by kernel_rfl) (by kernel_rfl) (by kernel_rfl) (fun _ _ _ h => h) (Or.inr ⟨by rfl, rfl⟩) (by assumption) ?_
      try simp only [Act.put, List.setIfInBounds_toArray, List.set_cons_zero, List.set_cons_succ]
      refine wpAnyH_take (i := 30) (oi := { dst := some 51, op := Op.call { callee := Callee.value (Operand.func 11), args := #[Operand.tmp 48, Operand.tmp 50], argTypes := #[32, 32] }, type := 4, pos := "law.go:22", after := #[{ on := 27, ground := Ground.data }, { on := 29, ground := Ground.data }, { on := 29, ground := Ground.chain }, { on := 25, ground := Ground.guard }], guard := some (25, false) }) (v := undef) rfl (by kernel_rfl) (by kernel_rfl) (by kernel_rfl) (fun _ _ _ h => h) (Or.inr ⟨by rfl, rfl⟩) (by assumption) ?_
      try simp only [Act.put, List.setIfInBounds_toArray, List.set_cons_zero, List.set_cons_succ]
      refine wpAnyH_take (i := 31) (oi := { dst := some 52, op := Op.pick (Operand.tmp 46) (Operand.const (Value.bool true)) (Operand.tmp 51), type := 4, pos := "law.go:22", after := #[{ on := 25, ground := Ground.data }, { on := 30, ground := Ground.data }, { on := 22, ground := Ground.guard }], guard := some (22, true) }) (v := ?_) rfl (by kernel_rfl) (by kernel_rfl) (by kernel_rfl) (fun _ _ _ h => h) (Or.inl ⟨by rfl, ?_⟩) (by assumption) ?_
      rotate_left
      · intro w hSw
        (try dsimp only at hSw)
        go_simp
        try with_reducible rfl
      try simp only [Act.put, List.setIfInBounds_toArray, List.set_cons_zero, List.set_cons_succ]
      refine wpAnyH_take (i := 32) (oi := { dst := some 53, op := Op.pick (Operand.tmp 43) (Operand.tmp 52) (Operand.const (Value.bool false)), type := 4, pos := "law.go:22", after := #[{ on := 22, ground := Ground.data }, { on := 31, ground := Ground.data }], guard := none }) (v := ?_) rfl (by kernel_rfl) (by kernel_rfl) (by kernel_rfl) (fun _ _ _ h => h) (Or.inl ⟨by rfl, ?_⟩) (by assumption) ?_
      rotate_left
      · intro w hSw
        (try dsimp only at hSw)
        go_simp
        try with_reducible rfl
      try simp only [Act.put, List.setIfInBounds_toArray, List.set_cons_zero, List.set_cons_succ]
      refine wpAnyH_take (i := 33) (oi := { dst := some 54, op := Op.move (Operand.tmp 53), type := 4, pos := "law.go:22", after := #[{ on := 32, ground := Ground.data }, { on := 30, ground := Ground.chain }], guard := none }) (v := ?_) rfl (by kernel_rfl) (by kernel_rfl) (by kernel_rfl) (fun _ _ _ h => h) (Or.inl ⟨by rfl, ?_⟩) (by assumption) ?_
      rotate_left
      · intro w hSw
        (try dsimp only at hSw)
        go_simp
        try with_reducible rfl
      try simp only [Act.put, List.setIfInBounds_toArray, List.set_cons_zero, List.set_cons_succ]
      refine wpAnyH_ready (rs := [34]) (by kernel_rfl) (by simp) ?_
      refine AllReadyH.cons (o := { dst := some 55, op := Op.call { callee := Callee.value (Operand.func 6), args := #[], argTypes := #[] }, type := 4, pos := "law.go:22", after := #[{ on := 33, ground := Ground.chain }, { on := 33, ground := Ground.guard }], guard := some (33, true) }) rfl (fun K hK => ?_) AllReadyH.nil
      go_simp
      refine (HV.out _ gg).mono ?_
      rintro e wf ⟨rfl, gh⟩
      refine hK.out _ _ (HS.out _ gh) (fun hHeld => ?_)
      clear hK K
      try simp only [Act.put, List.setIfInBounds_toArray, List.set_cons_zero, List.set_cons_succ]
      refine wpAnyH_take (i := 35) (oi := { dst := some 56, op := Op.pick (Operand.tmp 54) (Operand.tmp 55) (Operand.const (Value.bool false)), type := 4, pos := "law.go:22", after := #[{ on := 33, ground := Ground.data }, { on := 34, ground := Ground.data }], guard := none }) (v := ?_) rfl (by kernel_rfl) (by kernel_rfl) (by kernel_rfl) (fun _ _ _ h => h) (Or.inl ⟨by rfl, ?_⟩) (by assumption) ?_
      rotate_left
      · intro w hSw
        (try dsimp only at hSw)
        go_simp
        try with_reducible rfl
      try simp only [Act.put, List.setIfInBounds_toArray, List.set_cons_zero, List.set_cons_succ]
      refine wpAnyH_take (i := 36) (oi := { dst := some 2, op := Op.assign (Operand.tmp 56), type := 4, pos := "law.go:22", after := #[{ on := 35, ground := Ground.data }, { on := 34, ground := Ground.chain }, { on := 0, ground := Ground.phase }, { on := 1, ground := Ground.phase }, { on := 2, ground := Ground.phase }, { on := 3, ground := Ground.phase }, { on := 4, ground := Ground.phase }, { on := 5, ground := Ground.phase }, { on := 6, ground := Ground.phase }, { on := 7, ground := Ground.phase }, { on := 8, ground := Ground.phase }, { on := 9, ground := Ground.phase }, { on := 10, ground := Ground.phase }, { on := 11, ground := Ground.phase }, { on := 12, ground := Ground.phase }, { on := 13, ground := Ground.phase }, { on := 14, ground := Ground.phase }, { on := 15, ground := Ground.phase }, { on := 16, ground := Ground.phase }, { on := 17, ground := Ground.phase }, { on := 18, ground := Ground.phase }, { on := 19, ground := Ground.phase }, { on := 20, ground := Ground.phase }, { on := 21, ground := Ground.phase }, { on := 22, ground := Ground.phase }, { on := 23, ground := Ground.phase }, { on := 24, ground := Ground.phase }, { on := 25, ground := Ground.phase }, { on := 26, ground := Ground.phase }, { on := 27, ground := Ground.phase }, { on := 28, ground := Ground.phase }, { on := 29, ground := Ground.phase }, { on := 30, ground := Ground.phase }, { on := 31, ground := Ground.phase }, { on := 32, ground := Ground.phase }, { on := 33, ground := Ground.phase }, { on := 34, ground := Ground.phase }, { on := 35, ground := Ground.phase }], guard := none }) (v := ?_) rfl (by kernel_rfl) (by kernel_rfl) (by kernel_rfl) (fun _ _ _ h => h) (Or.inl ⟨by rfl, ?_⟩) (by assumption) ?_
      rotate_left
      · intro w hSw
        (try dsimp only at hSw)
        go_simp
        try with_reducible rfl
      try simp only [Act.put, List.setIfInBounds_toArray, List.set_cons_zero, List.set_cons_succ]
      refine wpAnyH_done (by kernel_rfl) ?_ _
      have hend := later HB4.out gh
      go_wp2
      go_ret
      exact ⟨rfl, hend⟩
    | true =>
      go_region_held3 (fun w' => (w'.cell? ⟨w1.heap.size, 0, none⟩ = some (.string pn) ∧ w'.cell? ⟨w1.heap.size, 1, none⟩ = some (.string pi) ∧ w'.cell? ⟨w1.heap.size, 2, none⟩ = some (.bool ph) ∧ w'.cell? ⟨w1.heap.size, 3, none⟩ = some (.string pf)) ∧ w'.cell? ⟨w3.heap.size, 0, none⟩ = some (.string pn) ∧ w'.cell? ⟨w3.heap.size, 1, none⟩ = some (.string pi) ∧ w'.cell? ⟨w3.heap.size, 2, none⟩ = some (.bool ph) ∧ w'.cell? ⟨w3.heap.size, 3, none⟩ = some (.string pf))
        (first | with_reducible exact HS.out _ gd | with_reducible exact HS.out _ ge | with_reducible exact HS.out _ ga | with_reducible exact HS.out _ gb | with_reducible exact HS.out _ gc | with_reducible exact HS.out _ gf | with_reducible exact HS.out _ gg | with_reducible exact HS.out _ gh | with_reducible exact HS.out _ gi | with_reducible exact HS.out _ gj | with_reducible exact HS.out _ gk)
        (first
          | (go_at_call 9; with_reducible refine (HP.out _ ge).mono ?_; rintro e wa ⟨rfl, ga⟩)
          | (go_at_call 10; with_reducible refine (HR.out _ ga).mono ?_; rintro e wb ⟨rfl, gb⟩)
          | (go_at_call 12; with_reducible refine (HL.out _ gb).mono ?_; rintro e wc ⟨⟨a1, c1, rfl, s1⟩, gc⟩)
          | (go_at_call 13; with_reducible refine (HM.out _ _ gc s1).mono ?_; rintro e wd ⟨⟨a2, c2, rfl, s2, s3⟩, gf⟩)
          | (go_at_call 11; with_reducible refine (HT.out _ _ _ _ gf s3 s2).mono ?_; rintro e we ⟨rfl, gg⟩)
          | (go_at_call 14; with_reducible refine (HF.out _ gg).mono ?_; rintro e wf ⟨⟨a3, c3, rfl, s4⟩, gh⟩)
          | (go_at_call 15; with_reducible refine (HG.out _ _ gh s4).mono ?_; rintro e wg ⟨⟨a4, c4, rfl, s5, s6⟩, gi⟩)
          | (go_at_call 11; with_reducible refine (HT.out _ _ _ _ gi s6 s5).mono ?_; rintro e wh ⟨rfl, gj⟩)
          | (go_at_call 6; with_reducible refine (HV.out _ gj).mono ?_; rintro e wi ⟨rfl, gk⟩))
      have hend := later HB4.out gk
      go_wp2
      go_ret
      exact ⟨rfl, hend⟩
  · have hv := lives_any w
    have hlt : 1000 < name.size := by omega
    clear hm
    go_enter Tryd.func3, Tryd.ntmps3
    go_wp2_with (go_at_call 6; fail)
    refine hv.mono ?_
    rintro e w2 ⟨rfl, hb⟩
    clear hv
    go_wp2
    go_ret
    exact ⟨rfl, hb⟩
end Go.Proofs.YtaoodkpbhehdgaaDoor
