/- The document's Move: too deep. -/
import Derived.Test.YtdiljkmlneeboaaGreatRfE
import Derived.Deep.RegionHeld3
import Derived.Deep.RegionLaw
namespace Go.Proofs.YtdiljkmlneeboaaGreat.N
open Go.RowKit
set_option maxRecDepth 100000

/-- An element's Move would stand too deep. -/
def Over (m : M) (id tg n : Int) : Prop := id ∈ ups m n ∧ (512 : Int) < (ups m tg).length + 1 + (ups m n).length - (ups m id).length
set_option maxHeartbeats 2000000 in
theorem rmove_5 {w : World} {b : Nat} {L : List El} {m : M} {nx : Int} (h : RTree w (.pointer (some ⟨b, 0, none⟩)) L m nx) (id tg : Int) (j : Nat) {e1 e2 : El} (h1 : m id = some e1) (h2 : m tg = some e2) (hin : id ∉ ups m tg) (hpz : e1.par ≠ 0) (hj : j ≤ (rmv e2.ks id).length) (hex : ∃ t, ∃ (ht : t < L.length), Over m id tg L[t].id) : Calls Tryz.prog 66 #[.pointer (some ⟨b, 0, none⟩), .int .i64 id, .int .i64 tg, .int .i64 (j : Int)] w fun x w' => x = .returned (.tuple #[.pointer (some ⟨b, 0, none⟩), .int .i64 5]) ∧ Below w.heap.size w w' := by
  have HN2 : Hid (∀ w', Below w.heap.size w w' → _) := fun w' hw' => rt_node (h.keep hw') tg
  have hn1 := rt_node h id
  have hks : ((m tg).getD zeroEl).ks.length ≤ 200000 := by
    cases hm : m tg with
    | none => simp [zeroEl]
    | some q =>
      obtain ⟨_, _, _, d, I⟩ := h
      have h1 := I.ksLen hm
      have h2 := I.nxb
      show q.ks.length ≤ 200000
      omega
  rw [h1] at hn1
  rw [h2] at HN2 hks
  have hn1 : Calls Tryz.prog 33 #[.pointer (some ⟨b, 0, none⟩), .int .i64 id] w fun x w' => ∃ s : N5, x = .returned (.tuple #[.agg #[.int .i64 s.id, .string s.tag, .int .i64 s.par, .slice s.ka s.kn s.kc, .slice s.aa s.an s.ac], .bool true]) ∧ ElAt w' s e1 ∧ (NewAt w.heap.size s.ka ∧ NewAt w.heap.size s.aa) ∧ Below w.heap.size w w' := hn1
  have HN2 : Hid (∀ w', Below w.heap.size w w' → Calls Tryz.prog 33 #[.pointer (some ⟨b, 0, none⟩), .int .i64 tg] w' fun x w'' => ∃ s : N5, x = .returned (.tuple #[.agg #[.int .i64 s.id, .string s.tag, .int .i64 s.par, .slice s.ka s.kn s.kc, .slice s.aa s.an s.ac], .bool true]) ∧ ElAt w'' s e2 ∧ (NewAt w'.heap.size s.ka ∧ NewAt w'.heap.size s.aa) ∧ Below w'.heap.size w' w'') := HN2
  have hks : e2.ks.length ≤ 200000 := hks
  have HBL : Hid (∀ w' n, Below w.heap.size w w' → _) := fun w' n hw' => rbelow_any (h.keep hw') n id (by rw [h1]; simp)
  have HDP : Hid (∀ w' n, Below w.heap.size w w' → _) := fun w' n hw' => rdepth_any (h.keep hw') n
  obtain ⟨bb, a, n, c, e0, hbl, hL, rfl, hnc, hcm, hcell⟩ := h.1.cells
  cases e0
  have HCL : Hid (∀ W, Below w.heap.size w W → W.cell? ⟨b, 0, none⟩ = some (.slice a L.length c)) := fun W hW => (hcell W hW).1
  have HC : Hid (∀ w', Below w.heap.size w w' → ∀ i (hi : i < L.length), ∃ (s : N5) (ab ao : Nat), a = some ⟨ab, ao, none⟩ ∧ s.id = L[i].id ∧ w'.cell? ⟨ab, ao + i * 5, none⟩ = some (.int .i64 s.id) ∧ w'.cell? ⟨ab, ao + i * 5 + 1, none⟩ = some (.string s.tag) ∧ w'.cell? ⟨ab, ao + i * 5 + 2, none⟩ = some (.int .i64 s.par) ∧ w'.cell? ⟨ab, ao + i * 5 + 3, none⟩ = some (.slice s.ka s.kn s.kc) ∧ w'.cell? ⟨ab, ao + i * 5 + 4, none⟩ = some (.slice s.aa s.an s.ac)) := fun w' hw' i hi => by
    obtain ⟨s, ab, ao, e, _, hE, g0, g1, g2, g3, g4⟩ := (hL.keep hw').at hi
    exact ⟨s, ab, ao, e, hE.1, g0, g1, g2, g3, g4⟩
  obtain ⟨d, I⟩ := h.2.2.2
  have HUP : Hid (∀ n, (ups m n).length ≤ 512) := fun n => by
    cases e : m n with
    | none => rw [ups_none e]; simp
    | some q => rw [ups_len I e]; exact I.top e
  have HIN : Hid (decide (id ∈ ups m tg) = false) := by simpa [Hid] using hin
  have hp : (e1.par == 0) = false := by simpa using hpz
  have hrl : (rmv e2.ks id).length ≤ 200000 := Nat.le_trans (List.length_filter_le _ _) hks
  have HEX := hid_mk hex
  clear h h1 h2 hin hpz hex I hL hcell
  go_enter Tryz.func66, Tryz.ntmps66
  go_wp2_with (go_at_call 33; fail)
  refine hn1.mono ?_
  rintro x w2 ⟨s, rfl, hE1, _, hB2⟩
  have hpar : s.par = e1.par := hE1.2.2.1
  obtain ⟨w3, hw3⟩ : ∃ w3, w3 = w2.alloc (.cells #[.int .i64 s.id, .string s.tag, .int .i64 s.par, .slice s.ka s.kn s.kc, .slice s.aa s.an s.ac] 76) := ⟨_, rfl⟩
  have HB3 : Hid (Below w.heap.size w w3) := by rw [hw3]; exact hB2.alloc hB2.size _
  have hN3 : NodeAt w3 w2.heap.size s := by rw [hw3]; exact heap_alloc_last w2 _
  obtain ⟨⟨_, _, n2, _, _⟩, _, _, _, _, _, hgl⟩ := hN3.cells
  rw [hpar] at n2
  have HP3 : Hid (∀ W, Below w3.heap.size w3 W → W.cell? ⟨w2.heap.size, 2, none⟩ = some (.int .i64 e1.par)) := fun W hW => (hW.cell (p := ⟨w2.heap.size, 2, none⟩) hgl).trans n2
  have HG3 : Hid (w2.heap.size < w3.heap.size) := hgl
  have HW3 := hid_mk hw3
  clear hn1 hE1 hB2 hw3 hN3 hpar hgl n2
  go_upto_region 2 with (fail)
  rw [← HW3.out]
  go_wp2_with (go_at_call 33; fail)
  refine (HN2.out _ HB3.out).mono ?_
  rintro x w4 ⟨s2, rfl, hE2, _, hB4⟩
  have hkn : s2.kn = e2.ks.length := hE2.kn
  obtain ⟨id2, tag2, par2, ka2, kn2, kc2, aa2, an2, ac2⟩ := s2
  dsimp only at *
  subst hkn
  obtain ⟨w5, hw5⟩ : ∃ w5, w5 = w4.alloc (.cells #[.int .i64 id2, .string tag2, .int .i64 par2, .slice ka2 e2.ks.length kc2, .slice aa2 an2 ac2] 76) := ⟨_, rfl⟩
  have hB45 : Below w4.heap.size w4 w5 := by rw [hw5]; exact (Below.refl _ _).alloc (Nat.le_refl _) _
  have hN5 : NodeAt w5 w4.heap.size ⟨id2, tag2, par2, ka2, e2.ks.length, kc2, aa2, an2, ac2⟩ := by rw [hw5]; exact heap_alloc_last w4 _
  obtain ⟨⟨_, _, _, k3, _⟩, _⟩ := hN5.cells
  dsimp only at k3
  have hwo := rwithout_any ((hE2.keep hB45).2.2.2.1) hks id
  have HB35 : Hid (Below w3.heap.size w3 w5) := hB4.trans (hB45.mono hB4.size)
  have HW5 := hid_mk hw5
  clear hE2 hB4 hw5 hN5 hB45 HN2
  go_upto_region 3 with (fail)
  rw [← HW5.out]
  go_upto_region 4 with (go_at_call 107; refine hwo.mono ?_; clear hwo; rintro e w6 ⟨a6, c6, rfl, hr6, _, hB6⟩; have HR6 := hid_mk hr6; have HB56 := hid_mk hB6; clear hr6 hB6)
  have HB36 : Hid (Below w3.heap.size w3 w6) := HB35.out.trans (HB56.out.mono HB35.out.size)
  have HB6 : Hid (Below w.heap.size w w6) := HB3.out.trans (HB36.out.mono HB3.out.size)
  have p6 := HP3.out w6 HB36.out
  clear k3 HB56 HB35
  have hbe := HBL.out w6 tg HB6.out
  rw [HIN.out] at hbe
  generalize hRL : (rmv e2.ks id).length = RL at *
  have HRL := hid_mk hRL
  clear hRL
  go_upto_region 8 with (go_at_call 106; refine hbe.mono ?_; clear hbe; rintro e w7 ⟨rfl, hB7⟩; have HB67 := hid_mk hB7; have HB7 := hid_mk (HB6.out.trans (hB7.mono HB6.out.size)); clear hB7)
  have y0 := HCL.out w7 HB7.out
  have h0 : (0 : Int) ≤ (j : Int) := by omega
  have h9 : (j : Int) ≤ (RL : Int) := by omega
  have hj0 : decide ((j : Int) < 0) = false := decide_eq_false (by omega)
  have hj1 : decide ((RL : Int) < (j : Int)) = false := decide_eq_false (by omega)
  have hj2 : decide (RL < j) = false := decide_eq_false (by omega)
  clear HRL HR6 HIN
  go_wp2
  go_loopw [68] (fun a68 wq => ∃ t : Nat, t ≤ L.length ∧ a68 = .int .i64 (t : Int) ∧ Hid (Below w.heap.size w wq) ∧ Hid (∀ k (hk : k < L.length), k < t → ¬ Over m id tg L[k].id)) (fun a68 _ => L.length + 1 - (intOf a68).toNat)
  case atStart => exact ⟨0, Nat.zero_le _, rfl, HB7, fun k _ h => absurd h (by omega)⟩
  case round =>
    obtain ⟨t, ht, rfl, HB, HNO⟩ := hrel
    by_cases htl : t < L.length
    · have HN2 : Hid (¬ Over m id tg L[t].id → ∀ k (hk : k < L.length), k < t + 1 → ¬ Over m id tg L[k].id) := fun hno k hk hkt => by
        by_cases h1 : k < t
        · exact HNO.out k hk h1
        · have : k = t := by omega
          subst this
          exact hno
      obtain ⟨s1, ab, ao, rfl, hid, g0, g1, g2, g3, g4⟩ := HC.out wr HB.out t htl
      obtain ⟨w8, hw8⟩ : ∃ w8, w8 = wr.alloc (.cells #[.int .i64 s1.id, .string s1.tag, .int .i64 s1.par, .slice s1.ka s1.kn s1.kc, .slice s1.aa s1.an s1.ac] 76) := ⟨_, rfl⟩
      have hB8 : Below wr.heap.size wr w8 := by rw [hw8]; exact (Below.refl _ _).alloc (Nat.le_refl _) _
      have hN8 : NodeAt w8 wr.heap.size s1 := by rw [hw8]; exact heap_alloc_last wr _
      obtain ⟨⟨n0, _, _, _, _⟩, _, _, _, _, _, hgl⟩ := hN8.cells
      rw [hid] at n0
      have HB8 : Hid (Below w.heap.size w w8) := HB.out.trans (hB8.mono HB.out.size)
      have HF : Hid (∀ W, Below w8.heap.size w8 W → W.cell? ⟨wr.heap.size, 0, none⟩ = some (.int .i64 L[t].id)) := fun W hW => (hW.cell (p := ⟨wr.heap.size, 0, none⟩) hgl).trans n0
      have HB1 : Hid (∀ W, Below w8.heap.size w8 W → Calls Tryz.prog 106 #[.pointer (some ⟨b, 0, none⟩), .int .i64 L[t].id, .int .i64 id] W fun x w' => x = .returned (.bool (decide (id ∈ ups m L[t].id))) ∧ Below w8.heap.size w8 w') := fun W hW => by
        refine (HBL.out W L[t].id (HB8.out.trans (hW.mono HB8.out.size))).mono ?_
        rintro x w' ⟨rfl, hB⟩
        exact ⟨rfl, hW.trans (hB.mono hW.size)⟩
      have HDX : Hid (∀ n W, Below w8.heap.size w8 W → Calls Tryz.prog 103 #[.pointer (some ⟨b, 0, none⟩), .int .i64 n] W fun x w' => x = .returned (.int .i64 (ups m n).length) ∧ Below w8.heap.size w8 w') := fun n W hW => by
        refine (HDP.out W n (HB8.out.trans (hW.mono HB8.out.size))).mono ?_
        rintro x w' ⟨rfl, hB⟩
        exact ⟨rfl, hW.trans (hB.mono hW.size)⟩
      have HD1 := hid_mk (HDX.out tg)
      have HD2 := hid_mk (HDX.out L[t].id)
      have HD3 := hid_mk (HDX.out id)
      have u1 := HUP.out tg
      have u2 := HUP.out L[t].id
      have u3 := HUP.out id
      have HW8 := hid_mk hw8
      have HOI : Hid (Over m id tg L[t].id ↔ (decide (id ∈ ups m L[t].id) = true ∧ (512 : Int) < (ups m tg).length + 1 + (ups m L[t].id).length - (ups m id).length)) := by simp [Hid, Over]
      generalize hov0 : (∀ k (hk : k < L.length), k < t + 1 → ¬ Over m id tg L[k].id) = PK at *
      have HPK := hid_mk hov0
      clear hov0 HNO
      generalize L[t] = el at *
      clear hB8 hN8 hw8 hid HDX HC hgl HBL HDP HUP HB n0
      go_upto_region 13 with (fail)
      rw [← HW8.out]
      clear g0 g1 g2 g3 g4
      generalize (ups m tg).length = U at *
      generalize (ups m el.id).length = V at *
      generalize (ups m id).length = X at *
      have n0 := HF.out w8 (Below.refl _ _)
      have hw1 : IntKind.i64.wrap ((U : Int) + 1) = (U : Int) + 1 := by rw [IntKind.wrap_i64]; omega
      have hw2 : IntKind.i64.wrap ((U : Int) + 1 + (V : Int)) = (U : Int) + 1 + (V : Int) := by rw [IntKind.wrap_i64]; omega
      have hw3 : IntKind.i64.wrap ((U : Int) + 1 + (V : Int) - (X : Int)) = (U : Int) + 1 + (V : Int) - (X : Int) := by rw [IntKind.wrap_i64]; omega
      generalize hbb : decide (id ∈ ups m el.id) = bo at *
      clear hbb
      cases bo with
      | false =>
        have HP2 : Hid PK := HN2.out (fun h => by have := (HOI.out.1 h).1; cases this)
        rw [← HPK.out] at HP2
        clear HOI HN2 HD1 HD2 HD3
        have gd : Below w8.heap.size w8 w8.drew := (Below.refl _ _).drew
        refine wp_region_held_drew (S := fun w' => w'.cell? ⟨wr.heap.size, 0, none⟩ = some (.int .i64 el.id)) (by kernel_rfl) (HF.out _ gd) (fun hHeld => ?_)
        refine wpAnyH_take (i := 0) (oi := { dst := some 72, op := Op.move (Operand.tmp 0), type := 26, pos := "ref.go:196", after := #[], guard := none }) (v := ?_) rfl (by kernel_rfl) (by kernel_rfl) (by kernel_rfl) (fun _ _ _ h => h) (Or.inl ⟨by rfl, ?_⟩) (by assumption) ?_
        rotate_left
        · intro w hSw
          try dsimp only at hSw
          go_simp
          try with_reducible rfl
        try simp only [Act.put, List.setIfInBounds_toArray, List.set_cons_zero, List.set_cons_succ]
        refine wpAnyH_take (i := 1) (oi := { dst := some 73, op := Op.fieldAddr 76 (Operand.tmp 16) 0, type := 0, pos := "ref.go:196", after := #[], guard := none }) (v := ?_) rfl (by kernel_rfl) (by kernel_rfl) (by kernel_rfl) (fun _ _ _ h => h) (Or.inl ⟨by rfl, ?_⟩) (by assumption) ?_
        rotate_left
        · intro w hSw
          try dsimp only at hSw
          go_simp
          try with_reducible rfl
        try simp only [Act.put, List.setIfInBounds_toArray, List.set_cons_zero, List.set_cons_succ]
        refine wpAnyH_take (i := 2) (oi := { dst := some 74, op := Op.load 3 (Operand.tmp 73), type := 3, pos := "ref.go:196", after := #[{ on := 1, ground := Ground.data }], guard := none }) (v := ?_) rfl (by kernel_rfl) (by kernel_rfl) (by kernel_rfl) (fun _ _ _ h => h) (Or.inl ⟨by rfl, ?_⟩) (by assumption) ?_
        rotate_left
        · intro w hSw
          try dsimp only at hSw
          go_simp
          try with_reducible rfl
        try simp only [Act.put, List.setIfInBounds_toArray, List.set_cons_zero, List.set_cons_succ]
        refine wpAnyH_take (i := 3) (oi := { dst := some 75, op := Op.move (Operand.tmp 1), type := 3, pos := "ref.go:196", after := #[], guard := none }) (v := ?_) rfl (by kernel_rfl) (by kernel_rfl) (by kernel_rfl) (fun _ _ _ h => h) (Or.inl ⟨by rfl, ?_⟩) (by assumption) ?_
        rotate_left
        · intro w hSw
          try dsimp only at hSw
          go_simp
          try with_reducible rfl
        try simp only [Act.put, List.setIfInBounds_toArray, List.set_cons_zero, List.set_cons_succ]
        refine wpAnyH_ready (rs := [4]) (by kernel_rfl) (by simp) ?_
        refine AllReadyH.cons (o := { dst := some 76, op := Op.call { callee := Callee.value (Operand.func 106), args := #[Operand.tmp 72, Operand.tmp 74, Operand.tmp 75], argTypes := #[26, 3, 3] }, type := 4, pos := "ref.go:196", after := #[{ on := 0, ground := Ground.data }, { on := 2, ground := Ground.data }, { on := 3, ground := Ground.data }], guard := none }) rfl (fun K hK => ?_) AllReadyH.nil
        go_simp
        go_at_call 106
        refine (HB1.out _ gd).mono ?_
        rintro e wa ⟨rfl, ga⟩
        refine hK.out _ _ (HF.out _ ga) (fun hHeld => ?_)
        clear hK
        try simp only [Act.put, List.setIfInBounds_toArray, List.set_cons_zero, List.set_cons_succ]
        refine wpAnyH_take (i := 5) (oi := { dst := some 77, op := Op.move (Operand.tmp 76), type := 4, pos := "ref.go:196", after := #[{ on := 4, ground := Ground.data }, { on := 4, ground := Ground.chain }], guard := none }) (v := ?_) rfl (by kernel_rfl) (by kernel_rfl) (by kernel_rfl) (fun _ _ _ h => h) (Or.inl ⟨by rfl, ?_⟩) (by assumption) ?_
        rotate_left
        · intro w hSw
          try dsimp only at hSw
          go_simp
          try with_reducible rfl
        try simp only [Act.put, List.setIfInBounds_toArray, List.set_cons_zero, List.set_cons_succ]
        refine wpAnyH_take (i := 6) (oi := { dst := some 78, op := Op.move (Operand.tmp 0), type := 26, pos := "ref.go:196", after := #[{ on := 5, ground := Ground.guard }], guard := some (5, true) }) (v := undef) rfl (by kernel_rfl) (by kernel_rfl) (by kernel_rfl) (fun _ _ _ h => h) (Or.inr ⟨by rfl, rfl⟩) (by assumption) ?_
        try simp only [Act.put, List.setIfInBounds_toArray, List.set_cons_zero, List.set_cons_succ]
        refine wpAnyH_take (i := 7) (oi := { dst := some 79, op := Op.move (Operand.tmp 2), type := 3, pos := "ref.go:196", after := #[{ on := 5, ground := Ground.guard }], guard := some (5, true) }) (v := undef) rfl (by kernel_rfl) (by kernel_rfl) (by kernel_rfl) (fun _ _ _ h => h) (Or.inr ⟨by rfl, rfl⟩) (by assumption) ?_
        try simp only [Act.put, List.setIfInBounds_toArray, List.set_cons_zero, List.set_cons_succ]
        refine wpAnyH_take (i := 8) (oi := { dst := some 80, op := Op.call { callee := Callee.value (Operand.func 103), args := #[Operand.tmp 78, Operand.tmp 79], argTypes := #[26, 3] }, type := 3, pos := "ref.go:196", after := #[{ on := 6, ground := Ground.data }, { on := 7, ground := Ground.data }, { on := 5, ground := Ground.chain }, { on := 5, ground := Ground.guard }], guard := some (5, true) }) (v := undef) rfl (by kernel_rfl) (by kernel_rfl) (by kernel_rfl) (fun _ _ _ h => h) (Or.inr ⟨by rfl, rfl⟩) (by assumption) ?_
        try simp only [Act.put, List.setIfInBounds_toArray, List.set_cons_zero, List.set_cons_succ]
        refine wpAnyH_take (i := 9) (oi := { dst := some 81, op := Op.binOp BinOp.add 3 (Operand.tmp 80) (Operand.const (Value.int IntKind.i64 1)) 3, type := 3, pos := "ref.go:196", after := #[{ on := 8, ground := Ground.data }, { on := 5, ground := Ground.guard }], guard := some (5, true) }) (v := undef) rfl (by kernel_rfl) (by kernel_rfl) (by kernel_rfl) (fun _ _ _ h => h) (Or.inr ⟨by rfl, rfl⟩) (by assumption) ?_
        try simp only [Act.put, List.setIfInBounds_toArray, List.set_cons_zero, List.set_cons_succ]
        refine wpAnyH_take (i := 10) (oi := { dst := some 82, op := Op.move (Operand.tmp 0), type := 26, pos := "ref.go:196", after := #[{ on := 5, ground := Ground.guard }], guard := some (5, true) }) (v := undef) rfl (by kernel_rfl) (by kernel_rfl) (by kernel_rfl) (fun _ _ _ h => h) (Or.inr ⟨by rfl, rfl⟩) (by assumption) ?_
        try simp only [Act.put, List.setIfInBounds_toArray, List.set_cons_zero, List.set_cons_succ]
        refine wpAnyH_take (i := 11) (oi := { dst := some 83, op := Op.fieldAddr 76 (Operand.tmp 16) 0, type := 0, pos := "ref.go:196", after := #[{ on := 5, ground := Ground.guard }], guard := some (5, true) }) (v := undef) rfl (by kernel_rfl) (by kernel_rfl) (by kernel_rfl) (fun _ _ _ h => h) (Or.inr ⟨by rfl, rfl⟩) (by assumption) ?_
        try simp only [Act.put, List.setIfInBounds_toArray, List.set_cons_zero, List.set_cons_succ]
        refine wpAnyH_take (i := 12) (oi := { dst := some 84, op := Op.load 3 (Operand.tmp 83), type := 3, pos := "ref.go:196", after := #[{ on := 11, ground := Ground.data }, { on := 5, ground := Ground.guard }], guard := some (5, true) }) (v := undef) rfl (by kernel_rfl) (by kernel_rfl) (by kernel_rfl) (fun _ _ _ h => h) (Or.inr ⟨by rfl, rfl⟩) (by assumption) ?_
        try simp only [Act.put, List.setIfInBounds_toArray, List.set_cons_zero, List.set_cons_succ]
        refine wpAnyH_take (i := 13) (oi := { dst := some 85, op := Op.call { callee := Callee.value (Operand.func 103), args := #[Operand.tmp 82, Operand.tmp 84], argTypes := #[26, 3] }, type := 3, pos := "ref.go:196", after := #[{ on := 10, ground := Ground.data }, { on := 12, ground := Ground.data }, { on := 8, ground := Ground.chain }, { on := 5, ground := Ground.guard }], guard := some (5, true) }) (v := undef) rfl (by kernel_rfl) (by kernel_rfl) (by kernel_rfl) (fun _ _ _ h => h) (Or.inr ⟨by rfl, rfl⟩) (by assumption) ?_
        try simp only [Act.put, List.setIfInBounds_toArray, List.set_cons_zero, List.set_cons_succ]
        refine wpAnyH_take (i := 14) (oi := { dst := some 86, op := Op.binOp BinOp.add 3 (Operand.tmp 81) (Operand.tmp 85) 3, type := 3, pos := "ref.go:196", after := #[{ on := 9, ground := Ground.data }, { on := 13, ground := Ground.data }, { on := 5, ground := Ground.guard }], guard := some (5, true) }) (v := undef) rfl (by kernel_rfl) (by kernel_rfl) (by kernel_rfl) (fun _ _ _ h => h) (Or.inr ⟨by rfl, rfl⟩) (by assumption) ?_
        try simp only [Act.put, List.setIfInBounds_toArray, List.set_cons_zero, List.set_cons_succ]
        refine wpAnyH_take (i := 15) (oi := { dst := some 87, op := Op.move (Operand.tmp 0), type := 26, pos := "ref.go:196", after := #[{ on := 5, ground := Ground.guard }], guard := some (5, true) }) (v := undef) rfl (by kernel_rfl) (by kernel_rfl) (by kernel_rfl) (fun _ _ _ h => h) (Or.inr ⟨by rfl, rfl⟩) (by assumption) ?_
        try simp only [Act.put, List.setIfInBounds_toArray, List.set_cons_zero, List.set_cons_succ]
        refine wpAnyH_take (i := 16) (oi := { dst := some 88, op := Op.move (Operand.tmp 1), type := 3, pos := "ref.go:196", after := #[{ on := 5, ground := Ground.guard }], guard := some (5, true) }) (v := undef) rfl (by kernel_rfl) (by kernel_rfl) (by kernel_rfl) (fun _ _ _ h => h) (Or.inr ⟨by rfl, rfl⟩) (by assumption) ?_
        try simp only [Act.put, List.setIfInBounds_toArray, List.set_cons_zero, List.set_cons_succ]
        refine wpAnyH_take (i := 17) (oi := { dst := some 89, op := Op.call { callee := Callee.value (Operand.func 103), args := #[Operand.tmp 87, Operand.tmp 88], argTypes := #[26, 3] }, type := 3, pos := "ref.go:196", after := #[{ on := 15, ground := Ground.data }, { on := 16, ground := Ground.data }, { on := 13, ground := Ground.chain }, { on := 5, ground := Ground.guard }], guard := some (5, true) }) (v := undef) rfl (by kernel_rfl) (by kernel_rfl) (by kernel_rfl) (fun _ _ _ h => h) (Or.inr ⟨by rfl, rfl⟩) (by assumption) ?_
        try simp only [Act.put, List.setIfInBounds_toArray, List.set_cons_zero, List.set_cons_succ]
        refine wpAnyH_take (i := 18) (oi := { dst := some 90, op := Op.binOp BinOp.sub 3 (Operand.tmp 86) (Operand.tmp 89) 3, type := 3, pos := "ref.go:196", after := #[{ on := 14, ground := Ground.data }, { on := 17, ground := Ground.data }, { on := 5, ground := Ground.guard }], guard := some (5, true) }) (v := undef) rfl (by kernel_rfl) (by kernel_rfl) (by kernel_rfl) (fun _ _ _ h => h) (Or.inr ⟨by rfl, rfl⟩) (by assumption) ?_
        try simp only [Act.put, List.setIfInBounds_toArray, List.set_cons_zero, List.set_cons_succ]
        refine wpAnyH_take (i := 19) (oi := { dst := some 91, op := Op.binOp BinOp.gtr 3 (Operand.tmp 90) (Operand.const (Value.int IntKind.i64 512)) 3, type := 4, pos := "ref.go:196", after := #[{ on := 18, ground := Ground.data }, { on := 5, ground := Ground.guard }], guard := some (5, true) }) (v := undef) rfl (by kernel_rfl) (by kernel_rfl) (by kernel_rfl) (fun _ _ _ h => h) (Or.inr ⟨by rfl, rfl⟩) (by assumption) ?_
        try simp only [Act.put, List.setIfInBounds_toArray, List.set_cons_zero, List.set_cons_succ]
        refine wpAnyH_take (i := 20) (oi := { dst := some 92, op := Op.pick (Operand.tmp 77) (Operand.tmp 91) (Operand.const (Value.bool false)), type := 4, pos := "ref.go:196", after := #[{ on := 5, ground := Ground.data }, { on := 19, ground := Ground.data }], guard := none }) (v := ?_) rfl (by kernel_rfl) (by kernel_rfl) (by kernel_rfl) (fun _ _ _ h => h) (Or.inl ⟨by rfl, ?_⟩) (by assumption) ?_
        rotate_left
        · intro w hSw
          try dsimp only at hSw
          go_simp
          try with_reducible rfl
        try simp only [Act.put, List.setIfInBounds_toArray, List.set_cons_zero, List.set_cons_succ]
        refine wpAnyH_done (by kernel_rfl) ?_ _
        all_goals
          have HBa := hid_mk (HB8.out.trans (ga.mono HB8.out.size))
          clear gd ga 
          go_wp2
          exact ⟨⟨t + 1, htl, by go_num, HBa, HP2⟩, by simp only [intOf]; omega⟩
      | true =>
        by_cases h5 : (512 : Int) < (U : Int) + 1 + (V : Int) - (X : Int)
        · have hd5 : decide ((512 : Int) < (U : Int) + 1 + (V : Int) - (X : Int)) = true := decide_eq_true h5
          clear HOI HN2
          have gd : Below w8.heap.size w8 w8.drew := (Below.refl _ _).drew
          go_region_held3 (fun w' => w'.cell? ⟨wr.heap.size, 0, none⟩ = some (.int .i64 el.id))
            (first | with_reducible exact HF.out _ gd | with_reducible exact HF.out _ ga | with_reducible exact HF.out _ gb | with_reducible exact HF.out _ gc | with_reducible exact HF.out _ ge)
            (first
              | (go_at_call 106; with_reducible refine (HB1.out _ gd).mono ?_; rintro e wa ⟨rfl, ga⟩)
              | (go_at_call 103; with_reducible refine (HD1.out _ ga).mono ?_; rintro e wb ⟨rfl, gb⟩)
              | (go_at_call 103; with_reducible refine (HD2.out _ gb).mono ?_; rintro e wc ⟨rfl, gc⟩)
              | (go_at_call 103; with_reducible refine (HD3.out _ gc).mono ?_; rintro e we ⟨rfl, ge⟩))
          all_goals
            have HBa := hid_mk (HB8.out.trans (ge.mono HB8.out.size))
            clear gd ga gb gc ge 
            go_wp2
            go_ret2
            exact ⟨rfl, HBa.out⟩

        · have HP2 : Hid PK := HN2.out (fun h => h5 (HOI.out.1 h).2)
          rw [← HPK.out] at HP2
          have hd5 : decide ((512 : Int) < (U : Int) + 1 + (V : Int) - (X : Int)) = false := decide_eq_false h5
          clear HOI HN2
          have gd : Below w8.heap.size w8 w8.drew := (Below.refl _ _).drew
          go_region_held3 (fun w' => w'.cell? ⟨wr.heap.size, 0, none⟩ = some (.int .i64 el.id))
            (first | with_reducible exact HF.out _ gd | with_reducible exact HF.out _ ga | with_reducible exact HF.out _ gb | with_reducible exact HF.out _ gc | with_reducible exact HF.out _ ge)
            (first
              | (go_at_call 106; with_reducible refine (HB1.out _ gd).mono ?_; rintro e wa ⟨rfl, ga⟩)
              | (go_at_call 103; with_reducible refine (HD1.out _ ga).mono ?_; rintro e wb ⟨rfl, gb⟩)
              | (go_at_call 103; with_reducible refine (HD2.out _ gb).mono ?_; rintro e wc ⟨rfl, gc⟩)
              | (go_at_call 103; with_reducible refine (HD3.out _ gc).mono ?_; rintro e we ⟨rfl, ge⟩))
          all_goals
            have HBa := hid_mk (HB8.out.trans (ge.mono HB8.out.size))
            clear gd ga gb gc ge 
            go_wp2
            exact ⟨⟨t + 1, htl, by go_num, HBa, HP2⟩, by simp only [intOf]; omega⟩

    · obtain ⟨t0, ht0, ho⟩ := HEX.out
      exact absurd ho (HNO.out t0 ht0 (by omega))

end Go.Proofs.YtdiljkmlneeboaaGreat.N
