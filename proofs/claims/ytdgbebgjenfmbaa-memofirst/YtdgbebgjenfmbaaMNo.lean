/- A table that no call made: MemoNone's walk. -/
import Derived.Test.YtdgbebgjenfmbaaMOp
namespace Go.Proofs.Ytdgbebgjenfmbaa.M
open Go.RowKit Go.Shelf
set_option maxRecDepth 100000

/-- No call made it. -/
def NZ (A : World) (p : Option Addr) : Prop := p = none ∨ ∃ t, p = some ⟨t, 0, none⟩ ∧ A.cell? ⟨t, 0, none⟩ = some (.pointer none)
theorem box5 {w : World} {b : Nat} {u0 u1 u2 u3 u4 : Value} {t : TypeId} (h : w.heap[b]? = some (.cells #[u0, u1, u2, u3, u4] t (0, 0))) : w.cell? ⟨b, 0, none⟩ = some u0 ∧ w.cell? ⟨b, 1, none⟩ = some u1 ∧ w.cell? ⟨b, 2, none⟩ = some u2 ∧ w.cell? ⟨b, 3, none⟩ = some u3 ∧ w.cell? ⟨b, 4, none⟩ = some u4 := by
  refine ⟨?_, ?_, ?_, ?_, ?_⟩ <;> simp [World.cell?, h]
theorem get_none {A : World} {p : Option Addr} (h : NZ A p) (e d : Int) : Calls Try.prog 14 #[.pointer p, .int .i64 e, .int .i64 d] A fun q w' => q = .returned (.tuple #[.slice none 0 0, .bool false]) ∧ Below A.heap.size A w' :=
  (get_any (Src.un (P := Any) h) (fun j x hh => by simp at hh) e d).mono fun q w' hh => by
    have hf : find [] e d = .full := rfl
    rw [hf] at hh
    exact ⟨hh.2, hh.1⟩
theorem put_none {A : World} {p : Option Addr} (h : NZ A p) (x : En) {sv : Value} (hS : SsAt Any A sv x.l) : Calls Try.prog 12 #[.pointer p, .agg #[.int .i64 x.e, .int .i64 x.d, sv]] A fun q w' => q = .returned (.bool false) ∧ Below A.heap.size A w' :=
  (put_any (Src.un (P := Any) h) x hS (fun h0 => absurd h0 (Nat.lt_irrefl 0)) (fun _ _ => trivial)).mono fun q w' hh => by
    have hf : find [] x.e x.d = .full := rfl
    rw [hf] at hh
    exact hh
theorem used_none {A : World} {p : Option Addr} (h : NZ A p) : Calls Try.prog 24 #[.pointer p] A fun q w' => q = .returned (.int .i64 0) ∧ Below A.heap.size A w' := used_any (Src.un (P := Any) h)
theorem cas_none {A : World} {p : Option Addr} (h : NZ A p) (i e d : Int) {sv : Value} (hsv : ∃ sa sn sc, sv = .slice sa sn sc) : Calls Try.prog 17 #[.pointer p, .int .i64 i, .agg #[.int .i64 e, .int .i64 d, sv]] A fun q w' => q = .returned (.bool false) ∧ Below A.heap.size A w' :=
  cas_no (Src.un (P := Any) h).cells (by simp) e d hsv
theorem NZ.keep {A B : World} {p : Option Addr} (h : NZ A p) (hb : Below A.heap.size A B) : NZ B p := by
  rcases h with rfl | ⟨t, rfl, h⟩
  · exact .inl rfl
  · exact .inr ⟨t, rfl, (hb.cell (p := ⟨t, 0, none⟩) (lt_of_cell h)).trans h⟩
theorem ix_two (w : World) (t : Nat) : (Instr.index 66 (.agg #[.pointer none, .pointer (some ⟨t, 0, none⟩)]) (.int .i64 0)).run Try.prog w = .ok (.pointer none) w ∧ (Instr.index 66 (.agg #[.pointer none, .pointer (some ⟨t, 0, none⟩)]) (.int .i64 1)).run Try.prog w = .ok (.pointer (some ⟨t, 0, none⟩)) w := ⟨by kernel_rfl, by kernel_rfl⟩
set_option maxHeartbeats 4000000 in
theorem none_walk (w : World) (z : Ac) {sv : Value} (hS : SsAt Any w sv z.x.l) : Calls Try.prog 6 #[.agg #[.int .i64 z.k, .int .i64 z.i, .int .i64 z.x.e, .int .i64 z.x.d, sv]] w fun e w' => e = .returned (.bool true) ∧ Below w.heap.size w w' := by
  obtain ⟨sa, sc, hsv⟩ : ∃ sa sc, sv = .slice sa z.x.l.length sc := by
    obtain ⟨sa, scp, sg0, so, hsv, _⟩ := hS
    exact ⟨sa, scp, hsv⟩
  obtain ⟨w2, hw2⟩ : ∃ w2, w2 = (w.alloc (.cells #[.int .i64 z.k, .int .i64 z.i, .int .i64 z.x.e, .int .i64 z.x.d, sv] 33)).alloc (.cells #[.pointer none] 65) := ⟨_, rfl⟩
  have hs2 : w2.heap.size = w.heap.size + 2 := by rw [hw2]; simp
  have hb2 : Below w.heap.size w w2 := by rw [hw2]; exact ((Below.refl _ w).alloc (Nat.le_refl _) _).alloc (by simp) _
  have y0 : w2.heap[w.heap.size]? = some (.cells #[.int .i64 z.k, .int .i64 z.i, .int .i64 z.x.e, .int .i64 z.x.d, sv] 33) := by rw [hw2]; exact (at2 w _ _).1
  have y1 : w2.heap[w.heap.size + 1]? = some (.cells #[.pointer none] 65) := by rw [hw2]; exact (at2 w _ _).2
  have HB : Hid (∀ A, Below w2.heap.size w2 A → Below w.heap.size w A) := fun A h => hb2.trans (h.mono hb2.size)
  have HC : Hid (∀ A, Below w2.heap.size w2 A → A.cell? ⟨w.heap.size, 1, none⟩ = some (.int .i64 z.i) ∧ A.cell? ⟨w.heap.size, 2, none⟩ = some (.int .i64 z.x.e) ∧ A.cell? ⟨w.heap.size, 3, none⟩ = some (.int .i64 z.x.d) ∧ A.cell? ⟨w.heap.size, 4, none⟩ = some sv) := fun A h => (box5 ((h.block _ (by omega)).trans y0)).2
  have HP : Hid (∀ A, Below w2.heap.size w2 A → NZ A none ∧ NZ A (some ⟨w.heap.size + 1, 0, none⟩)) := fun A h => ⟨.inl rfl, .inr ⟨_, rfl, (box_cell ((h.block _ (by omega)).trans y1)).1⟩⟩
  have HSS : Hid (∀ A, Below w2.heap.size w2 A → SsAt Any A sv z.x.l) := fun A h => hS.keep (Kb.of_below (hb2.trans (h.mono hb2.size)))
  have HPT : Hid (∀ A p, NZ A p → Below w2.heap.size w2 A → Calls Try.prog 12 #[.pointer p, .agg #[.int .i64 z.x.e, .int .i64 z.x.d, sv]] A fun q w' => q = .returned (.bool false) ∧ Below A.heap.size A w') := fun A p h hb => put_none h z.x (HSS.out A hb)
  have HW2 := hid_mk hw2
  clear hw2 hb2 y0 y1 HSS hS
  subst hsv
  generalize z.x.l.length = n at *
  generalize z.x.e = e at *
  generalize z.x.d = d at *
  generalize z.i = i at *
  generalize z.k = k at *
  go_enter Try.func6, Try.ntmps6
  go_upto_region 2 with fail
  rw [← HW2.out]
  go_wp2
  go_loopw [11] (fun p wr => ∃ j : Nat, p = .int .i64 (j : Int) ∧ j ≤ 2 ∧ Hid (Below w2.heap.size w2 wr)) (fun p _ => 3 - (intOf p).toNat)
  case atStart => exact ⟨0, rfl, Nat.zero_le _, Below.refl _ _⟩
  case round =>
    obtain ⟨j, rfl, hj, HBR⟩ := hrel
    by_cases hj2 : j = 2
    · subst hj2
      have hlv := lives_any wr
      go_wp2_with (go_at_call 9; refine hlv.mono ?_; rintro e w' ⟨rfl, hw⟩; have HX := hid_mk (HB.out _ (HBR.out.trans (hw.mono HBR.out.size))); clear hw hlv)
      go_ret
      exact ⟨rfl, HX.out⟩
    · have hjd : (j : Int) < 2 := by omega
      obtain ⟨p, hix, hp⟩ : ∃ p, (Instr.index 66 (.agg #[.pointer none, .pointer (some ⟨w.heap.size + 1, 0, none⟩)]) (.int .i64 (j : Int))).run Try.prog wr = .ok (.pointer p) wr ∧ ∀ A, Below w2.heap.size w2 A → NZ A p := by
        have hj01 : j = 0 ∨ j = 1 := by omega
        rcases hj01 with rfl | rfl
        · exact ⟨_, (ix_two wr _).1, fun A h => (HP.out A h).1⟩
        · exact ⟨_, (ix_two wr _).2, fun A h => (HP.out A h).2⟩
      have HNZ := hid_mk hp
      clear hp
      have g0 := HBR.out
      have H22 := clear_none (HNZ.out wr g0)
      have H14 := get_none (HNZ.out wr g0) e d
      obtain ⟨c1, c2, c3, c4⟩ := HC.out wr g0
      go_wp2_with (first
        | (go_at_call 22; refine H22.mono ?_; rintro e w' ⟨⟨v, rfl⟩, hw⟩; rw [hw]; clear hw w')
        | (go_at_call 14; refine H14.mono ?_; rintro e w3 ⟨rfl, hw3⟩; obtain ⟨b1, b2, b3, b4⟩ := HC.out w3 (g0.trans (hw3.mono g0.size)))
        | (go_at_call 19; fail))
      have g3 : Below w2.heap.size w2 w3 := g0.trans (hw3.mono g0.size)
      have H19 := load_none (HNZ.out w3 g3) i
      refine H19.mono ?_
      rintro e w5 ⟨rfl, hw5⟩
      have g5 : Below w2.heap.size w2 w5 := g3.trans (hw5.mono g3.size)
      clear H22 H14 H19 c1 c2 c3 c4 b1 b2 b3 b4 hw3 hw5 g3
      go_upto_region 8 with fail
      obtain ⟨wc, hwc⟩ : ∃ wc, wc = w5.alloc (.cells #[.int .i64 0, .int .i64 0, .slice none 0 0] 31) := ⟨_, rfl⟩
      have gc : Below w2.heap.size w2 wc := by rw [hwc]; exact g5.alloc g5.size _
      rw [← hwc]
      have gd : Below w2.heap.size w2 wc.drew := gc.drew
      have up : ∀ (K : Nat) (args : Array Value) (W : World) (v : Value), Below w2.heap.size w2 W → Calls Try.prog K args W (fun q w' => q = .returned v ∧ Below W.heap.size W w') → Calls Try.prog K args W (fun q w' => q = .returned v ∧ Below w2.heap.size w2 w') := fun K args W v hW h => h.mono fun q w' hh => ⟨hh.1, hW.trans (hh.2.mono hW.size)⟩
      have ups : ∀ (K : Nat) (args : Array Value) (W : World) (v : Value), Below w2.heap.size w2 W → Calls Try.prog K args W (fun q w' => q = .returned v ∧ w' = W) → Calls Try.prog K args W (fun q w' => q = .returned v ∧ Below w2.heap.size w2 w') := fun K args W v hW h => h.mono fun q w' hh => ⟨hh.1, by rw [hh.2]; exact hW⟩
      have H12 : Hid (∀ W, Below w2.heap.size w2 W → Calls Try.prog 12 #[.pointer p, .agg #[.int .i64 e, .int .i64 d, .slice sa n sc]] W fun q w' => q = .returned (.bool false) ∧ Below w2.heap.size w2 w') := fun W hW => up _ _ _ _ hW (HPT.out W p (HNZ.out W hW) hW)
      have H17 : Hid (∀ W, Below w2.heap.size w2 W → Calls Try.prog 17 #[.pointer p, .int .i64 i, .agg #[.int .i64 e, .int .i64 d, .slice sa n sc]] W fun q w' => q = .returned (.bool false) ∧ Below w2.heap.size w2 w') := fun W hW => up _ _ _ _ hW (cas_none (HNZ.out W hW) i e d ⟨_, _, _, rfl⟩)
      have H24 : Hid (∀ W, Below w2.heap.size w2 W → Calls Try.prog 24 #[.pointer p] W fun q w' => q = .returned (.int .i64 0) ∧ Below w2.heap.size w2 w') := fun W hW => up _ _ _ _ hW (used_none (HNZ.out W hW))
      have H26 : Hid (∀ W, Below w2.heap.size w2 W → Calls Try.prog 26 #[.pointer p] W fun q w' => q = .returned (.int .i64 0) ∧ Below w2.heap.size w2 w') := fun W hW => ups _ _ _ _ hW (size_none (HNZ.out W hW))
      have H27 : Hid (∀ W, Below w2.heap.size w2 W → Calls Try.prog 27 #[.pointer p, .int .i64 e, .int .i64 d] W fun q w' => q = .returned (.int .i64 0) ∧ Below w2.heap.size w2 w') := fun W hW => ups _ _ _ _ hW (home_none (HNZ.out W hW) e d)
      clear up ups hix hwc g5 g0 HPT HNZ
      go_region_held3 (fun w' => w'.cell? ⟨w.heap.size, 1, none⟩ = some (.int .i64 i) ∧ w'.cell? ⟨w.heap.size, 2, none⟩ = some (.int .i64 e) ∧ w'.cell? ⟨w.heap.size, 3, none⟩ = some (.int .i64 d) ∧ w'.cell? ⟨w.heap.size, 4, none⟩ = some (.slice sa n sc))
        (first | with_reducible exact HC.out _ gd | with_reducible exact HC.out _ gc | with_reducible exact HC.out _ g1 | with_reducible exact HC.out _ g2 | with_reducible exact HC.out _ g3 | with_reducible exact HC.out _ g4 | with_reducible exact HC.out _ g5)
        (first
          | (go_at_call 12; with_reducible refine (H12.out _ gd).mono ?_; rintro e v1 ⟨rfl, g1⟩)
          | (go_at_call 17; with_reducible refine (H17.out _ g1).mono ?_; rintro e v2 ⟨rfl, g2⟩)
          | (go_at_call 24; with_reducible refine (H24.out _ g2).mono ?_; rintro e v3 ⟨rfl, g3⟩)
          | (go_at_call 26; with_reducible refine (H26.out _ g3).mono ?_; rintro e v4 ⟨rfl, g4⟩)
          | (go_at_call 27; with_reducible refine (H27.out _ g4).mono ?_; rintro e v5 ⟨rfl, g5⟩))
      have G5 := hid_mk g5
      clear gc gd g1 g2 g3 g4 g5 H12 H17 H24 H26 H27 HC
      go_wp2
      refine ⟨⟨j + 1, by go_num, by omega, G5⟩, ?_⟩
      simp only [intOf]
      omega
end Go.Proofs.Ytdgbebgjenfmbaa.M
