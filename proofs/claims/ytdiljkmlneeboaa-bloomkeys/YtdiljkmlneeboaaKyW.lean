/- BloomKeys: the walk. -/
import Derived.Test.YtdiljkmlneeboaaMth
namespace Go.Proofs.Ytdiljkmlneeboaa
open Go.RowKit
set_option maxRecDepth 100000

/-- Two filters in their blocks. -/
def Two (w : World) (b c : Nat) (f g : Flt) : Prop := (w.cell? ⟨b, 0, none⟩ = some (.int .u64 (f.a : Int)) ∧ w.cell? ⟨b, 1, none⟩ = some (.int .u64 (f.b : Int)) ∧ w.cell? ⟨b, 2, none⟩ = some (.int .u64 (f.c : Int)) ∧ w.cell? ⟨b, 3, none⟩ = some (.int .u64 (f.d : Int))) ∧ w.cell? ⟨c, 0, none⟩ = some (.int .u64 (g.a : Int)) ∧ w.cell? ⟨c, 1, none⟩ = some (.int .u64 (g.b : Int)) ∧ w.cell? ⟨c, 2, none⟩ = some (.int .u64 (g.c : Int)) ∧ w.cell? ⟨c, 3, none⟩ = some (.int .u64 (g.d : Int))

set_option maxHeartbeats 4000000 in
theorem keys_walk (W : World) (kind : Int) (s : ByteArray) (hs : s.size ≤ 140737488351232) (f : Flt) (hf : f.ok) : Calls Try.prog 3 #[.int .i64 kind, .string s, f.v] W fun e w' => e = .returned (.bool true) ∧ Below W.heap.size W w' := by
  obtain ⟨W0, hW0⟩ : ∃ W0, W0 = W.alloc (.cells #[.int .u64 (f.a : Int), .int .u64 (f.b : Int), .int .u64 (f.c : Int), .int .u64 (f.d : Int)] 23) := ⟨_, rfl⟩
  have hB0 : Below W.heap.size W W0 := by rw [hW0]; exact (Below.refl _ _).alloc (Nat.le_refl _) _
  have hF0 : FAt W0 W.heap.size 23 f := by rw [hW0]; exact alloc_at _ _ _ rfl
  have hk := key_any kind s hs W0
  have HRK : Hid (s.size ≤ 5000 → ∀ w, _) := fun h w => rkey_any kind s h w
  have hkl : keyN (kind % 256).toNat s < 4294967296 := keyAt_lt (by decide) _ _
  generalize keyN (kind % 256).toNat s = k at *
  have ha := add_any f hf k hkl W0
  have HLV := hid_mk lives_any
  have HW0 := hid_mk hW0
  have HB0 := hid_mk hB0
  have HF0 := hid_mk hF0
  unfold Flt.v at ha ⊢
  by_cases h5 : 5000 < s.size
  · have hd : decide ((5000 : Int) < (s.size : Int)) = true := decide_eq_true (by omega)
    clear hk HRK ha hF0 hB0 hW0
    go_enter Try.func3, Try.ntmps3
    go_wp2_with (go_at_call 6; fail)
    rw [← HW0.out]
    refine (HLV.out W0).mono ?_
    rintro e w1 ⟨rfl, hB1⟩
    go_wp2
    go_ret
    exact ⟨rfl, HB0.out.trans (hB1.mono HB0.out.size)⟩
  · have hd : decide ((5000 : Int) < (s.size : Int)) = false := decide_eq_false (by omega)
    have HK := hid_mk (HRK.out (by omega))
    obtain ⟨q0, q1, q2, q3⟩ := hF0.cells.1
    clear HRK hF0 hB0 hW0
    go_enter Try.func3, Try.ntmps3
    go_wp2_with (go_at_call 7; fail)
    rw [← HW0.out]
    refine hk.mono ?_
    rintro e w1 ⟨rfl, rfl⟩
    clear hk HW0
    go_wp2_with (go_at_call 8; fail)
    refine ha.mono ?_
    rintro e w2 ⟨rfl, hB2⟩
    obtain ⟨g, hg⟩ : ∃ g, g = f.add k := ⟨_, rfl⟩
    rw [← hg]
    obtain ⟨w3, hw3⟩ : ∃ w3, w3 = w2.alloc (.cells #[.int .u64 (g.a : Int), .int .u64 (g.b : Int), .int .u64 (g.c : Int), .int .u64 (g.d : Int)] 27) := ⟨_, rfl⟩
    have hB3 : Below w2.heap.size w2 w3 := by rw [hw3]; exact (Below.refl _ _).alloc (Nat.le_refl _) _
    have hF3 : FAt w3 W.heap.size 23 f := (HF0.out.keep hB2).keep hB3
    have hG3 : FAt w3 w2.heap.size 27 g := by rw [hw3]; exact alloc_at _ _ _ rfl
    have HB3 := hid_mk ((HB0.out.trans (hB2.mono HB0.out.size)).trans (hB3.mono (Nat.le_trans HB0.out.size hB2.size)))
    have HF : Hid (∀ w', Below w3.heap.size w3 w' → Two w' W.heap.size w2.heap.size f g) := fun w' hw' => ⟨(hF3.keep hw').cells.1, (hG3.keep hw').cells.1⟩
    have gd : Below w3.heap.size w3 w3.drew := (Below.refl _ _).drew
    have HK9 : Hid (∀ w', Below w3.heap.size w3 w' → Calls Try.prog 9 #[.int .i64 kind, .string s] w' fun e w'' => e = .returned (.int .u32 (k : Nat)) ∧ Below w3.heap.size w3 w'') := fun w' hw' => (HK.out w').mono fun e w'' h => ⟨h.1, hw'.trans (h.2.mono hw'.size)⟩
    have HK10 : Hid (∀ w', Below w3.heap.size w3 w' → Calls Try.prog 10 #[.agg #[.int .u64 (f.a : Int), .int .u64 (f.b : Int), .int .u64 (f.c : Int), .int .u64 (f.d : Int)], .int .u32 (k : Nat)] w' fun e w'' => e = .returned (.agg #[.int .u64 (g.a : Int), .int .u64 (g.b : Int), .int .u64 (g.c : Int), .int .u64 (g.d : Int)]) ∧ Below w3.heap.size w3 w'') := fun w' hw' => (radd_any f hf k hkl w').mono fun e w'' h => ⟨by rw [hg]; exact h.1, hw'.trans (h.2.mono hw'.size)⟩
    obtain ⟨hb, hhb⟩ : ∃ hb, hb = (f.add k).eqb f := ⟨_, rfl⟩
    have HK11 : Hid (∀ w', Below w3.heap.size w3 w' → Calls Try.prog 11 #[.agg #[.int .u64 (f.a : Int), .int .u64 (f.b : Int), .int .u64 (f.c : Int), .int .u64 (f.d : Int)], .int .u32 (k : Nat)] w' fun e w'' => e = .returned (.bool hb) ∧ Below w3.heap.size w3 w'') := fun w' hw' => (has_any f hf k hkl w').mono fun e w'' h => ⟨by rw [hhb]; exact h.1, hw'.trans (h.2.mono hw'.size)⟩
    have HK12 : Hid (∀ w', Below w3.heap.size w3 w' → Calls Try.prog 12 #[.agg #[.int .u64 (f.a : Int), .int .u64 (f.b : Int), .int .u64 (f.c : Int), .int .u64 (f.d : Int)], .int .u32 (k : Nat)] w' fun e w'' => e = .returned (.bool hb) ∧ Below w3.heap.size w3 w'') := fun w' hw' => (rhas_any f hf k hkl w').mono fun e w'' h => ⟨by rw [hhb]; exact h.1, hw'.trans (h.2.mono hw'.size)⟩
    have HK13 : Hid (∀ w', Below w3.heap.size w3 w' → Calls Try.prog 11 #[.agg #[.int .u64 (g.a : Int), .int .u64 (g.b : Int), .int .u64 (g.c : Int), .int .u64 (g.d : Int)], .int .u32 (k : Nat)] w' fun e w'' => e = .returned (.bool true) ∧ Below w3.heap.size w3 w'') := fun w' hw' => (has_any g (by rw [hg]; exact ok_add hf k) k hkl w').mono fun e w'' h => ⟨by rw [h.1, hg, add_same, eqb_self], hw'.trans (h.2.mono hw'.size)⟩
    have HK6 : Hid (∀ w', Below w3.heap.size w3 w' → Calls Try.prog 6 #[] w' fun e w'' => e = .returned (.bool true) ∧ Below w3.heap.size w3 w'') := fun w' hw' => (HLV.out w').mono fun e w'' h => ⟨h.1, hw'.trans (h.2.mono hw'.size)⟩
    have hE : ∀ V : World, (Op.equalIn 10000 23 (.agg #[.int .u64 (g.a : Int), .int .u64 (g.b : Int), .int .u64 (g.c : Int), .int .u64 (g.d : Int)]) (.agg #[.int .u64 (g.a : Int), .int .u64 (g.b : Int), .int .u64 (g.c : Int), .int .u64 (g.d : Int)])).run Try.prog V = .ok true V := fun V => by
      have h := rflt_eq V g g
      rw [eqb_self] at h
      exact h
    have hbb : (hb == hb) = true := by cases hb <;> rfl
    have hkk : (((k : Nat) : Int) == ((k : Nat) : Int)) = true := by simp
    have HW3 := hid_mk hw3
    clear hF3 hG3 hw3 hB3 hB2 HK HF0 HB0 HLV hhb hg ha q0 q1 q2 q3 hkl hf
    generalize ((k : Nat) : Int) = kk at *
    go_upto_region 5 with (fail)
    rw [← HW3.out]
    clear HW3
    unfold Two at HF
    go_region_held3 (fun w' => (w'.cell? ⟨W.heap.size, 0, none⟩ = some (.int .u64 (f.a : Int)) ∧ w'.cell? ⟨W.heap.size, 1, none⟩ = some (.int .u64 (f.b : Int)) ∧ w'.cell? ⟨W.heap.size, 2, none⟩ = some (.int .u64 (f.c : Int)) ∧ w'.cell? ⟨W.heap.size, 3, none⟩ = some (.int .u64 (f.d : Int))) ∧ w'.cell? ⟨w2.heap.size, 0, none⟩ = some (.int .u64 (g.a : Int)) ∧ w'.cell? ⟨w2.heap.size, 1, none⟩ = some (.int .u64 (g.b : Int)) ∧ w'.cell? ⟨w2.heap.size, 2, none⟩ = some (.int .u64 (g.c : Int)) ∧ w'.cell? ⟨w2.heap.size, 3, none⟩ = some (.int .u64 (g.d : Int)))
      (first | with_reducible exact HF.out _ gd | with_reducible exact HF.out _ ga | with_reducible exact HF.out _ gb | with_reducible exact HF.out _ gc | with_reducible exact HF.out _ ge | with_reducible exact HF.out _ gf | with_reducible exact HF.out _ gg)
      (first
        | (go_at_call 9; with_reducible refine (HK9.out _ gd).mono ?_; rintro e wa ⟨rfl, ga⟩)
        | (go_at_call 10; with_reducible refine (HK10.out _ ga).mono ?_; rintro e wb ⟨rfl, gb⟩)
        | (go_at_call 11; with_reducible refine (HK11.out _ gb).mono ?_; rintro e wc ⟨rfl, gc⟩)
        | (go_at_call 12; with_reducible refine (HK12.out _ gc).mono ?_; rintro e we ⟨rfl, ge⟩)
        | (go_at_call 11; with_reducible refine (HK13.out _ ge).mono ?_; rintro e wf ⟨rfl, gf⟩)
        | (go_at_call 6; with_reducible refine (HK6.out _ gf).mono ?_; rintro e wg ⟨rfl, gg⟩))
    have HZ := hid_mk (HB3.out.trans (gg.mono HB3.out.size))
    clear gd ga gb gc ge gf gg HF HK9 HK10 HK11 HK12 HK13 HK6 hE
    go_wp2
    go_ret
    exact ⟨rfl, HZ.out⟩
end Go.Proofs.Ytdiljkmlneeboaa
