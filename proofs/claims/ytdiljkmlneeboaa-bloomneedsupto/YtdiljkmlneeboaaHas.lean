/- Filters: Has of the program and of the document. -/
import Derived.Test.YtdiljkmlneeboaaAdd
import Derived.Deep.RegionHeld3
import Derived.ChangeKeysEq
namespace Go.Proofs.Ytdiljkmlneeboaa
open Go.RowKit
set_option maxRecDepth 100000

/-- Are two filters one? -/
def Flt.eqb (f g : Flt) : Bool := decide (f.a = g.a ∧ f.b = g.b ∧ f.c = g.c ∧ f.d = g.d)

theorem u64_eq (w : World) (d : Nat) (a b : Int) : (Op.equalIn (d + 1) 22 (.int .u64 a) (.int .u64 b)).run Try.prog w = .ok (a == b) w := by
  simp [Op.equalIn, run_underlying Try.underlying22]
theorem items_step (w : World) (xs ys : Array Value) (i : Nat) (is : List Nat) (x y : Nat) (hx : xs[i]? = some (.int .u64 (x : Int))) (hy : ys[i]? = some (.int .u64 (y : Int))) (r : Bool) (hr : (Op.eqItems 9999 22 1 xs ys is).run Try.prog w = .ok r w) :
    (Op.eqItems 9999 22 1 xs ys (i :: is)).run Try.prog w = .ok (decide (x = y) && r) w := by
  have a1 := Try.isAgg22
  have h1 : ∀ a b, (Op.equalIn 9999 22 (.int .u64 a) (.int .u64 b)).run Try.prog w = .ok (a == b) w := u64_eq w 9998
  have e1 : ((x : Int) == (y : Int)) = decide (x = y) := by
    by_cases h : x = y
    · subst h; simp
    · rw [decide_eq_false h]; exact beq_eq_false_iff_ne.2 (by omega)
  simp only [Op.eqItems, part, Sem.run_bind, a1, Result.andThen_ok, Bool.false_eq_true, if_false, Nat.mul_one, hx, hy, Sem.run_pure, h1, e1]
  by_cases h : x = y
  · simp [h, hr]
  · simp [h]
theorem flt_eq0 {t : TypeId} (ht : Try.prog.underlying t = some (.array 4 22)) (w : World) (g f : Flt) : (Op.equalIn 10000 t (.agg #[.int .u64 (g.a : Int), .int .u64 (g.b : Int), .int .u64 (g.c : Int), .int .u64 (g.d : Int)]) (.agg #[.int .u64 (f.a : Int), .int .u64 (f.b : Int), .int .u64 (f.c : Int), .int .u64 (f.d : Int)])).run Try.prog w = .ok (g.eqb f) w := by
  obtain ⟨i, hi⟩ : ∃ i, Try.prog.info? 22 = some i := ⟨_, by rfl⟩
  rw [run_equalIn_array w 9999 _ _ ht hi, show Try.prog.cellsOf 22 = 1 by kernel_rfl, show List.range 4 = [0, 1, 2, 3] from rfl]
  rw [items_step w _ _ 0 _ g.a f.a rfl rfl _ (items_step w _ _ 1 _ g.b f.b rfl rfl _ (items_step w _ _ 2 _ g.c f.c rfl rfl _ (items_step w _ _ 3 _ g.d f.d rfl rfl true (by simp [Op.eqItems]))))]
  congr 1
  rw [Bool.eq_iff_iff]
  simp [Flt.eqb]
theorem flt_eq (w : World) (g f : Flt) : (Op.equalIn 10000 27 (.agg #[.int .u64 (g.a : Int), .int .u64 (g.b : Int), .int .u64 (g.c : Int), .int .u64 (g.d : Int)]) (.agg #[.int .u64 (f.a : Int), .int .u64 (f.b : Int), .int .u64 (f.c : Int), .int .u64 (f.d : Int)])).run Try.prog w = .ok (g.eqb f) w := flt_eq0 Try.underlying27 w g f
theorem rflt_eq (w : World) (g f : Flt) : (Op.equalIn 10000 23 (.agg #[.int .u64 (g.a : Int), .int .u64 (g.b : Int), .int .u64 (g.c : Int), .int .u64 (g.d : Int)]) (.agg #[.int .u64 (f.a : Int), .int .u64 (f.b : Int), .int .u64 (f.c : Int), .int .u64 (f.d : Int)])).run Try.prog w = .ok (g.eqb f) w := flt_eq0 Try.underlying23 w g f

set_option maxHeartbeats 1000000 in
theorem has_any (f : Flt) (hf : f.ok) (k : Nat) (hk : k < 4294967296) (w : World) :
    Calls Try.prog 11 #[f.v, .int .u32 (k : Int)] w fun e w' => e = .returned (.bool ((f.add k).eqb f)) ∧ Below w.heap.size w w' := by
  obtain ⟨W0, hW0⟩ : ∃ W0, W0 = w.alloc (.cells #[.int .u64 (f.a : Int), .int .u64 (f.b : Int), .int .u64 (f.c : Int), .int .u64 (f.d : Int)] 27) := ⟨_, rfl⟩
  have hB0 : Below w.heap.size w W0 := by rw [hW0]; exact (Below.refl _ _).alloc (Nat.le_refl _) _
  have hF : FAt W0 w.heap.size 27 f := by rw [hW0]; exact alloc_at _ _ _ rfl
  have HA : Hid (∀ W, Below W0.heap.size W0 W → Calls Try.prog 8 #[f.v, .int .u32 (k : Int)] W fun e w' => e = .returned (f.add k).v ∧ Below W0.heap.size W0 w') := fun W hW =>
    (add_any f hf k hk W).mono fun e w' h => ⟨h.1, hW.trans (h.2.mono hW.size)⟩
  obtain ⟨g, hg⟩ : ∃ g, g = f.add k := ⟨_, rfl⟩
  rw [← hg] at HA ⊢
  have HF : Hid (∀ w', Below W0.heap.size W0 w' → w'.cell? ⟨w.heap.size, 0, none⟩ = some (.int .u64 (f.a : Int)) ∧ w'.cell? ⟨w.heap.size, 1, none⟩ = some (.int .u64 (f.b : Int)) ∧ w'.cell? ⟨w.heap.size, 2, none⟩ = some (.int .u64 (f.c : Int)) ∧ w'.cell? ⟨w.heap.size, 3, none⟩ = some (.int .u64 (f.d : Int))) := fun w' hw' => (hF.keep hw').cells.1
  have gd : Below W0.heap.size W0 W0.drew := (Below.refl _ _).drew
  have HB0 := hid_mk hB0
  have HS := hid_mk hF.lt
  have HA0 := HA.out _ gd
  have HW0 := hid_mk hW0
  have hE := fun W => flt_eq W g f
  unfold Flt.v at *
  clear hg hF hB0
  go_enter Try.func11, Try.ntmps11
  go_upto_region 1 with (fail)
  rw [← HW0.out]
  clear hW0 HW0
  go_region_held3 (fun w' => w'.cell? ⟨w.heap.size, 0, none⟩ = some (.int .u64 (f.a : Int)) ∧ w'.cell? ⟨w.heap.size, 1, none⟩ = some (.int .u64 (f.b : Int)) ∧ w'.cell? ⟨w.heap.size, 2, none⟩ = some (.int .u64 (f.c : Int)) ∧ w'.cell? ⟨w.heap.size, 3, none⟩ = some (.int .u64 (f.d : Int)))
    (first | with_reducible exact HF.out _ gd | with_reducible exact HF.out _ gb)
    (first | (go_at_call 8; refine HA0.mono ?_; rintro e w3 ⟨rfl, gb⟩))
  have HB := hid_mk (HB0.out.trans (gb.mono HB0.out.size))
  clear gb gd HA0 HA hE HF
  go_wp2
  go_ret
  exact ⟨rfl, HB.out⟩
set_option maxHeartbeats 1000000 in
theorem rhas_any (f : Flt) (hf : f.ok) (k : Nat) (hk : k < 4294967296) (w : World) :
    Calls Try.prog 12 #[f.v, .int .u32 (k : Int)] w fun e w' => e = .returned (.bool ((f.add k).eqb f)) ∧ Below w.heap.size w w' := by
  obtain ⟨W0, hW0⟩ : ∃ W0, W0 = w.alloc (.cells #[.int .u64 (f.a : Int), .int .u64 (f.b : Int), .int .u64 (f.c : Int), .int .u64 (f.d : Int)] 23) := ⟨_, rfl⟩
  have hB0 : Below w.heap.size w W0 := by rw [hW0]; exact (Below.refl _ _).alloc (Nat.le_refl _) _
  have hF : FAt W0 w.heap.size 23 f := by rw [hW0]; exact alloc_at _ _ _ rfl
  have HA : Hid (∀ W, Below W0.heap.size W0 W → Calls Try.prog 10 #[f.v, .int .u32 (k : Int)] W fun e w' => e = .returned (f.add k).v ∧ Below W0.heap.size W0 w') := fun W hW =>
    (radd_any f hf k hk W).mono fun e w' h => ⟨h.1, hW.trans (h.2.mono hW.size)⟩
  obtain ⟨g, hg⟩ : ∃ g, g = f.add k := ⟨_, rfl⟩
  rw [← hg] at HA ⊢
  have HF : Hid (∀ w', Below W0.heap.size W0 w' → w'.cell? ⟨w.heap.size, 0, none⟩ = some (.int .u64 (f.a : Int)) ∧ w'.cell? ⟨w.heap.size, 1, none⟩ = some (.int .u64 (f.b : Int)) ∧ w'.cell? ⟨w.heap.size, 2, none⟩ = some (.int .u64 (f.c : Int)) ∧ w'.cell? ⟨w.heap.size, 3, none⟩ = some (.int .u64 (f.d : Int))) := fun w' hw' => (hF.keep hw').cells.1
  have gd : Below W0.heap.size W0 W0.drew := (Below.refl _ _).drew
  have HB0 := hid_mk hB0
  have HS := hid_mk hF.lt
  have HA0 := HA.out _ gd
  have HW0 := hid_mk hW0
  have hE := fun W => rflt_eq W g f
  unfold Flt.v at *
  clear hg hF hB0
  go_enter Try.func12, Try.ntmps12
  go_upto_region 1 with (fail)
  rw [← HW0.out]
  clear hW0 HW0
  go_region_held3 (fun w' => w'.cell? ⟨w.heap.size, 0, none⟩ = some (.int .u64 (f.a : Int)) ∧ w'.cell? ⟨w.heap.size, 1, none⟩ = some (.int .u64 (f.b : Int)) ∧ w'.cell? ⟨w.heap.size, 2, none⟩ = some (.int .u64 (f.c : Int)) ∧ w'.cell? ⟨w.heap.size, 3, none⟩ = some (.int .u64 (f.d : Int)))
    (first | with_reducible exact HF.out _ gd | with_reducible exact HF.out _ gb)
    (first | (go_at_call 10; refine HA0.mono ?_; rintro e w3 ⟨rfl, gb⟩))
  have HB := hid_mk (HB0.out.trans (gb.mono HB0.out.size))
  clear gb gd HA0 HA hE HF
  go_wp2
  go_ret
  exact ⟨rfl, HB.out⟩

end Go.Proofs.Ytdiljkmlneeboaa
