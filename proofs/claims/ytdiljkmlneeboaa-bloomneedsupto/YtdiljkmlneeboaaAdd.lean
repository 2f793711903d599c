/- Filters: Add and Has of the program and of the document. -/
import Derived.Test.YtdiljkmlneeboaaFlt
import Derived.Deep.RegionHeld3
namespace Go.Proofs.Ytdiljkmlneeboaa
open Go.RowKit
set_option maxRecDepth 100000

/-- A filter in a block of its own. -/
def FAt (w : World) (b : Nat) (t : TypeId) (f : Flt) : Prop := w.heap[b]? = some (.cells #[.int .u64 (f.a : Int), .int .u64 (f.b : Int), .int .u64 (f.c : Int), .int .u64 (f.d : Int)] t (0, 0))
theorem FAt.cells {w : World} {b : Nat} {t : TypeId} {f : Flt} (h : FAt w b t f) : (w.cell? ⟨b, 0, none⟩ = some (.int .u64 (f.a : Int)) ∧ w.cell? ⟨b, 1, none⟩ = some (.int .u64 (f.b : Int)) ∧ w.cell? ⟨b, 2, none⟩ = some (.int .u64 (f.c : Int)) ∧ w.cell? ⟨b, 3, none⟩ = some (.int .u64 (f.d : Int))) ∧ w.frozen? ⟨b, 0, none⟩ = false ∧ w.frozen? ⟨b, 1, none⟩ = false ∧ w.frozen? ⟨b, 2, none⟩ = false ∧ w.frozen? ⟨b, 3, none⟩ = false := by
  unfold FAt at h
  refine ⟨⟨?_, ?_, ?_, ?_⟩, ?_, ?_, ?_, ?_⟩ <;> simp [World.cell?, World.frozen?, h]
theorem FAt.lt {w : World} {b : Nat} {t : TypeId} {f : Flt} (h : FAt w b t f) : b < w.heap.size := (Array.getElem?_eq_some_iff.1 h).1
theorem FAt.keep {w w' : World} {b : Nat} {t : TypeId} {f : Flt} (h : FAt w b t f) (hb : Below w.heap.size w w') : FAt w' b t f := (hb.block _ h.lt).trans h
theorem FAt.keepB {w w' : World} {b B : Nat} {t : TypeId} {f : Flt} (h : FAt w b t f) (hb : Below B w w') (hl : b < B) : FAt w' b t f := (hb.block _ hl).trans h
theorem set_at {w : World} {b : Nat} {cs : Array Value} {t : TypeId} (i : Nat) (v : Value) (fr : Nat × Nat) (h : w.heap[b]? = some (.cells cs t fr)) : (w.setCell ⟨b, i, none⟩ v).heap[b]? = some (.cells (cs.setIfInBounds i v) t fr) := by
  simp only [World.setCell, Array.getElem?_modify, h, if_pos, Option.map_some, Option.isSome_none, Bool.false_eq_true, if_false]
/-- Another filter laid there. -/
def put4 (w : World) (b : Nat) (r : Flt) : World := (((w.setCell ⟨b, 0, none⟩ (.int .u64 (r.a : Int))).setCell ⟨b, 1, none⟩ (.int .u64 (r.b : Int))).setCell ⟨b, 2, none⟩ (.int .u64 (r.c : Int))).setCell ⟨b, 3, none⟩ (.int .u64 (r.d : Int))
theorem FAt.put {w : World} {b : Nat} {t : TypeId} {f : Flt} (h : FAt w b t f) (r : Flt) : FAt (put4 w b r) b t r := by
  unfold FAt at h
  unfold FAt put4
  rw [set_at 3 _ _ (set_at 2 _ _ (set_at 1 _ _ (set_at 0 _ _ h)))]
  rfl
theorem put4_below {B : Nat} {a w : World} {b : Nat} (h : Below B a w) (hb : B ≤ b) (r : Flt) : Below B a (put4 w b r) :=
  (((h.setCell (p := ⟨b, 0, none⟩) hb _).setCell (p := ⟨b, 1, none⟩) hb _).setCell (p := ⟨b, 2, none⟩) hb _).setCell (p := ⟨b, 3, none⟩) hb _
theorem alloc_at (w : World) (b : Nat) (o : Obj) (hb : b = w.heap.size) : (w.alloc o).heap[b]? = some o := by subst hb; exact heap_alloc_last w o
def fz : Flt := ⟨0, 0, 0, 0⟩
theorem zero_at (w : World) (o : Obj) (t : TypeId) : FAt ((w.alloc o).alloc (.cells #[.int .u64 0, .int .u64 0, .int .u64 0, .int .u64 0] t)) (w.heap.size + 1) t fz := alloc_at _ _ _ (by simp)

set_option maxHeartbeats 1000000 in
theorem add_any (f : Flt) (hf : f.ok) (k : Nat) (hk : k < 4294967296) (w : World) :
    Calls Try.prog 8 #[f.v, .int .u32 (k : Int)] w fun e w' => e = .returned (f.add k).v ∧ Below w.heap.size w w' := by
  have h1 := fun w => lit_any f hf k hk w
  have h2 : ∀ w, Calls Try.prog 20 #[(f.bit (k % 256)).v, .int .u32 ((k : Int) / 256)] w fun e w' => e = .returned ((f.bit (k % 256)).bit (k / 256 % 256)).v ∧ Below w.heap.size w w' := fun w => by
    rw [show (k : Int) / 256 = ((k / 256 : Nat) : Int) by omega]
    exact lit_any _ (ok_bit hf _) _ (by omega) w
  obtain ⟨g, hg⟩ : ∃ g, g = f.bit (k % 256) := ⟨_, rfl⟩
  have e2 : f.add k = g.bit (k / 256 % 256) := by rw [hg]; rfl
  rw [e2]
  obtain ⟨r, hr⟩ : ∃ r, r = g.bit (k / 256 % 256) := ⟨_, rfl⟩
  rw [← hg] at h1 h2
  rw [← hr] at h2 ⊢
  have hB0 : ∀ o1 o2, Below w.heap.size w ((w.alloc o1).alloc o2) := fun o1 o2 => ((Below.refl _ _).alloc (Nat.le_refl _) _).alloc (by simp) _
  clear hr e2 hg
  unfold Flt.v at *
  go_enter Try.func8, Try.ntmps8
  go_wp2_with (go_at_call 20; fail)
  refine (h1 _).mono ?_
  rintro e w2 ⟨rfl, hB2⟩
  have hz := (zero_at w (.cells #[.int .u64 (f.a : Int), .int .u64 (f.b : Int), .int .u64 (f.c : Int), .int .u64 (f.d : Int)] 27) 27).keep hB2
  have HB2 := hid_mk ((hB0 _ _).trans (hB2.mono (hB0 _ _).size))
  have HZ := hid_mk hz
  clear h1 hB0 hB2 hz
  go_wp2_with (go_at_call 20; fail)
  refine (h2 _).mono ?_
  rintro e w3 ⟨rfl, hB3⟩
  have HZ3 := hid_mk (HZ.out.keep hB3)
  have HB3 := hid_mk (HB2.out.trans (hB3.mono HB2.out.size))
  obtain ⟨⟨k0, k1, k2, k3⟩, f0, f1, f2, f3⟩ := HZ3.out.cells
  clear h2 hB3 HZ HB2
  go_wp2
  have hr := (HZ3.out.put r).cells.1
  have hB := put4_below HB3.out (Nat.le_succ _) r
  unfold put4 at hr hB
  generalize (((w3.setCell ⟨w.heap.size + 1, 0, none⟩ (.int .u64 (r.a : Int))).setCell ⟨w.heap.size + 1, 1, none⟩ (.int .u64 (r.b : Int))).setCell ⟨w.heap.size + 1, 2, none⟩ (.int .u64 (r.c : Int))).setCell ⟨w.heap.size + 1, 3, none⟩ (.int .u64 (r.d : Int)) = W at *
  obtain ⟨j0, j1, j2, j3⟩ := hr
  clear k0 k1 k2 k3 f0 f1 f2 f3
  refine bodyPost_ret (v := r.v) (by simp [results, Try.results8, go_sem, Flt.v, j0, j1, j2, j3]) rfl ⟨rfl, hB⟩

set_option maxHeartbeats 1000000 in
theorem radd_any (f : Flt) (hf : f.ok) (k : Nat) (hk : k < 4294967296) (w : World) :
    Calls Try.prog 10 #[f.v, .int .u32 (k : Int)] w fun e w' => e = .returned (f.add k).v ∧ Below w.heap.size w w' := by
  have h1 : ∀ w, Calls Try.prog 21 #[f.v, .int .u32 ((k : Int) % 256)] w fun e w' => e = .returned (f.bit (k % 256)).v ∧ Below w.heap.size w w' := fun w => by
    rw [show (k : Int) % 256 = ((k % 256 : Nat) : Int) by omega]
    exact rbit_any _ hf _ (by omega) w
  have h2 : ∀ w, Calls Try.prog 21 #[(f.bit (k % 256)).v, .int .u32 ((k : Int) / 256 % 256)] w fun e w' => e = .returned ((f.bit (k % 256)).bit (k / 256 % 256)).v ∧ Below w.heap.size w w' := fun w => by
    rw [show (k : Int) / 256 % 256 = ((k / 256 % 256 : Nat) : Int) by omega]
    exact rbit_any _ (ok_bit hf _) _ (by omega) w
  obtain ⟨g, hg⟩ : ∃ g, g = f.bit (k % 256) := ⟨_, rfl⟩
  have e2 : f.add k = g.bit (k / 256 % 256) := by rw [hg]; rfl
  rw [e2]
  obtain ⟨r, hr⟩ : ∃ r, r = g.bit (k / 256 % 256) := ⟨_, rfl⟩
  rw [← hg] at h1 h2
  rw [← hr] at h2 ⊢
  have hB0 : ∀ o1 o2, Below w.heap.size w ((w.alloc o1).alloc o2) := fun o1 o2 => ((Below.refl _ _).alloc (Nat.le_refl _) _).alloc (by simp) _
  clear hr e2 hg
  unfold Flt.v at *
  go_enter Try.func10, Try.ntmps10
  go_wp2_with (go_at_call 21; fail)
  refine (h1 _).mono ?_
  rintro e w2 ⟨rfl, hB2⟩
  have hz := (zero_at w (.cells #[.int .u64 (f.a : Int), .int .u64 (f.b : Int), .int .u64 (f.c : Int), .int .u64 (f.d : Int)] 23) 23).keep hB2
  have HB2 := hid_mk ((hB0 _ _).trans (hB2.mono (hB0 _ _).size))
  have HZ := hid_mk hz
  clear h1 hB0 hB2 hz
  go_wp2_with (go_at_call 21; fail)
  refine (h2 _).mono ?_
  rintro e w3 ⟨rfl, hB3⟩
  have HZ3 := hid_mk (HZ.out.keep hB3)
  have HB3 := hid_mk (HB2.out.trans (hB3.mono HB2.out.size))
  obtain ⟨⟨k0, k1, k2, k3⟩, f0, f1, f2, f3⟩ := HZ3.out.cells
  clear h2 hB3 HZ HB2
  go_wp2
  have hr := (HZ3.out.put r).cells.1
  have hB := put4_below HB3.out (Nat.le_succ _) r
  unfold put4 at hr hB
  generalize (((w3.setCell ⟨w.heap.size + 1, 0, none⟩ (.int .u64 (r.a : Int))).setCell ⟨w.heap.size + 1, 1, none⟩ (.int .u64 (r.b : Int))).setCell ⟨w.heap.size + 1, 2, none⟩ (.int .u64 (r.c : Int))).setCell ⟨w.heap.size + 1, 3, none⟩ (.int .u64 (r.d : Int)) = W at *
  obtain ⟨j0, j1, j2, j3⟩ := hr
  clear k0 k1 k2 k3 f0 f1 f2 f3
  refine bodyPost_ret (v := r.v) (by simp [results, Try.results10, go_sem, Flt.v, j0, j1, j2, j3]) rfl ⟨rfl, hB⟩

end Go.Proofs.Ytdiljkmlneeboaa
