/- Rows of cells that a slice speaks of; slices.Clone, slices.Grow. -/
import Derived.Test.YtdiljkmlneeboaaGreatDocN
import Derived.Shelf.SlicesE.Clone
import Derived.Shelf.Spec.SlicesGrow
import Derived.Ground.SlgnProg
import Derived.Ground.Names8Prog
namespace Go.Proofs
open Go.Shelf
shelf_lay_g SlLaysE0.n41 Slgn 41 at Tryz 80 as Tryz.cloneI
shelf_lay_g SlLaysE0.n41 Slgn 41 at Tryz 81 as Tryz.cloneA
shelf_lay_g Lays8.n4 Nm8 4 at Tryz 143 as Tryz.growI
shelf_lay_g Lays8.n4 Nm8 4 at Tryz 145 as Tryz.growA
theorem Tryz.info3 : (Tryz.prog.info? 3).map (fun i => (i.zero, i.size, i.bytes)) = some (some (.int .i64 0), 1, 8) := by kernel_rfl
theorem Tryz.info128 : (Tryz.prog.info? 128).map (fun i => (i.zero, i.size, i.bytes)) = some (some (.agg #[.string ⟨#[]⟩, .string ⟨#[]⟩]), 2, 32) := by kernel_rfl
end Go.Proofs
namespace Go.Proofs.YtdiljkmlneeboaaGreat.N
open Go.RowKit
set_option maxRecDepth 100000

/-- The slice speaks of these cells, sz for each item. -/
def RowAt (w : World) (sz : Nat) (a : Option Addr) (n c : Nat) (xs : List Value) : Prop :=
  xs.length = n * sz ∧ n ≤ c ∧ c ≤ maxLen ∧ (∀ u ∈ xs, u.oneCell' = true) ∧ ((a = none ∧ c = 0) ∨ ∃ b off, a = some ⟨b, off, none⟩ ∧ b < w.heap.size ∧ ∀ j u, xs[j]? = some u → w.cell? ⟨b, off + j, none⟩ = some u)
theorem RowAt.keep {w w' : World} {sz n c : Nat} {a : Option Addr} {xs : List Value} (h : RowAt w sz a n c xs) (hb : Below w.heap.size w w') : RowAt w' sz a n c xs := by
  obtain ⟨h1, h2, h3, h4, h5⟩ := h
  refine ⟨h1, h2, h3, h4, ?_⟩
  rcases h5 with h | ⟨b, off, e, hl, hc⟩
  · exact .inl h
  · exact .inr ⟨b, off, e, Nat.lt_of_lt_of_le hl hb.size, fun j u hu => (hb.cell (p := ⟨b, off + j, none⟩) hl).trans (hc j u hu)⟩
/-- It lies in blocks from B on. -/
def NewAt (B : Nat) (a : Option Addr) : Prop := ∀ x, a = some x → B ≤ x.block
theorem RowAt.of_owns {w : World} {B sz n : Nat} {e : TypeId} {v : Value} {xs : List Value} (h : w.ownsRow B e sz v n xs) (h1 : ∀ u ∈ xs, u.oneCell' = true) : ∃ a c, v = .slice a n c ∧ RowAt w sz a n c xs ∧ NewAt B a := by
  obtain ⟨hl, hc⟩ := h
  rcases hc with ⟨rfl, h0⟩ | ⟨g, cap, cur, rfl, hBg, hg, hnc, hcm, hszz, hcur⟩
  · subst h0
    exact ⟨none, 0, rfl, ⟨hl, Nat.le_refl _, Nat.zero_le _, h1, .inl ⟨rfl, rfl⟩⟩, fun x e => by cases e⟩
  · refine ⟨_, cap, rfl, ⟨hl, hnc, hcm, h1, .inr ⟨g, 0, rfl, (Array.getElem?_eq_some_iff.1 hg).1, fun j y hy => ?_⟩⟩, fun x e => by cases e; exact hBg⟩
    have hlt := (List.getElem?_eq_some_iff.1 hy).1
    rw [Nat.zero_add]
    rw [← hcur, List.getElem?_take_of_lt (by rw [← hl]; exact hlt)] at hy
    simp only [World.cell?, hg]
    simpa using hy
theorem NewAt.mono {B B' : Nat} {a : Option Addr} (h : NewAt B a) (hb : B' ≤ B) : NewAt B' a := fun x e => Nat.le_trans hb (h x e)
/-- A store into an older block leaves it. -/
theorem RowAt.set {w : World} {sz n c B g o : Nat} {a : Option Addr} {xs : List Value} (h : RowAt w sz a n c xs) (hn : NewAt B a) (hg : g < B) (v : Value) : RowAt (w.setCell ⟨g, o, none⟩ v) sz a n c xs := by
  obtain ⟨h1, h2, h3, h4, h5⟩ := h
  refine ⟨h1, h2, h3, h4, ?_⟩
  rcases h5 with h | ⟨b, off, rfl, hl, hc⟩
  · exact .inl h
  · have hb := hn _ rfl
    dsimp only at hb
    exact .inr ⟨b, off, rfl, by simpa using hl, fun j u hu => (World.cell?_of_block (Below.heap_setCell w ⟨g, o, none⟩ v b (by dsimp only; omega))).trans (hc j u hu)⟩
theorem RowAt.nil (w : World) (sz : Nat) : RowAt w sz none 0 0 [] := ⟨by simp, Nat.le_refl _, Nat.zero_le _, (fun _ hu => (List.not_mem_nil hu).elim), .inl ⟨rfl, rfl⟩⟩
/-- The first k items. -/
theorem RowAt.take {w : World} {sz n c : Nat} {a : Option Addr} {xs : List Value} (h : RowAt w sz a n c xs) (k : Nat) (hk : k ≤ n) : RowAt w sz a k c (xs.take (k * sz)) := by
  obtain ⟨h1, h2, h3, h4, h5⟩ := h
  have hm : k * sz ≤ n * sz := Nat.mul_le_mul_right _ hk
  refine ⟨by rw [List.length_take]; omega, by omega, h3, fun u hu => h4 u (List.mem_of_mem_take hu), ?_⟩
  rcases h5 with h | ⟨b, off, e, hl, hc⟩
  · exact .inl h
  · refine .inr ⟨b, off, e, hl, fun j u hu => hc j u ?_⟩
    have hlt := (List.getElem?_eq_some_iff.1 hu).1
    rw [List.length_take] at hlt
    rwa [List.getElem?_take_of_lt (by omega)] at hu
/-- All but the first k. -/
theorem RowAt.drop {w : World} {sz n c b off : Nat} {xs : List Value} (h : RowAt w sz (some ⟨b, off, none⟩) n c xs) (k : Nat) (hk : k ≤ n) : RowAt w sz (some ⟨b, off + k * sz, none⟩) (n - k) (c - k) (xs.drop (k * sz)) := by
  obtain ⟨h1, h2, h3, h4, h5⟩ := h
  refine ⟨by rw [List.length_drop, h1, Nat.sub_mul], by omega, by omega, fun u hu => h4 u (List.mem_of_mem_drop hu), ?_⟩
  rcases h5 with ⟨h, _⟩ | ⟨b', off', e, hl, hc⟩
  · cases h
  · cases e
    refine .inr ⟨b, _, rfl, hl, fun j u hu => ?_⟩
    rw [List.getElem?_drop] at hu
    rw [Nat.add_assoc]
    exact hc _ u hu
theorem clone_of {k sz : Nat} {e : TypeId} {w : World} {a : Option Addr} {n c : Nat} {xs : List Value} (h : RowAt w sz a n c xs)
    (hn : Calls Tryz.prog k #[.slice none n c] w fun e w' => e = .returned (.slice none 0 0) ∧ w' = w)
    (hs : ∀ b off, (∀ j u, xs[j]? = some u → w.cell? ⟨b, off + j, none⟩ = some u) → Calls Tryz.prog k #[.slice (some ⟨b, off, none⟩) n c] w fun x w' => ∃ v', x = .returned v' ∧ w'.ownsRow w.heap.size e sz v' n xs ∧ v' ≠ .slice none 0 0 ∧ Below w.heap.size w w') :
    Calls Tryz.prog k #[.slice a n c] w fun e w' => ∃ a' c', e = .returned (.slice a' n c') ∧ RowAt w' sz a' n c' xs ∧ NewAt w.heap.size a' ∧ Below w.heap.size w w' := by
  obtain ⟨h1, h2, h3, h4, h5⟩ := h
  rcases h5 with ⟨rfl, rfl⟩ | ⟨b, off, rfl, hl, hc⟩
  · obtain rfl : n = 0 := by omega
    refine hn.mono ?_
    rintro e w' ⟨rfl, rfl⟩
    exact ⟨_, _, rfl, ⟨h1, Nat.le_refl _, Nat.zero_le _, h4, .inl ⟨rfl, rfl⟩⟩, (fun x e => by cases e), Below.refl _ _⟩
  · refine (hs b off hc).mono ?_
    rintro e w' ⟨v', rfl, ho, _, hb⟩
    obtain ⟨a', c', rfl, hr, hnw⟩ := RowAt.of_owns ho h4
    exact ⟨a', c', rfl, hr, hnw, hb⟩
theorem cloneI {w : World} {a : Option Addr} {n c : Nat} {xs : List Value} (h : RowAt w 1 a n c xs) (hn : n ≤ 1000000) :
    Calls Tryz.prog 80 #[.slice a n c] w fun e w' => ∃ a' c', e = .returned (.slice a' n c') ∧ RowAt w' 1 a' n c' xs ∧ NewAt w.heap.size a' ∧ Below w.heap.size w w' := by
  obtain ⟨i, hi, hz0, hz1, hz2⟩ := info_parts Tryz.info3
  exact clone_of h (AnyE.slices_Clone_nil Tryz.cloneI n c w) fun b off hc => AnyE.slices_Clone Tryz.cloneI i _ 1 8 hi hz0 hz1 hz2 rfl (by decide) Tryz.sizeOf3 b off n c xs w h.1 (by unfold maxLen; omega) (by omega) hc h.2.2.2.1
theorem cloneA {w : World} {a : Option Addr} {n c : Nat} {xs : List Value} (h : RowAt w 2 a n c xs) (hn : n ≤ 1000000) :
    Calls Tryz.prog 81 #[.slice a n c] w fun e w' => ∃ a' c', e = .returned (.slice a' n c') ∧ RowAt w' 2 a' n c' xs ∧ NewAt w.heap.size a' ∧ Below w.heap.size w w' := by
  obtain ⟨i, hi, hz0, hz1, hz2⟩ := info_parts Tryz.info128
  exact clone_of h (AnyE.slices_Clone_nil Tryz.cloneA n c w) fun b off hc => AnyE.slices_Clone Tryz.cloneA i _ 2 32 hi hz0 hz1 hz2 rfl (by decide) Tryz.sizeOf128 b off n c xs w h.1 (by unfold maxLen; omega) (by omega) hc h.2.2.2.1
/-- slices.Grow of nil: a row of one's own with room. -/
theorem zeroCells_size (z : Array Value) (n : Nat) : (Builtin.zeroCells z n).size = n * z.size := by simp [Builtin.zeroCells]
theorem grow_of {k sz : Nat} {e : TypeId} {w : World} {n : Nat} {z : Value} (hzs : z.cells.size = sz) (hn : n ≤ 1000000)
    (h0 : n = 0 → Calls Tryz.prog k #[.slice none 0 0, .int .i64 n] w fun x w' => x = .returned (.slice none 0 0) ∧ w' = w)
    (h1 : 0 < n → Calls Tryz.prog k #[.slice none 0 0, .int .i64 n] w fun x w' => x = .returned (.slice (some ⟨w.heap.size, 0, none⟩) 0 (grownCap w (0 + n) 0 e)) ∧ w' = w.drew.alloc (.cells (([] : List Value).toArray ++ Builtin.zeroCells z.cells (0 + n - 0) ++ Builtin.zeroCells z.cells (grownCap w (0 + n) 0 e - (0 + n))) e)) :
    Calls Tryz.prog k #[.slice none 0 0, .int .i64 n] w fun x w' => ∃ v', x = .returned v' ∧ w'.ownsRow w.heap.size e sz v' 0 [] ∧ Below w.heap.size w w' := by
  by_cases hn0 : n = 0
  · refine (h0 hn0).mono ?_
    rintro x w' ⟨rfl, rfl⟩
    exact ⟨_, rfl, ⟨by simp, .inl ⟨rfl, rfl⟩⟩, Below.refl _ _⟩
  · refine (h1 (by omega)).mono ?_
    rintro x w' ⟨rfl, rfl⟩
    have hd : w.drew.heap.size = w.heap.size := rfl
    have hge := grownCap_ge w (0 + n) 0 e
    have hlast := heap_alloc_last w.drew (.cells (([] : List Value).toArray ++ Builtin.zeroCells z.cells (0 + n - 0) ++ Builtin.zeroCells z.cells (grownCap w (0 + n) 0 e - (0 + n))) e)
    rw [hd] at hlast
    refine ⟨_, rfl, ⟨by simp, .inr ⟨w.heap.size, _, _, rfl, Nat.le_refl _, hlast, Nat.zero_le _, grownCap_le_maxLen w (0 + n) 0 e (by unfold maxLen; omega), ?_, by simp⟩⟩, ?_⟩
    · rw [Array.size_append, Array.size_append, zeroCells_size, zeroCells_size, hzs]
      generalize grownCap w (0 + n) 0 e = gc at *
      obtain ⟨d, rfl⟩ : ∃ d, gc = n + d := ⟨gc - n, by omega⟩
      rw [show n + d - (0 + n) = d by omega, show 0 + n - 0 = n by omega, Nat.add_mul]
      simp
    · exact ((Below.refl _ w).drew).alloc (Nat.le_refl _) _
theorem growI {w : World} {n : Nat} (hn : n ≤ 1000000) : Calls Tryz.prog 143 #[.slice none 0 0, .int .i64 n] w fun x w' => ∃ v', x = .returned v' ∧ w'.ownsRow w.heap.size 3 1 v' 0 [] ∧ Below w.heap.size w w' := by
  obtain ⟨i, hi, hz0, hz1, hz2⟩ := info_parts Tryz.info3
  refine grow_of (z := .int .i64 0) rfl hn (fun h => ?_) (fun h => ?_)
  · subst h
    exact Any8.slices_Grow_room Tryz.growI none 0 0 0 w (Nat.le_refl _) (by decide) (by decide) (by decide)
  · exact Any8.slices_Grow_grow Tryz.growI i _ hi hz0 (by omega) none 0 0 n [] w (Nat.le_refl _) (by omega) (by rw [hz2]; omega) (by omega) (by simp) (fun _ => rfl) (fun _ e => by cases e)
theorem growA {w : World} {n : Nat} (hn : n ≤ 1000000) : Calls Tryz.prog 145 #[.slice none 0 0, .int .i64 n] w fun x w' => ∃ v', x = .returned v' ∧ w'.ownsRow w.heap.size 128 2 v' 0 [] ∧ Below w.heap.size w w' := by
  obtain ⟨i, hi, hz0, hz1, hz2⟩ := info_parts Tryz.info128
  refine grow_of (z := .agg #[.string ⟨#[]⟩, .string ⟨#[]⟩]) rfl hn (fun h => ?_) (fun h => ?_)
  · subst h
    exact Any8.slices_Grow_room Tryz.growA none 0 0 0 w (Nat.le_refl _) (by decide) (by decide) (by decide)
  · exact Any8.slices_Grow_grow Tryz.growA i _ hi hz0 (by omega) none 0 0 n [] w (Nat.le_refl _) (by omega) (by rw [hz2]; omega) (by omega) (by simp) (fun _ => rfl) (fun _ e => by cases e)

end Go.Proofs.YtdiljkmlneeboaaGreat.N
