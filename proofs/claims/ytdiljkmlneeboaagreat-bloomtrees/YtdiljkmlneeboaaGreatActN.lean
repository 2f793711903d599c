/- What a change does to a copy of an element. -/
import Derived.Test.YtdiljkmlneeboaaGreatSplN
import Derived.Laws.Rows
import Derived.Deep.RegionHeld3
namespace Go.Proofs.YtdiljkmlneeboaaGreat.N
open Go.RowKit
set_option maxRecDepth 100000

/-- The block holds an element. -/
def NodeAt (w : World) (g : Nat) (s : N5) : Prop := w.heap[g]? = some (.cells s.cells 76 (0, 0))
theorem NodeAt.cells {w : World} {g : Nat} {s : N5} (h : NodeAt w g s) : (w.cell? ⟨g, 0, none⟩ = some (.int .i64 s.id) ∧ w.cell? ⟨g, 1, none⟩ = some (.string s.tag) ∧ w.cell? ⟨g, 2, none⟩ = some (.int .i64 s.par) ∧ w.cell? ⟨g, 3, none⟩ = some (.slice s.ka s.kn s.kc) ∧ w.cell? ⟨g, 4, none⟩ = some (.slice s.aa s.an s.ac)) ∧ w.frozen? ⟨g, 0, none⟩ = false ∧ w.frozen? ⟨g, 1, none⟩ = false ∧ w.frozen? ⟨g, 2, none⟩ = false ∧ w.frozen? ⟨g, 3, none⟩ = false ∧ w.frozen? ⟨g, 4, none⟩ = false ∧ g < w.heap.size := by
  have hl := (Array.getElem?_eq_some_iff.1 h).1
  unfold NodeAt N5.cells at h
  refine ⟨⟨?_, ?_, ?_, ?_, ?_⟩, ?_, ?_, ?_, ?_, ?_, hl⟩ <;> simp [World.cell?, World.frozen?, h]
set_option maxHeartbeats 400000 in
theorem stands1 {w : World} {g b : Nat} {s : N5} {p : Int} (hg : NodeAt w g s) (hb : w.cell? ⟨b, 0, none⟩ = some (.int .i64 p)) :
    Calls Tryz.prog 95 #[.pointer (some ⟨g, 0, none⟩), .pointer (some ⟨b, 0, none⟩)] w fun e w' => e = .returned (.tuple #[]) ∧ NodeAt w' g { s with par := p } ∧ Below g w w' := by
  have HG := hid_mk hg
  obtain ⟨⟨k0, k1, k2, k3, k4⟩, f0, f1, f2, f3, f4, hl⟩ := hg.cells
  clear hg
  go_enter Tryz.func95, Tryz.ntmps95
  go_wp2
  exact bodyPost_end (v := .tuple #[]) (by simp [results, Tryz.results95, go_sem]) rfl ⟨rfl, heap_setCell_same w g 2 s.cells 76 _ HG.out, (Below.refl _ w).setCell (p := ⟨g, 2, none⟩) (Nat.le_refl _) _⟩
set_option maxHeartbeats 400000 in
theorem begins1 {w : World} {g b1 b2 b3 : Nat} {s : N5} {id p : Int} {tag : ByteArray} (hg : NodeAt w g s) (h1 : w.cell? ⟨b1, 0, none⟩ = some (.int .i64 id)) (h2 : w.cell? ⟨b2, 0, none⟩ = some (.string tag)) (h3 : w.cell? ⟨b3, 0, none⟩ = some (.int .i64 p)) :
    Calls Tryz.prog 85 #[.pointer (some ⟨g, 0, none⟩), .pointer (some ⟨b1, 0, none⟩), .pointer (some ⟨b2, 0, none⟩), .pointer (some ⟨b3, 0, none⟩)] w fun e w' => e = .returned (.tuple #[]) ∧ NodeAt w' g ⟨id, tag, p, none, 0, 0, none, 0, 0⟩ ∧ Below g w w' := by
  have HG := hid_mk hg
  obtain ⟨⟨k0, k1, k2, k3, k4⟩, f0, f1, f2, f3, f4, hl⟩ := hg.cells
  clear hg
  go_enter Tryz.func85, Tryz.ntmps85
  go_wp2
  have q0 := heap_setCell_same w g 0 _ 76 (.int .i64 id) HG.out
  have q1 := heap_setCell_same _ g 1 _ 76 (.string tag) q0
  have q2 := heap_setCell_same _ g 2 _ 76 (.int .i64 p) q1
  have q3 := heap_setCell_same _ g 3 _ 76 (.slice none 0 0) q2
  have q4 := heap_setCell_same _ g 4 _ 76 (.slice none 0 0) q3
  exact bodyPost_end (v := .tuple #[]) (by simp [results, Tryz.results85, go_sem]) rfl ⟨rfl, q4, (((((Below.refl _ w).setCell (p := ⟨g, 0, none⟩) (Nat.le_refl _) _).setCell (p := ⟨g, 1, none⟩) (Nat.le_refl _) _).setCell (p := ⟨g, 2, none⟩) (Nat.le_refl _) _).setCell (p := ⟨g, 3, none⟩) (Nat.le_refl _) _).setCell (p := ⟨g, 4, none⟩) (Nat.le_refl _) _⟩
theorem RowAt.one {w W : World} {k : Int} (h : W.heap[w.heap.size]? = some (.cells #[.int .i64 k] 3 (0, 0))) : RowAt W 1 (some ⟨w.heap.size, 0, none⟩) 1 1 [.int .i64 k] := by
  refine ⟨rfl, Nat.le_refl _, by decide, by intro u hu; simp at hu; subst hu; rfl, .inr ⟨_, _, rfl, (Array.getElem?_eq_some_iff.1 h).1, fun j u hu => ?_⟩⟩
  have hj := (List.getElem?_eq_some_iff.1 hu).1
  obtain rfl : j = 0 := by simp at hj; omega
  simp at hu
  subst hu
  simp [World.cell?, h]
set_option maxHeartbeats 4000000 in
theorem takes1 {w : World} {g b1 b2 : Nat} {s : N5} {kid : Int} {i : Nat} {xs : List Value} (hg : NodeAt w g s) (h1 : w.cell? ⟨b1, 0, none⟩ = some (.int .i64 i)) (h2 : w.cell? ⟨b2, 0, none⟩ = some (.int .i64 kid)) (hr : RowAt w 1 s.ka s.kn s.kc xs) (hi : i ≤ s.kn) (hn : s.kn ≤ 300000) (hb1 : b1 < g) (hb2 : b2 < g) :
    Calls Tryz.prog 87 #[.pointer (some ⟨g, 0, none⟩), .pointer (some ⟨b1, 0, none⟩), .pointer (some ⟨b2, 0, none⟩)] w fun e w' => ∃ a' c', e = .returned (.tuple #[]) ∧ NodeAt w' g { s with ka := a', kn := i + 1 + (s.kn - i), kc := c' } ∧ RowAt w' 1 a' (i + 1 + (s.kn - i)) c' (xs.take (i * 1) ++ [.int .i64 kid] ++ xs.drop (i * 1)) ∧ Below g w w' := by
  have HG := hid_mk hg
  obtain ⟨⟨k0, k1, k2, k3, k4⟩, f0, f1, f2, f3, f4, hl⟩ := hg.cells
  have HC : Hid (∀ W, Below w.heap.size w W → W.heap[w.heap.size]? = some (.cells #[.int .i64 kid] 3 (0, 0)) → Calls Tryz.prog 88 #[.slice s.ka s.kn s.kc, .int .i64 i, .int .i64 i, .slice (some ⟨w.heap.size, 0, none⟩) 1 1] W fun e w' => ∃ a' c', e = .returned (.slice a' (i + 1 + (s.kn - i)) c') ∧ w'.cell? ⟨g, 3, none⟩ = some (.slice s.ka s.kn s.kc) ∧ w'.frozen? ⟨g, 3, none⟩ = false ∧ Hid (NodeAt w' g s) ∧ Hid (RowAt w' 1 a' (i + 1 + (s.kn - i)) c' (xs.take (i * 1) ++ [.int .i64 kid] ++ xs.drop (i * 1))) ∧ Hid (NewAt w.heap.size a') ∧ Hid (Below w.heap.size w w')) := by
    intro W hW hx
    refine (splI (hr.keep hW) (RowAt.one hx) hi hi hn (by omega)).mono ?_
    rintro e w' ⟨a', c', rfl, q1, q0, q2⟩
    have hB : Below w.heap.size w w' := hW.trans (q2.mono hW.size)
    have hN : NodeAt w' g s := (hB.block _ hl).trans hg
    obtain ⟨⟨_, _, _, c3, _⟩, _, _, _, z3, _⟩ := hN.cells
    exact ⟨a', c', rfl, c3, z3, hN, q1, q0.mono hW.size, hB⟩
  have HF : Hid (∀ W, Below g w W → (W.cell? ⟨b1, 0, none⟩ = some (.int .i64 i) ∧ W.cell? ⟨b2, 0, none⟩ = some (.int .i64 kid))) := fun W hW => ⟨(hW.cell (p := ⟨b1, 0, none⟩) hb1).trans h1, (hW.cell (p := ⟨b2, 0, none⟩) hb2).trans h2⟩
  have gd : Below g w w.drew := (Below.refl _ w).drew
  have HA : Hid (∀ o, Below w.heap.size w (w.alloc o).drew) := fun o => ((Below.refl _ w).alloc (Nat.le_refl _) o).drew
  have HA2 : Hid (∀ o, Below g w (w.alloc o).drew) := fun o => (HA.out o).mono (by omega)
  have HLA : Hid (∀ o, (w.alloc o).drew.heap[w.heap.size]? = some o) := fun o => heap_alloc_last w o
  have kd : w.drew.cell? ⟨g, 3, none⟩ = some (.slice s.ka s.kn s.kc) := k3
  have ka3 : (w.alloc (.cells #[.int .i64 kid] 3)).drew.cell? ⟨g, 3, none⟩ = some (.slice s.ka s.kn s.kc) := ((HA.out (.cells #[.int .i64 kid] 3)).cell (p := ⟨g, 3, none⟩) hl).trans k3
  clear hg hr k0 k1 k2 k4 f0 f1 f2 f4
  obtain ⟨id0, tag0, par0, ka, kn, kc, aa, an, ac⟩ := s
  dsimp only at *
  go_enter Tryz.func87, Tryz.ntmps87
  go_wp2_with (fail)
  have g1 : (w.alloc (.cells #[.int .i64 kid] 3)).drew.cell? ⟨b1, 0, none⟩ = some (.int .i64 i) := (HF.out _ (HA2.out _)).1
  have g2 : (w.alloc (.cells #[.int .i64 kid] 3)).drew.cell? ⟨b2, 0, none⟩ = some (.int .i64 kid) := (HF.out _ (HA2.out _)).2
  have g3 : w.drew.cell? ⟨b1, 0, none⟩ = some (.int .i64 i) := h1
  have g4 : w.drew.cell? ⟨b2, 0, none⟩ = some (.int .i64 kid) := h2
  go_region_with (go_at_call 88; refine (HC.out _ (HA.out _) (HLA.out _)).mono ?_; rintro e w2 ⟨a', c', rfl, q3, z3, HN, HQ1, HQ0, HQ2⟩; have HQ3 : Hid (Below g w w2) := HQ2.out.mono (by omega))
  all_goals
    go_wp2
    exact bodyPost_end (v := .tuple #[]) (by simp [results, Tryz.results87, go_sem]) rfl ⟨a', c', rfl, heap_setCell_same w2 g 3 _ 76 _ HN.out, HQ1.out.set HQ0.out hl _, HQ3.out.setCell (p := ⟨g, 3, none⟩) (Nat.le_refl _) _⟩

end Go.Proofs.YtdiljkmlneeboaaGreat.N
