/- dom.gives$1. -/
import Derived.Test.YtdiljkmlneeboaaGreatActN
import Derived.Test.YtdiljkmlneeboaaGreatIdxN
namespace Go.Proofs.YtdiljkmlneeboaaGreat.N
open Go.RowKit
set_option maxRecDepth 100000

set_option maxHeartbeats 400000 in
theorem gives1 {w : World} {g b1 : Nat} {s : N5} {kid : Int} {k : Nat} {zs : List Int} (hg : NodeAt w g s) (h1 : w.cell? ⟨b1, 0, none⟩ = some (.int .i64 kid)) (hr : RowAt w 1 s.ka s.kn s.kc (intsV zs)) (hk : Lib.idxOf zs kid = (k : Int)) (hi : k < s.kn) (hn : s.kn ≤ 300000) :
    Calls Tryz.prog 89 #[.pointer (some ⟨g, 0, none⟩), .pointer (some ⟨b1, 0, none⟩)] w fun e w' => ∃ a' c', e = .returned (.tuple #[]) ∧ NodeAt w' g { s with ka := a', kn := k + 0 + (s.kn - (k + 1)), kc := c' } ∧ RowAt w' 1 a' (k + 0 + (s.kn - (k + 1))) c' ((intsV zs).take (k * 1) ++ [] ++ (intsV zs).drop ((k + 1) * 1)) ∧ Below g w w' := by
  obtain ⟨⟨k0, k1, k2, k3, k4⟩, f0, f1, f2, f3, f4, hl⟩ := hg.cells
  have HC : Hid (∀ W, Below w.heap.size w W → Calls Tryz.prog 88 #[.slice s.ka s.kn s.kc, .int .i64 k, .int .i64 ((k : Int) + 1), .slice none 0 0] W fun e w' => ∃ a' c', e = .returned (.slice a' (k + 0 + (s.kn - (k + 1))) c') ∧ w'.cell? ⟨g, 3, none⟩ = some (.slice s.ka s.kn s.kc) ∧ w'.frozen? ⟨g, 3, none⟩ = false ∧ Hid (NodeAt w' g s) ∧ Hid (RowAt w' 1 a' (k + 0 + (s.kn - (k + 1))) c' ((intsV zs).take (k * 1) ++ [] ++ (intsV zs).drop ((k + 1) * 1))) ∧ Hid (NewAt w.heap.size a') ∧ Hid (Below w.heap.size w w')) := by
    intro W hW
    rw [show ((k : Int) + 1) = ((k + 1 : Nat) : Int) by omega]
    refine (splI (hr.keep hW) (RowAt.nil W 1) (f := k) (t := k + 1) (by omega) (by omega) hn (by omega)).mono ?_
    rintro e w' ⟨a', c', rfl, q1, q0, q2⟩
    have hB : Below w.heap.size w w' := hW.trans (q2.mono hW.size)
    have hN : NodeAt w' g s := (hB.block _ hl).trans hg
    obtain ⟨⟨_, _, _, c3, _⟩, _, _, _, z3, _⟩ := hN.cells
    exact ⟨a', c', rfl, c3, z3, hN, q1, q0.mono hW.size, hB⟩
  have HI : Hid (∀ W, Below w.heap.size w W → Calls Tryz.prog 90 #[.slice s.ka s.kn s.kc, .int .i64 kid] W fun e w' => e = .returned (.int .i64 k) ∧ w' = W) := by
    intro W hW
    rw [← hk]
    exact idxI (hr.keep hW) hn kid
  have gd : Below w.heap.size w w.drew := (Below.refl _ w).drew
  have kd : w.drew.cell? ⟨g, 3, none⟩ = some (.slice s.ka s.kn s.kc) := k3
  have hw1 : IntKind.i64.wrap ((k : Int) + 1) = (k : Int) + 1 := by rw [IntKind.wrap_i64]; omega
  have HH := hid_mk hg
  clear hg hr k0 k1 k2 k4 f0 f1 f2 f4 hk
  obtain ⟨id0, tag0, par0, ka, kn, kc, aa, an, ac⟩ := s
  dsimp only at *
  go_enter Tryz.func89, Tryz.ntmps89
  go_wp2_with (fail)
  go_region_with (go_at_call 90; refine (HI.out _ gd).mono ?_; rintro e w2 ⟨rfl, rfl⟩)
  all_goals
    go_wp2_with (go_at_call 88; fail)
    with_reducible refine (HC.out _ gd).mono ?_
    rintro e w2 ⟨a', c', rfl, q3, z3, HN, HQ1, HQ0, HQ2⟩
    have HQ3 : Hid (Below g w w2) := HQ2.out.mono (by omega)
    go_wp2
    exact bodyPost_end (v := .tuple #[]) (by simp [results, Tryz.results89, go_sem]) rfl ⟨a', c', rfl, heap_setCell_same w2 g 3 _ 76 _ HN.out, HQ1.out.set HQ0.out hl _, HQ3.out.setCell (p := ⟨g, 3, none⟩) (Nat.le_refl _) _⟩

end Go.Proofs.YtdiljkmlneeboaaGreat.N
