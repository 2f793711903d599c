/- The changes of attributes. -/
import Derived.Test.YtdiljkmlneeboaaGreatPlcN
import Derived.Deep.DeepCutAuto
import Derived.Deep.RegionHeld3
namespace Go.Proofs.YtdiljkmlneeboaaGreat.N
open Go.RowKit
set_option maxRecDepth 100000

theorem attrsV_take (us : Us) (k : Nat) : (attrsV us).take (k * 2) = attrsV (us.take k) := by
  induction us generalizing k with
  | nil => simp [attrsV]
  | cons p r ih =>
    cases k with
    | zero => simp [attrsV]
    | succ k =>
      have e : attrsV (p :: r) = .string p.1 :: .string p.2 :: attrsV r := by simp [attrsV]
      rw [e, show (k + 1) * 2 = k * 2 + 1 + 1 by omega, List.take_succ_cons, List.take_succ_cons, ih k, List.take_succ_cons]
      simp [attrsV]
theorem attrsV_drop (us : Us) (k : Nat) : (attrsV us).drop (k * 2) = attrsV (us.drop k) := by
  induction us generalizing k with
  | nil => simp [attrsV]
  | cons p r ih =>
    cases k with
    | zero => simp [attrsV]
    | succ k =>
      have e : attrsV (p :: r) = .string p.1 :: .string p.2 :: attrsV r := by simp [attrsV]
      rw [e, show (k + 1) * 2 = k * 2 + 1 + 1 by omega, List.drop_succ_cons, List.drop_succ_cons, ih k, List.drop_succ_cons]
theorem attrsV_app (a b : Us) : attrsV (a ++ b) = attrsV a ++ attrsV b := by simp [attrsV]
/-- How many of that name there are. -/
def cntA (us : Us) (nm : ByteArray) : Nat := if (valA us nm).isSome then 1 else 0
theorem mid_len (us : Us) (nm : ByteArray) : (midA us nm).length = cntA us nm := by
  unfold midA cntA
  cases valA us nm <;> rfl
theorem three_parts {us A B C : Us} (h : us = A ++ B ++ C) : us.take A.length = A ∧ us.drop (A.length + B.length) = C := by
  subst h
  constructor
  · rw [List.append_assoc]
    exact List.take_left
  · rw [← List.length_append]
    exact List.drop_left
theorem srt_take {us : Us} (nm : ByteArray) (h : Srt us) : us.take (loA us nm).length = loA us nm ∧ us.drop ((loA us nm).length + cntA us nm) = hiA us nm ∧ (loA us nm).length + cntA us nm ≤ us.length := by
  have hs := srt_split nm h
  have hl := (set_len nm nm h).2
  rw [mid_len] at hl
  obtain ⟨h1, h2⟩ := three_parts hs
  rw [mid_len] at h2
  exact ⟨h1, h2, by omega⟩
theorem RowAt.oneA {w W : World} {x y : ByteArray} (h : W.heap[w.heap.size]? = some (.cells #[.string x, .string y] 128 (0, 0))) : RowAt W 2 (some ⟨w.heap.size, 0, none⟩) 1 1 [.string x, .string y] := by
  refine ⟨rfl, Nat.le_refl _, by decide, by intro u hu; simp at hu; rcases hu with rfl | rfl <;> rfl, .inr ⟨_, _, rfl, (Array.getElem?_eq_some_iff.1 h).1, fun j u hu => ?_⟩⟩
  have hj := (List.getElem?_eq_some_iff.1 hu).1
  have : j = 0 ∨ j = 1 := by simp at hj; omega
  rcases this with rfl | rfl
  · simp at hu; subst hu; simp [World.cell?, h]
  · simp at hu; subst hu; simp [World.cell?, h]
set_option maxHeartbeats 2000000 in
theorem sheds1 {w : World} {g b1 : Nat} {s : N5} {nm : ByteArray} {us : Us} (hg : NodeAt w g s) (h1 : w.cell? ⟨b1, 0, none⟩ = some (.string nm)) (hr : RowAt w 2 s.aa s.an s.ac (attrsV us)) (hs : Srt us) (hn : us.length ≤ 1000) (hv : (valA us nm).isSome = true) :
    Calls Tryz.prog 101 #[.pointer (some ⟨g, 0, none⟩), .pointer (some ⟨b1, 0, none⟩)] w fun e w' => ∃ a' c', e = .returned (.tuple #[]) ∧ NodeAt w' g { s with aa := a', an := (dropU us nm).length, ac := c' } ∧ RowAt w' 2 a' (dropU us nm).length c' (attrsV (dropU us nm)) ∧ Below g w w' := by
  have HG := hid_mk hg
  obtain ⟨⟨k0, k1, k2, k3, k4⟩, f0, f1, f2, f3, f4, hl⟩ := hg.cells
  have han : s.an = us.length := by have := hr.1; rw [attrsV_len] at this; omega
  obtain ⟨t1, t2, t3⟩ := srt_take nm hs
  have hc1 : cntA us nm = 1 := by simp [cntA, hv]
  rw [hc1] at t2 t3
  have hP : Hid (∀ W, Below w.heap.size w W → Calls Tryz.prog 60 #[.slice s.aa s.an s.ac, .string nm] W fun e w' => e = .returned (.tuple #[.int .i64 (loA us nm).length, .bool true]) ∧ Below W.heap.size W w') := fun W hW => by
    have := place_any (hr.keep hW) hs hn nm
    rwa [hv] at this
  have hdl : (dropU us nm).length = (loA us nm).length + 0 + (s.an - ((loA us nm).length + 1)) := by
    have := (set_len nm nm hs).2
    rw [mid_len, hc1] at this
    unfold dropU
    rw [List.length_append]
    omega
  have HC : Hid (∀ W, Below w.heap.size w W → Calls Tryz.prog 100 #[.slice s.aa s.an s.ac, .int .i64 (loA us nm).length, .int .i64 (((loA us nm).length : Int) + 1), .slice none 0 0] W fun e w' => ∃ a' c', e = .returned (.slice a' (dropU us nm).length c') ∧ w'.cell? ⟨g, 4, none⟩ = some (.slice s.aa s.an s.ac) ∧ w'.frozen? ⟨g, 4, none⟩ = false ∧ Hid (NodeAt w' g s) ∧ Hid (RowAt w' 2 a' (dropU us nm).length c' (attrsV (dropU us nm))) ∧ Hid (NewAt w.heap.size a') ∧ Hid (Below w.heap.size w w')) := by
    intro W hW
    rw [show (((loA us nm).length : Int) + 1) = (((loA us nm).length + 1 : Nat) : Int) by omega]
    refine (splA (hr.keep hW) (RowAt.nil W 2) (f := (loA us nm).length) (t := (loA us nm).length + 1) (by omega) (by omega) (by omega) (by omega)).mono ?_
    rintro e w' ⟨a', c', rfl, q1, q0, q2⟩
    have hB : Below w.heap.size w w' := hW.trans (q2.mono hW.size)
    have hN : NodeAt w' g s := (hB.block _ hl).trans hg
    obtain ⟨⟨_, _, _, _, c4⟩, _, _, _, _, z4, _⟩ := hN.cells
    rw [attrsV_take, attrsV_drop, t1, t2, List.append_nil, ← attrsV_app, ← hdl] at q1
    rw [← hdl]
    exact ⟨a', c', rfl, c4, z4, hid_mk hN, hid_mk q1, q0.mono hW.size, hB⟩
  have gd : Below w.heap.size w w.drew := (Below.refl _ w).drew
  have kd : w.drew.cell? ⟨g, 4, none⟩ = some (.slice s.aa s.an s.ac) := k4
  have hdn : w.drew.cell? ⟨b1, 0, none⟩ = some (.string nm) := h1
  have hw1 : IntKind.i64.wrap (((loA us nm).length : Int) + 1) = ((loA us nm).length : Int) + 1 := by rw [IntKind.wrap_i64]; omega
  have HF : Hid (∀ W, Below w.heap.size w W → W.cell? ⟨g, 4, none⟩ = some (.slice s.aa s.an s.ac)) := fun W hW => (hW.cell (p := ⟨g, 4, none⟩) hl).trans k4
  have hLL : (loA us nm).length ≤ 1000 := by omega
  generalize (loA us nm).length = L at *
  generalize (dropU us nm).length = D at *
  clear hg hr k0 k1 k2 k3 f0 f1 f2 f3 hs hn hv t1 t2 t3 hc1 hdl han
  obtain ⟨id0, tag0, par0, ka, kn, kc, aa, an, ac⟩ := s
  dsimp only at *
  go_enter Tryz.func101, Tryz.ntmps101
  go_wp2_with (fail)
  go_region_with (go_at_call 60; with_reducible refine (hP.out _ gd).mono ?_; rintro e w2 ⟨rfl, HQ⟩)
  all_goals
    have gB2 : Below w.heap.size w w2 := gd.trans (HQ.mono gd.size)
    have m4 := HF.out w2 gB2
    go_wp2_with (go_at_call 100; fail)
    with_reducible refine (HC.out _ gB2).mono ?_
    rintro e w3 ⟨a', c', rfl, q4, z4, HN, HQ1, HQ0, HQ2⟩
    have HQ3 : Hid (Below g w w3) := HQ2.out.mono (by omega)
    go_wp2
    exact bodyPost_end (v := .tuple #[]) (by simp [results, Tryz.results101, go_sem]) rfl ⟨a', c', rfl, heap_setCell_same w3 g 4 _ 76 _ HN.out, HQ1.out.set HQ0.out hl _, HQ3.out.setCell (p := ⟨g, 4, none⟩) (Nat.le_refl _) _⟩

set_option maxHeartbeats 4000000 in
theorem wears1 {w : World} {g b1 b2 : Nat} {s : N5} {nm v : ByteArray} {us : Us} (hg : NodeAt w g s) (h1 : w.cell? ⟨b1, 0, none⟩ = some (.string nm)) (h2 : w.cell? ⟨b2, 0, none⟩ = some (.string v)) (hr : RowAt w 2 s.aa s.an s.ac (attrsV us)) (hs : Srt us) (hn : us.length ≤ 1000) (hl1 : b1 < w.heap.size) (hl2 : b2 < w.heap.size) :
    Calls Tryz.prog 99 #[.pointer (some ⟨g, 0, none⟩), .pointer (some ⟨b1, 0, none⟩), .pointer (some ⟨b2, 0, none⟩)] w fun e w' => ∃ a' c', e = .returned (.tuple #[]) ∧ NodeAt w' g { s with aa := a', an := (setU us nm v).length, ac := c' } ∧ RowAt w' 2 a' (setU us nm v).length c' (attrsV (setU us nm v)) ∧ Below g w w' := by
  have HG := hid_mk hg
  obtain ⟨⟨k0, k1, k2, k3, k4⟩, f0, f1, f2, f3, f4, hl⟩ := hg.cells
  have han : s.an = us.length := by have := hr.1; rw [attrsV_len] at this; omega
  obtain ⟨t1, t2, t3⟩ := srt_take nm hs
  have hP : Hid (∀ W, Below w.heap.size w W → Calls Tryz.prog 60 #[.slice s.aa s.an s.ac, .string nm] W fun e w' => e = .returned (.tuple #[.int .i64 (loA us nm).length, .bool (valA us nm).isSome]) ∧ Below W.heap.size W w') := fun W hW => place_any (hr.keep hW) hs hn nm
  have hsl : (setU us nm v).length = (loA us nm).length + 1 + (s.an - ((loA us nm).length + cntA us nm)) := by
    obtain ⟨q1, q2⟩ := set_len nm v hs
    rw [mid_len] at q2
    rw [q1]
    omega
  have HC : Hid (∀ W W2, Below w.heap.size w W → Below W.heap.size W W2 → W2.heap[W.heap.size]? = some (.cells #[.string nm, .string v] 128 (0, 0)) → Calls Tryz.prog 100 #[.slice s.aa s.an s.ac, .int .i64 (loA us nm).length, .int .i64 ((loA us nm).length + cntA us nm : Nat), .slice (some ⟨W.heap.size, 0, none⟩) 1 1] W2 fun e w' => ∃ a' c', e = .returned (.slice a' (setU us nm v).length c') ∧ w'.cell? ⟨g, 4, none⟩ = some (.slice s.aa s.an s.ac) ∧ w'.frozen? ⟨g, 4, none⟩ = false ∧ Hid (NodeAt w' g s) ∧ Hid (RowAt w' 2 a' (setU us nm v).length c' (attrsV (setU us nm v))) ∧ Hid (NewAt w.heap.size a') ∧ Hid (Below w.heap.size w w')) := by
    intro W W2 hW hW2 hx
    have hW3 := hW.trans (hW2.mono hW.size)
    refine (splA (hr.keep hW3) (RowAt.oneA hx) (f := (loA us nm).length) (t := (loA us nm).length + cntA us nm) (by omega) (by omega) (by omega) (by omega)).mono ?_
    rintro e w' ⟨a', c', rfl, q1, q0, q2⟩
    have hB : Below w.heap.size w w' := hW3.trans (q2.mono hW3.size)
    have hN : NodeAt w' g s := (hB.block _ hl).trans hg
    obtain ⟨⟨_, _, _, _, c4⟩, _, _, _, _, z4, _⟩ := hN.cells
    rw [attrsV_take, attrsV_drop, t1, t2, show [Value.string nm, Value.string v] = attrsV [(nm, v)] from rfl, ← attrsV_app, ← attrsV_app, ← hsl] at q1
    rw [← hsl]
    exact ⟨a', c', rfl, c4, z4, hid_mk hN, hid_mk q1, q0.mono hW3.size, hB⟩
  have gd : Below w.heap.size w w.drew := (Below.refl _ w).drew
  have kd : w.drew.cell? ⟨g, 4, none⟩ = some (.slice s.aa s.an s.ac) := k4
  have hdn : w.drew.cell? ⟨b1, 0, none⟩ = some (.string nm) := h1
  have HF : Hid (∀ W, Below w.heap.size w W → W.cell? ⟨g, 4, none⟩ = some (.slice s.aa s.an s.ac) ∧ W.cell? ⟨b1, 0, none⟩ = some (.string nm) ∧ W.cell? ⟨b2, 0, none⟩ = some (.string v)) := fun W hW => ⟨(hW.cell (p := ⟨g, 4, none⟩) hl).trans k4, (hW.cell (p := ⟨b1, 0, none⟩) hl1).trans h1, (hW.cell (p := ⟨b2, 0, none⟩) hl2).trans h2⟩
  have hLL : (loA us nm).length ≤ 1000 := by omega
  have hcn : ((valA us nm).isSome = true → cntA us nm = 1) ∧ ((valA us nm).isSome = false → cntA us nm = 0) := by
    unfold cntA
    constructor
    · intro h; rw [if_pos h]
    · intro h; rw [if_neg (by rw [h]; simp)]
  generalize (loA us nm).length = L at *
  generalize (setU us nm v).length = D at *
  generalize (valA us nm).isSome = hv at *
  generalize cntA us nm = cn at *
  clear hg hr k0 k1 k2 k3 f0 f1 f2 f3 hs hn t1 t2 t3 hsl han
  obtain ⟨id0, tag0, par0, ka, kn, kc, aa, an, ac⟩ := s
  dsimp only at *
  have HAL : Hid (∀ (W3 : World) o, Below W3.heap.size W3 (W3.alloc o).drew) := fun W3 o => ((Below.refl _ _).alloc (Nat.le_refl _) o).drew
  have HLA : Hid (∀ (W3 : World) o, (W3.alloc o).drew.heap[W3.heap.size]? = some o) := fun W3 o => heap_alloc_last W3 o
  have HFD : Hid (∀ W, Below w.heap.size w W → W.cell? ⟨g, 4, none⟩ = some (.slice aa an ac) ∧ W.cell? ⟨b1, 0, none⟩ = some (.string nm)) := fun W hW => ⟨(HF.out W hW).1, (HF.out W hW).2.1⟩
  have g0 : Below w.heap.size w w := Below.refl _ w
  go_enter Tryz.func99, Tryz.ntmps99
  go_upto_region 0 with fail
  go_cut [4, 5] (fun s4 s5 wx => s4 = .int .i64 (L : Int) ∧ s5 = .bool hv ∧ Hid (Below w.heap.size w wx))
  case first =>
    clear HC hcn
    go_region_held3 (fun w' => w'.cell? ⟨g, 4, none⟩ = some (.slice aa an ac) ∧ w'.cell? ⟨b1, 0, none⟩ = some (.string nm))
      (first | with_reducible exact HFD.out _ g0 | with_reducible exact HFD.out _ gd | with_reducible exact HFD.out _ g2)
      (first | (go_at_call 60; with_reducible refine (hP.out _ gd).mono ?_; rintro e w2 ⟨rfl, HQ⟩; have g2 : Below w.heap.size w w2 := gd.trans (HQ.mono gd.size)))
    all_goals
      go_wp2_with fail
      go_meet
      exact ⟨rfl, rfl, hid_mk g2⟩
  case rest =>
  obtain ⟨rfl, rfl, HBC⟩ := hcut
  have hw1 : IntKind.i64.wrap ((L : Int) + 1) = (L : Int) + 1 := by rw [IntKind.wrap_i64]; omega
  go_upto_if 17 with fail
  go_cut [6] (fun s6 wx => s6 = .int .i64 ((L + cn : Nat) : Int) ∧ Hid (Below w.heap.size w wx))
  case first =>
    cases hv with
    | false =>
      obtain rfl : cn = 0 := hcn.2 rfl
      clear hcn HC
      go_wp2_with fail
      go_meet
      exact ⟨rfl, HBC⟩
    | true =>
      obtain rfl : cn = 1 := hcn.1 rfl
      clear hcn HC
      go_wp2_with fail
      go_meet
      exact ⟨by go_num, HBC⟩
  case rest =>
  obtain ⟨rfl, HBD⟩ := hcut
  obtain ⟨m4, m1, m2⟩ := HF.out wc HBD.out
  have hc91 := HC.out wc _ HBD.out (HAL.out wc (.cells #[.string nm, .string v] 128)) (HLA.out wc (.cells #[.string nm, .string v] 128))
  have hBA : Below w.heap.size w (wc.alloc (.cells #[.string nm, .string v] 128)).drew := HBD.out.trans ((HAL.out wc _).mono HBD.out.size)
  obtain ⟨n4, n1, n2⟩ := HF.out _ hBA
  have d4 : wc.drew.cell? ⟨g, 4, none⟩ = some (.slice aa an ac) := m4
  have d1 : wc.drew.cell? ⟨b1, 0, none⟩ = some (.string nm) := m1
  have d2 : wc.drew.cell? ⟨b2, 0, none⟩ = some (.string v) := m2
  generalize ((L + cn : Nat) : Int) = LE at *
  clear HC HAL HLA HF HFD hP gd g0 kd hdn k4 f4 h1 h2 hBA HG hcn hw1 HBC
  go_upto_region 4 with (fail)
  go_region_with (go_at_call 100; refine hc91.mono ?_; rintro e w3 ⟨a', c', rfl, q4, z4, HN, HQ1, HQ0, HQ2⟩)
  all_goals
    have HQ3 : Hid (Below g w w3) := HQ2.out.mono (by omega)
    go_wp2
    exact bodyPost_end (v := .tuple #[]) (by simp [results, Tryz.results99, go_sem]) rfl ⟨a', c', rfl, heap_setCell_same w3 g 4 _ 76 _ HN.out, HQ1.out.set HQ0.out hl _, HQ3.out.setCell (p := ⟨g, 4, none⟩) (Nat.le_refl _) _⟩

end Go.Proofs.YtdiljkmlneeboaaGreat.N
