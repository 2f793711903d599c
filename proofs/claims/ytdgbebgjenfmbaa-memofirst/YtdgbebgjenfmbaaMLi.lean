/- The document's example. -/
import Derived.Test.YtdgbebgjenfmbaaMPu
import Derived.Test.YtdgbebgjenfmbaaMUs
namespace Go.Proofs.Ytdgbebgjenfmbaa.M
open Go.RowKit Go.Shelf
set_option maxRecDepth 100000

theorem Tab.put {P : Nat → Prop} {w w' : World} {t r c : Nat} {L L' : List (Option En)} (h : Tab P w t r c L) (hr : Ring P w' c L') (hk : Kb (fun k => k ≠ c) w w') (hl : L'.length = L.length) : Tab P w' t r c L' :=
  ⟨h.offT, h.onR, h.ne, (hk.block t h.lt.1 h.ne).trans h.box, by rw [hl]; exact (hk.block r h.lt.2.1 (fun e => h.ring.off (e ▸ h.onR))).trans h.var, by rw [hl]; exact h.small, hr⟩
/-- What Put answers, of a table. -/
def PutT (P : Nat → Prop) (w : World) (t r c : Nat) (L : List (Option En)) (x : En) (s : Slot) (q : Ending) (w' : World) : Prop := match s with
  | .free j => q = .returned (.bool true) ∧ Tab P w' t r c (L.set j (some x)) ∧ Kb (fun k => k ≠ c) w w'
  | _ => q = .returned (.bool false) ∧ Tab P w' t r c L ∧ Below w.heap.size w w'
theorem put_tab {P Q : Nat → Prop} {w : World} {t r c : Nat} {L : List (Option En)} (h : Tab P w t r c L) (x : En) {sv : Value} (hS : SsAt Q w sv x.l) (hln : x.l.length ≤ 8796093021952) (hP : ∀ b, w.heap.size ≤ b → P b) : Calls Try.prog 12 #[.pointer (some ⟨t, 0, none⟩), .agg #[.int .i64 x.e, .int .i64 x.d, sv]] w (PutT P w t r c L x (find L x.e x.d)) := by
  refine (put_any (Src.of h) x hS (fun _ => hln) hP).mono fun q w' hh => ?_
  cases hf : find L x.e x.d with
  | full =>
    rw [hf] at hh
    exact ⟨hh.1, h.below hh.2, hh.2⟩
  | free j =>
    rw [hf] at hh
    exact ⟨hh.1, h.put hh.2.1 hh.2.2 (List.length_set ..), hh.2.2⟩
  | here y =>
    rw [hf] at hh
    exact ⟨hh.1, h.below hh.2, hh.2⟩
theorem lit_one (w : World) (s : ByteArray) : SsAt (fun _ => True) (w.alloc (.cells #[.string s] 9)) (.slice (some ⟨w.heap.size, 0, none⟩) 1 1) [s] := by
  have h := heap_alloc_last w (.cells #[.string s] 9)
  refine ⟨_, 1, w.heap.size, 0, rfl, Nat.le_refl _, by unfold maxLen; omega, fun _ => ⟨rfl, (Array.getElem?_eq_some_iff.1 h).1, trivial⟩, fun k u hk => ?_⟩
  cases k with
  | zero =>
    simp at hk
    subst hk
    exact (box_cell h).1
  | succ k => simp at hk
theorem Kb.from_alloc {Q : Nat → Prop} {w w' : World} {o : Obj} (h : Kb Q (w.alloc o) w') : Kb Q w w' := ((Kb.refl Q w).alloc o).trans h
theorem put_one {P : Nat → Prop} {w : World} {t r c : Nat} {L : List (Option En)} (h : Tab P w t r c L) (hP : ∀ b, w.heap.size ≤ b → P b) (e d : Int) (s : ByteArray) : Calls Try.prog 12 #[.pointer (some ⟨t, 0, none⟩), .agg #[.int .i64 e, .int .i64 d, .slice (some ⟨w.heap.size, 0, none⟩) 1 1]] (w.alloc (.cells #[.string s] 9)) (PutT P w t r c L ⟨e, d, [s]⟩ (find L e d)) := by
  have hb : Below w.heap.size w (w.alloc (.cells #[.string s] 9)) := (Below.refl _ w).alloc (Nat.le_refl _) _
  refine (put_tab (h.below hb) ⟨e, d, [s]⟩ (lit_one w s) (by simp) fun b hbb => hP b (Nat.le_trans hb.size hbb)).mono fun q w' hh => ?_
  change PutT P _ t r c L ⟨e, d, [s]⟩ (find L e d) q w' at hh
  cases hf : find L e d with
  | full =>
    rw [hf] at hh
    exact ⟨hh.1, hh.2.1, hb.trans (hh.2.2.mono hb.size)⟩
  | free j =>
    rw [hf] at hh
    exact ⟨hh.1, hh.2.1, Kb.from_alloc hh.2.2⟩
  | here y =>
    rw [hf] at hh
    exact ⟨hh.1, hh.2.1, hb.trans (hh.2.2.mono hb.size)⟩
/-- The example's first and second entry. -/
def x1 : En := ⟨1, 1, [⟨#[115]⟩]⟩
def x2 : En := ⟨1, 3, [⟨#[116]⟩]⟩
theorem ex1 : find (List.replicate 2 none) 1 1 = .free 0 := by kernel_rfl
theorem ex2 : find [some x1, none] 1 3 = .free 1 := by kernel_rfl
theorem ex3 : find [some x1, some x2] 1 2 = .full := by kernel_rfl
theorem ex4 : find [some x1, some x2] 1 3 = .here x2 := by kernel_rfl
theorem ex5 : usedN [some x1, some x2] = 2 := by kernel_rfl
theorem short_ex : Short [some x1, some x2] := fun j x h => by
  match j, h with
  | 0, h => cases h; decide
  | 1, h => cases h; decide
set_option maxHeartbeats 2000000 in
theorem lives_any (w : World) : Calls Try.prog 9 #[] w fun e w' => e = .returned (.bool true) ∧ Below w.heap.size w w' := by
  obtain ⟨t, ht⟩ : ∃ t, t = w.heap.size := ⟨_, rfl⟩
  have hnew := new_any (w := w) (n := 2) (by omega)
  rw [← ht] at hnew
  obtain ⟨P, hP⟩ : ∃ P : Nat → Prop, P = fun b => b ≠ t ∧ b ≠ t + 1 := ⟨_, rfl⟩
  -- the four tables, one behind the other
  have HN : Hid (∀ w1 : World, Below t w w1 → (∀ P : Nat → Prop, ¬ P t → ¬ P (t + 1) → P (t + 2) → Tab P w1 t (t + 2) (t + 1) (List.replicate 2 none)) → Tab P w1 t (t + 2) (t + 1) (List.replicate 2 none)) := fun w1 _ h => h P (by rw [hP]; exact fun hh => hh.1 rfl) (by rw [hP]; exact fun hh => hh.2 rfl) (by rw [hP]; exact ⟨by omega, by omega⟩)
  have HP : Hid (∀ (W : World) (L : List (Option En)), Tab P W t (t + 2) (t + 1) L → ∀ b, W.heap.size ≤ b → P b) := fun W L h b hb => by
    have := h.lt
    rw [hP]
    exact ⟨by omega, by omega⟩
  have HK : Hid (∀ A B : World, Below t w A → Kb (fun k => k ≠ t + 1) A B → Below t w B) := fun A B h k => h.trans (k.below (fun q hq => by omega) (by have := h.size; omega))
  rw [← ht]
  clear hP ht
  go_enter Try.func9, Try.ntmps9
  go_wp2_with (go_at_call 10; refine hnew.mono ?_; rintro e w1 ⟨rfl, hb1, hT1⟩; have HB1 := hid_mk hb1; have HT1 := hid_mk (HN.out w1 hb1 hT1); clear hnew hb1 hT1)
  clear HN
  have p1 := put_one HT1.out (HP.out _ _ HT1.out) 1 1 ⟨#[115]⟩
  rw [ex1] at p1
  refine p1.mono ?_
  rintro e w2 ⟨rfl, hT2, hk2⟩
  have HB2 := hid_mk (HK.out _ _ HB1.out hk2)
  have HT2 : Hid (Tab P w2 t (t + 2) (t + 1) [some x1, none]) := hT2
  clear p1 hT2 hk2 HT1 HB1
  go_wp2_with (go_at_call 12; fail)
  have p2 := put_one HT2.out (HP.out _ _ HT2.out) 1 3 ⟨#[116]⟩
  rw [ex2] at p2
  refine p2.mono ?_
  rintro e w3 ⟨rfl, hT3, hk3⟩
  have HB3 := hid_mk (HK.out _ _ HB2.out hk3)
  have HT3 : Hid (Tab P w3 t (t + 2) (t + 1) [some x1, some x2]) := hT3
  clear p2 hT3 hk3 HT2 HB2
  go_wp2_with (go_at_call 12; fail)
  have p3 := put_tab HT3.out ⟨1, 2, []⟩ (SsAt.nil (fun _ => True) w3) (by simp) (HP.out _ _ HT3.out)
  change Calls Try.prog 12 _ w3 (PutT P w3 t (t + 2) (t + 1) [some x1, some x2] ⟨1, 2, []⟩ (find [some x1, some x2] 1 2)) at p3
  rw [ex3] at p3
  refine p3.mono ?_
  rintro e w4 ⟨rfl, hT4, hk4⟩
  have HB4 := hid_mk (HK.out _ _ HB3.out (Kb.of_below hk4))
  have HT4 := hid_mk hT4
  clear p3 hT4 hk4 HT3 HB3
  go_wp2_with (go_at_call 14; fail)
  have g1 := get_any (Src.of HT4.out) short_ex 1 3
  rw [ex4] at g1
  refine g1.mono ?_
  rintro e w5 ⟨hb5, v5, rfl, hs5⟩
  have HB5 := hid_mk (HK.out _ _ HB4.out (Kb.of_below hb5))
  have HT5 := hid_mk (HT4.out.below hb5)
  have HS5 := hid_mk hs5.ss
  obtain ⟨pa, pc, rfl⟩ := hs5.form
  clear g1 hb5 hs5 HT4 HB4
  go_wp2_with (go_at_call 14; fail)
  have g2 := get_any (Src.of HT5.out) short_ex 1 2
  rw [ex3] at g2
  refine g2.mono ?_
  rintro e w6 ⟨hb6, rfl⟩
  have HB6 := hid_mk (HK.out _ _ HB5.out (Kb.of_below hb6))
  have HT6 := hid_mk (HT5.out.below hb6)
  have HS6 := hid_mk (HS5.out.keep (Kb.of_below hb6))
  clear g2 hb6 HS5 HT5 HB5
  obtain ⟨g6, o6, e6, hq⟩ : ∃ g6 o6, pa = some ⟨g6, o6, none⟩ ∧ w6.cell? ⟨g6, o6, none⟩ = some (.string ⟨#[116]⟩) := by
    obtain ⟨a6, c6, g6, o6, e6, _, _, h6, hcell⟩ := HS6.out
    injection e6 with e6 _ _
    exact ⟨g6, o6, e6.trans (h6 (by decide)).1, hcell 0 _ rfl⟩
  subst e6
  rw [show x2.l.length = 1 from rfl]
  clear HS6
  have hu := used_any (Src.of HT6.out)
  rw [ex5] at hu
  have hu : Calls Try.prog 24 #[.pointer (some ⟨t, 0, none⟩)] w6 fun q w' => q = .returned (.int .i64 2) ∧ Below w6.heap.size w6 w' := hu
  go_wp2_with (go_at_call 24; refine hu.mono ?_; rintro e w7 ⟨rfl, hb7⟩; have HB7 := hid_mk (HK.out _ _ HB6.out (Kb.of_below hb7)); clear hb7 hu)
  go_wp2
  go_ret
  exact ⟨rfl, HB7.out⟩
end Go.Proofs.Ytdgbebgjenfmbaa.M
