/- short.cut: the parts of a value, in the same memory. short.cut of any values. slices.Repeat of one string. -/
import Derived.Test.YtlhdapckenjigaaGreatDoorZLi
import Derived.Test.YtlhdapckenjigaaGreatDoorSMp
import Derived.Deep.RegionLaw
import Derived.Test.YtlhdapckenjigaaGreatDoorZGr
import Derived.Test.YtlhdapckenjigaaGreatDoorZRf
import Derived.Test.YtlhdapckenjigaaGreatDoorPRl
import Derived.Test.YtlhdapckenjigaaGreatDoorYValuesV
import Derived.Laws.CopyOwn
namespace Go.Proofs.YtlhdapckenjigaaGreatDoor.S
open Go.RowKit
open Go.Proofs.YtlhdapckenjigaaGreatDoor.L (T5 V VsAt t5Cells vCells cell_of_heap hid_mk cellAt set_at)
open Go.Proofs.YtlhdapckenjigaaGreatDoor.Y (spaceV trimZ aheadZ)
open Go.Proofs.YtlhdapckenjigaaGreatDoor.P (Bx)
set_option maxRecDepth 100000

theorem Tryz.info24s : (Tryz.prog.info? 24).map (fun i => (i.zero, i.size, i.bytes)) = some (some (.slice none 0 0), 1, 24) := by kernel_rfl
/-- The boxes of cut: the values, the parts so far, where the open part begins. -/
structure Cu (w : World) (n : Nat) (l out : Value) (us : List Value) (f : Nat) : Prop where
  bl : Bx w n 24 #[l]
  bo : Bx w (n + 1) 87 #[out]
  bf : Bx w (n + 1 + 1) 3 #[.int .i64 (f : Int)]
  row : w.ownsRow (n + 3) 24 1 out us.length us
theorem own_set {w : World} {B n b off : Nat} {v : Value} {xs : List Value} (h : w.ownsRow B 24 1 v n xs) {cs : Array Value} {t : TypeId} (hb : Bx w b t cs) (ht : t ≠ 24) (u : Value) : (w.setCell ⟨b, off, none⟩ u).ownsRow B 24 1 v n xs := by
  obtain ⟨hl, h⟩ := h
  refine ⟨hl, ?_⟩
  rcases h with h | ⟨g, cap, cur, hv, hB, hg, hr⟩
  · exact .inl h
  · refine .inr ⟨g, cap, cur, hv, hB, ?_, hr⟩
    have hne : g ≠ b := by
      intro e
      rw [e, show w.heap[b]? = _ from hb] at hg
      simp at hg
      exact ht hg.2
    exact (Below.heap_setCell w ⟨b, off, none⟩ u g (by simpa using hne)).trans hg
theorem own_low {w : World} {B B' T s n : Nat} {v : Value} {xs : List Value} (h : w.ownsRow B T s v n xs) (hB : B' ≤ B) : w.ownsRow B' T s v n xs := by
  obtain ⟨hl, h⟩ := h
  refine ⟨hl, ?_⟩
  rcases h with h | ⟨g, cap, cur, hv, hb, hr⟩
  · exact .inl h
  · exact .inr ⟨g, cap, cur, hv, Nat.le_trans hB hb, hr⟩
theorem own_ne {w : World} {B n b : Nat} {v : Value} {xs : List Value} (h : w.ownsRow B 24 1 v n xs) (hb : b < B) : some b ≠ v.ownBlock := fun e => by
  have := (h.lt b e.symm).1
  omega
theorem one_news (w : World) (o : Obj) : (w.alloc o).drew.heap[w.heap.size]? = some o := heap_alloc_new w o
theorem add_none (b off j : Nat) : (⟨b, off, none⟩ : Addr).add j = ⟨b, off + j, none⟩ := by unfold Addr.add; split <;> simp_all
set_option maxHeartbeats 1000000 in
theorem end_yes {w : World} {n lb lo ln lc f te : Nat} {out : Value} {us : List Value} (h : Cu w n (.slice (some ⟨lb, lo, none⟩) ln lc) out us f) (hft : f < te) (htn : te ≤ ln) (hln : ln ≤ lc) (hus : us.length ≤ 1954687338211) (hl2 : ln ≤ 1954687338211) :
    Calls Tryz.prog 74 #[.int .i64 (te : Int), .pointer (some ⟨n + 1 + 1, 0, none⟩), .pointer (some ⟨n + 1, 0, none⟩), .pointer (some ⟨n, 0, none⟩)] w fun e w' => e = .returned (.tuple #[]) ∧ ∃ out', Cu w' n (.slice (some ⟨lb, lo, none⟩) ln lc) out' (us ++ [.slice (some ⟨lb, lo + f * 6, none⟩) (te - f) (lc - f)]) (te + 1) ∧ Below n w w' := by
  obtain ⟨i0, hi0, hz0, hz1, hz2⟩ := info_parts Tryz.info24s
  obtain ⟨hbl, hbo, hbf, hown⟩ := h
  have c1 := hbl.cell 0 _ rfl
  have c2 := hbo.cell 0 _ rfl
  have c3 := hbf.cell 0 _ rfl
  have c2' := (hbo.alloc (.cells #[.slice (some ⟨lb, lo + f * 6, none⟩) (te - f) (lc - f)] 24)).cell 0 _ rfl
  have d1 : decide ((f : Int) < (te : Int)) = true := decide_eq_true (by omega)
  have g1 : te ≤ lc := by omega
  have g2 : f ≤ te := by omega
  have g3 : ¬ lc = f := by omega
  have hw3 : n + 1 + 1 < w.heap.size := hbf.lt
  have HL := hid_mk hbl
  have HO := hid_mk hbo
  have HF := hid_mk hbf
  have HW := hid_mk hown
  have hn63 : us.length + 1 ≤ maxLen := by unfold maxLen; omega
  have hn48 : (us.length + 1) * 24 ≤ 140737488355328 := by omega
  have hwr : IntKind.i64.wrap ((te : Int) + 1) = ((te + 1 : Nat) : Int) := by rw [IntKind.wrap_i64]; omega
  have had : (⟨lb, lo, none⟩ : Addr).add (f * 6) = ⟨lb, lo + f * 6, none⟩ := add_none lb lo (f * 6)
  clear hbl hbo hbf
  go_enter Tryz.func74, Tryz.ntmps74
  go_wp2_with fail
  go_region_law
    ((refine step_append_lies _ (by rfl) _ _ _ (by rfl) (n + 3) 24 i0 _ 1 24 Tryz.underlying87 hi0 hz0 hz1 hz2 rfl (by omega) out us.length us (by rfl) ((hown.alloc _).drew)
        ⟨w.heap.size, 0, none⟩ 1 1 [.slice (some ⟨lb, lo + f * 6, none⟩) (te - f) (lc - f)] (by rfl) (by rfl) (World.news_of_block (cs := #[.slice (some ⟨lb, lo + f * 6, none⟩) (te - f) (lc - f)]) (t := 24) (fr := (0, 0)) (one_news w _)) (by simp [Value.oneCell'])
        (by omega) hn63 hn48 (by simp; omega) (w.heap.size + 1) (by simp) ?_
      intro gg cap w1 hown1 hgrow hgat hglt
      have b1 : Bx w1 n 24 #[.slice (some ⟨lb, lo, none⟩) ln lc] := ((HL.out.alloc _).dr).kept hgrow (own_ne HW.out (by omega))
      have b2 : Bx w1 (n + 1) 87 #[out] := ((HO.out.alloc _).dr).kept hgrow (own_ne HW.out (by omega))
      have b3 : Bx w1 (n + 1 + 1) 3 #[.int .i64 (f : Int)] := ((HF.out.alloc _).dr).kept hgrow (own_ne HW.out (by omega))
      have e2 := b2.cell 0 _ rfl
      have e2' := b2.frozen 0
      have HG := hid_mk hgrow
      have HBX := hid_mk (And.intro b1 (And.intro b2 b3))
      have HOW := hid_mk hown1
      have hb4 := (b3.other ⟨n + 1, 0, none⟩ (.slice (some ⟨gg, 0, none⟩) (us.length + 1) cap) (by simp)).frozen 0
      have hb5 := (b3.other ⟨n + 1, 0, none⟩ (.slice (some ⟨gg, 0, none⟩) (us.length + 1) cap) (by simp)).cell 0 _ rfl
      clear b1 b2 b3 hown1 hgrow))
  all_goals go_wp2
  all_goals
    obtain ⟨b1, b2, b3⟩ := HBX.out
    have HBel : Below n w w1 := (((Below.refl n w).alloc (by omega) _).drew).grown HG.out (by simp; omega) (fun k hk => by have := (HW.out.lt k hk).1; omega)
    refine bodyPost_end (v := .tuple #[]) (by simp [results, Tryz.results74, go_sem]) rfl ⟨rfl, .slice (some ⟨gg, 0, none⟩) (us.length + 1) cap, ⟨?_, ?_, ?_, ?_⟩, ?_⟩
    · exact (b1.other _ _ (by simp)).other _ _ (by simp; omega)
    · exact (b2.set 0 _).other _ _ (by simp)
    · exact (b3.other _ _ (by simp)).set 0 _
    · rw [List.length_append]
      exact own_set (own_set HOW.out b2 (by decide) _) (b3.other _ _ (by simp)) (by decide) _
    · exact (HBel.setCell (p := ⟨n + 1, 0, none⟩) (by simp) _).setCell (p := ⟨n + 1 + 1, 0, none⟩) (by simp; omega) _
theorem end_no {w : World} {n f te : Nat} {l out : Value} {us : List Value} (h : Cu w n l out us f) (hft : te ≤ f) (ht : te ≤ 1954687338211) :
    Calls Tryz.prog 74 #[.int .i64 (te : Int), .pointer (some ⟨n + 1 + 1, 0, none⟩), .pointer (some ⟨n + 1, 0, none⟩), .pointer (some ⟨n, 0, none⟩)] w fun e w' => e = .returned (.tuple #[]) ∧ Cu w' n l out us (te + 1) ∧ Below n w w' := by
  obtain ⟨hbl, hbo, hbf, hown⟩ := h
  have c3 := hbf.cell 0 _ rfl
  have c3' := hbf.frozen 0
  have d1 : decide ((f : Int) < (te : Int)) = false := decide_eq_false (by omega)
  have HBX := hid_mk (And.intro hbl (And.intro hbo (And.intro hbf hown)))
  have hwr : IntKind.i64.wrap ((te : Int) + 1) = ((te + 1 : Nat) : Int) := by rw [IntKind.wrap_i64]; omega
  clear hbl hbo hbf hown
  go_enter Tryz.func74, Tryz.ntmps74
  go_wp2
  obtain ⟨b1, b2, b3, hw⟩ := HBX.out
  refine bodyPost_end (v := .tuple #[]) (by simp [results, Tryz.results74, go_sem]) rfl ⟨rfl, ⟨b1.other _ _ (by simp; omega), b2.other _ _ (by simp), b3.set 0 _, own_set hw b3 (by decide) _⟩, ?_⟩
  exact (Below.refl n w).setCell (p := ⟨n + 1 + 1, 0, none⟩) (by simp; omega) _
end Go.Proofs.YtlhdapckenjigaaGreatDoor.S
namespace Go.Proofs.YtlhdapckenjigaaGreatDoor.S
open Go.RowKit
open Go.Proofs.YtlhdapckenjigaaGreatDoor.L (T5 V VsAt t5Cells vCells cell_of_heap hid_mk cellAt set_at)
open Go.Proofs.YtlhdapckenjigaaGreatDoor.Y (spaceV trimZ aheadZ)
open Go.Proofs.YtlhdapckenjigaaGreatDoor.P (Bx)
set_option maxRecDepth 100000

theorem Cu.alloc {w : World} {n : Nat} {l out : Value} {us : List Value} {f : Nat} (h : Cu w n l out us f) (o : Obj) : Cu (w.alloc o) n l out us f := ⟨h.bl.alloc o, h.bo.alloc o, h.bf.alloc o, h.row.alloc o⟩
/-- Slices that hold the parts, one by one. -/
structure PsA (P0 : Nat → Prop) (W : World) (us : List Value) (ps : List (List V)) : Prop where
  len : us.length = ps.length
  at_ : ∀ (i : Nat) (u : Value) (p : List V), us[i]? = some u → ps[i]? = some p → VsAt P0 W u p
theorem PsA.nil (P0 : Nat → Prop) (W : World) : PsA P0 W [] [] := ⟨rfl, fun i u p h => by simp at h⟩
theorem PsA.snoc {P0 : Nat → Prop} {W : World} {us : List Value} {ps : List (List V)} (h : PsA P0 W us ps) {u : Value} {p : List V} (hu : VsAt P0 W u p) : PsA P0 W (us ++ [u]) (ps ++ [p]) := by
  refine ⟨by simp [h.len], fun i x q hx hq => ?_⟩
  rcases Nat.lt_or_ge i us.length with hi | hi
  · rw [List.getElem?_append_left hi] at hx
    rw [List.getElem?_append_left (by rw [← h.len]; exact hi)] at hq
    exact h.at_ i x q hx hq
  · rw [List.getElem?_append_right hi] at hx
    rw [List.getElem?_append_right (by rw [← h.len]; exact hi), ← h.len] at hq
    have h0 : i - us.length = 0 := by
      have := (List.getElem?_eq_some_iff.1 hx).1
      simpa using this
    rw [h0] at hx hq
    simp at hx hq
    rw [← hx, ← hq]
    exact hu
theorem PsA.keep {P0 : Nat → Prop} {W W' : World} {us : List Value} {ps : List (List V)} (h : PsA P0 W us ps) (hb : Below W.heap.size W W') : PsA P0 W' us ps := ⟨h.len, fun i u p hu hp => (h.at_ i u p hu hp).keep hb⟩
/-- The open part. -/
def opn (vs : List V) (f i : Nat) : List V := (vs.drop f).take (i - f)
theorem opn_self (vs : List V) (f : Nat) : opn vs f f = [] := by simp [opn]
theorem opn_ne {vs : List V} {f i : Nat} (h : f < i) (hi : i ≤ vs.length) : (opn vs f i).isEmpty = false := by
  have : (opn vs f i).length = i - f := by simp [opn]; omega
  cases h2 : opn vs f i with
  | nil => rw [h2] at this; simp at this; omega
  | cons x r => rfl
theorem opn_next {vs : List V} {f i : Nat} {x : V} (h : f ≤ i) (hx : vs[i]? = some x) : opn vs f (i + 1) = opn vs f i ++ [x] := by
  unfold opn
  rw [show i + 1 - f = (i - f) + 1 by omega, List.take_add_one]
  congr 1
  rw [List.getElem?_drop, show f + (i - f) = i by omega, hx]
  rfl
theorem drop_cons {vs : List V} {i : Nat} {x : V} (hx : vs[i]? = some x) : vs.drop i = x :: vs.drop (i + 1) := by
  obtain ⟨h, e⟩ := List.getElem?_eq_some_iff.1 hx
  rw [List.drop_eq_getElem_cons h, e]
theorem cut_sp1 {vs : List V} {f i : Nat} {x : V} (h : f < i) (hx : vs[i]? = some x) (hs : spaceV x = true) : cutA (opn vs f i) (vs.drop i) = opn vs f i :: cutA (opn vs (i + 1) (i + 1)) (vs.drop (i + 1)) := by
  have hi := (List.getElem?_eq_some_iff.1 hx).1
  rw [drop_cons hx, opn_self]
  conv => lhs; unfold cutA
  rw [if_pos hs, opn_ne h (by omega)]
  rfl
theorem cut_sp2 {vs : List V} {i : Nat} {x : V} (hx : vs[i]? = some x) (hs : spaceV x = true) : cutA (opn vs i i) (vs.drop i) = cutA (opn vs (i + 1) (i + 1)) (vs.drop (i + 1)) := by
  rw [drop_cons hx, opn_self, opn_self]
  conv => lhs; unfold cutA
  rw [if_pos hs]
  rfl
theorem cut_no {vs : List V} {f i : Nat} {x : V} (h : f ≤ i) (hx : vs[i]? = some x) (hs : spaceV x = false) : cutA (opn vs f i) (vs.drop i) = cutA (opn vs f (i + 1)) (vs.drop (i + 1)) := by
  rw [drop_cons hx, opn_next h hx]
  conv => lhs; unfold cutA
  rw [if_neg (by rw [hs]; simp)]
theorem cut_end1 {vs : List V} {f : Nat} (h : f < vs.length) : cutA (opn vs f vs.length) (vs.drop vs.length) = [opn vs f vs.length] := by
  rw [List.drop_length]
  unfold cutA
  rw [opn_ne h (Nat.le_refl _)]
  rfl
theorem cut_end2 {vs : List V} : cutA (opn vs vs.length vs.length) (vs.drop vs.length) = [] := by
  rw [List.drop_length, opn_self]
  rfl
theorem vs_opn {P : Nat → Prop} {W : World} {lb lo ln lc : Nat} {vs : List V} (h : VsAt P W (.slice (some ⟨lb, lo, none⟩) ln lc) vs) {f i : Nat} (hf : f ≤ i) (hi : i ≤ vs.length) : VsAt P W (.slice (some ⟨lb, lo + f * 6, none⟩) (i - f) (lc - f)) (opn vs f i) := by
  have h1 := h.drop f (by omega) (some ⟨lb, lo + f * 6, none⟩) (fun _ => ⟨lb, lo, rfl, rfl⟩)
  exact h1.take (i - f) (by simp; omega)
theorem vs_at {P : Nat → Prop} {W : World} {v : Value} {vs : List V} (h : VsAt P W v vs) : ∃ a cap b off, v = .slice a vs.length cap ∧ vs.length ≤ cap ∧ cap ≤ 9223372036854775807 ∧ ∀ (k : Nat) (x : V), vs[k]? = some x → a = some ⟨b, off, none⟩ ∧ ∃ ka kc, VsAt P W (.slice ka x.kids.length kc) x.kids ∧ ∀ w, Below W.heap.size W w → (w.cell? ⟨b, off + k * 6, none⟩ = some (.int .i64 x.tok.k) ∧ w.cell? ⟨b, off + k * 6 + 1, none⟩ = some (.string x.tok.tx) ∧ w.cell? ⟨b, off + k * 6 + 2, none⟩ = some (.string x.tok.un)) ∧ (w.cell? ⟨b, off + k * 6 + 3, none⟩ = some (.bool x.tok.wh) ∧ w.cell? ⟨b, off + k * 6 + 4, none⟩ = some (.bool x.tok.fl) ∧ w.cell? ⟨b, off + k * 6 + 5, none⟩ = some (.slice ka x.kids.length kc)) := by
  obtain ⟨a, cap, e, h1, h2, b, off, hc⟩ := Z.vs_cells h
  refine ⟨a, cap, b, off, e, h1, h2, fun k x hx => ?_⟩
  obtain ⟨hk, rfl⟩ := List.getElem?_eq_some_iff.1 hx
  obtain ⟨h3, _, ka, kc, h5, h6⟩ := hc k hk
  exact ⟨h3, ka, kc, h5, h6⟩
theorem sp_eq (x : V) : spaceV x = (x.tok.k == 13) := Y.space_eq x
set_option maxHeartbeats 4000000 in
theorem cut_any {P0 : Nat → Prop} {W : World} {v : Value} {vs : List V} (hv : VsAt P0 W v vs) (hm : vs.length ≤ 1954687338211) :
    Calls Tryz.prog 44 #[v] W fun e w' => ∃ out us, e = .returned out ∧ w'.ownsRow W.heap.size 24 1 out us.length us ∧ PsA P0 W us (cutP vs) ∧ Below W.heap.size W w' := by
  obtain ⟨la, lc, lb, lo, rfl, hlc, hcm, hcell⟩ := vs_at hv
  have HC := hid_mk hcell
  have HV := hid_mk hv
  have HCU : Hid (cutP vs = [] ++ cutA (opn vs 0 0) (vs.drop 0)) := by rw [opn_self]; rfl
  generalize hln : vs.length = ln at *
  have HLN := hid_mk hln
  clear hcell hv hln
  have hA : Cu (((W.alloc (.cells #[.slice la ln lc] 24)).alloc (.cells #[.slice none 0 0] 87)).alloc (.cells #[.int .i64 0] 3)) W.heap.size (.slice la ln lc) (.slice none 0 0) [] 0 := by
    have b1 := Bx.new W 24 #[.slice la ln lc]
    have b2 := Bx.new (W.alloc (.cells #[.slice la ln lc] 24)) 87 #[.slice none 0 0]
    have b3 := Bx.new ((W.alloc (.cells #[.slice la ln lc] 24)).alloc (.cells #[.slice none 0 0] 87)) 3 #[.int .i64 0]
    have e1 : (W.alloc (.cells #[.slice la ln lc] 24)).heap.size = W.heap.size + 1 := by simp
    have e2 : ((W.alloc (.cells #[.slice la ln lc] 24)).alloc (.cells #[.slice none 0 0] 87)).heap.size = W.heap.size + 1 + 1 := by simp
    rw [e1] at b2
    rw [e2] at b3
    exact ⟨(b1.alloc _).alloc _, b2.alloc _, b3, World.ownsRow_nil _ _ _ _⟩
  have hB : Below W.heap.size W (((W.alloc (.cells #[.slice la ln lc] 24)).alloc (.cells #[.slice none 0 0] 87)).alloc (.cells #[.int .i64 0] 3)) :=
    (((Below.refl _ W).alloc (Nat.le_refl _) _).alloc (by simp) _).alloc (by simp; omega) _
  have HA := hid_mk hA
  have HB := hid_mk hB
  have c1 := hA.bl.cell 0 _ rfl
  clear hA hB
  go_enter Tryz.func44, Tryz.ntmps44
  go_wp2
  go_loopw [11] (fun a11 wr => ∃ (i f : Nat) (out : Value) (us : List Value) (ps : List (List V)), (i ≤ ln ∧ f ≤ i ∧ us.length ≤ i) ∧ a11 = .int .i64 (i : Int) ∧ Hid (Cu wr W.heap.size (.slice la ln lc) out us f ∧ Below W.heap.size W wr ∧ PsA P0 W us ps ∧ cutP vs = ps ++ cutA (opn vs f i) (vs.drop i))) (fun a11 _ => ln + 1 - (intOf a11).toNat)
  case atStart => exact ⟨0, 0, _, [], [], ⟨Nat.zero_le _, Nat.le_refl _, Nat.le_refl _⟩, rfl, HA.out, HB.out, PsA.nil _ _, HCU.out⟩
  case round =>
    obtain ⟨i, f, out, us, ps, ⟨hi, hfi, hui⟩, rfl, HJ⟩ := hrel
    clear HCU HA HB c1
    by_cases hlt : i < ln
    · have hd1 : decide ((i : Int) < (ln : Int)) = true := decide_eq_true (by omega)
      obtain ⟨x, hx⟩ : ∃ x, vs[i]? = some x := ⟨_, List.getElem?_eq_getElem (by rw [HLN.out]; exact hlt)⟩
      obtain ⟨hla, ka, kc, _, hcl⟩ := HC.out i x hx
      obtain ⟨⟨q0, q1, q2⟩, q3, q4, q5⟩ := hcl wr HJ.out.2.1
      have HX := hid_mk hx
      have HS := hid_mk (sp_eq x)
      generalize x.tok = t at *
      generalize x.kids.length = kn at *
      obtain ⟨k, tx, un, wh, fl⟩ := t
      simp only at q0 q1 q2 q3 q4 q5 HS
      subst hla
      clear hcl hx
      have HJ2 : Hid (Cu (wr.alloc (.cells #[.int .i64 k, .string tx, .string un, .bool wh, .bool fl, .slice ka kn kc] 57)) W.heap.size (.slice (some ⟨lb, lo, none⟩) ln lc) out us f ∧ Below W.heap.size W (wr.alloc (.cells #[.int .i64 k, .string tx, .string un, .bool wh, .bool fl, .slice ka kn kc] 57))) := ⟨HJ.out.1.alloc _, HJ.out.2.1.alloc HJ.out.2.1.size _⟩
      by_cases hk : k = 13
      · have hk13 : (k == 13) = true := by simpa using hk
        have HSP : Hid (spaceV x = true) := HS.out.trans hk13
        subst hk
        rcases Nat.lt_or_ge f i with hf | hf
        · have hcall := end_yes HJ2.out.1 hf hi hlc (by omega) (by omega)
          go_wp2_with (go_at_call 74; fail)
          refine hcall.mono ?_
          rintro e w1 ⟨rfl, out1, hcu, hb1⟩
          have HN : Hid (Cu w1 W.heap.size (.slice (some ⟨lb, lo, none⟩) ln lc) out1 (us ++ [.slice (some ⟨lb, lo + f * 6, none⟩) (i - f) (lc - f)]) (i + 1) ∧ Below W.heap.size W w1) := ⟨hcu, HJ2.out.2.trans hb1⟩
          clear hcall hcu hb1
          go_wp2
          refine ⟨⟨i + 1, i + 1, out1, us ++ [.slice (some ⟨lb, lo + f * 6, none⟩) (i - f) (lc - f)], ps ++ [opn vs f i], ⟨by omega, Nat.le_refl _, by simp; omega⟩, rfl, HN.out.1, HN.out.2, HJ.out.2.2.1.snoc (vs_opn HV.out (by omega) (by rw [HLN.out]; exact hi)), ?_⟩, by simp [intOf]; omega⟩
          rw [HJ.out.2.2.2, cut_sp1 hf HX.out HSP.out]
          simp
        · have hcall := end_no HJ2.out.1 hf (by omega)
          go_wp2_with (go_at_call 74; fail)
          refine hcall.mono ?_
          rintro e w1 ⟨rfl, hcu, hb1⟩
          have HN : Hid (Cu w1 W.heap.size (.slice (some ⟨lb, lo, none⟩) ln lc) out us (i + 1) ∧ Below W.heap.size W w1) := ⟨hcu, HJ2.out.2.trans hb1⟩
          clear hcall hcu hb1
          go_wp2
          refine ⟨⟨i + 1, i + 1, out, us, ps, ⟨by omega, Nat.le_refl _, by omega⟩, rfl, HN.out.1, HN.out.2, HJ.out.2.2.1, ?_⟩, by simp [intOf]; omega⟩
          have hfe : f = i := by omega
          rw [HJ.out.2.2.2, hfe, cut_sp2 HX.out HSP.out]
      · have hk13 : (k == 13) = false := by simpa using hk
        have HSP : Hid (spaceV x = false) := HS.out.trans hk13
        go_wp2
        refine ⟨⟨i + 1, f, out, us, ps, ⟨by omega, by omega, by omega⟩, rfl, HJ2.out.1, HJ2.out.2, HJ.out.2.2.1, ?_⟩, by simp [intOf]; omega⟩
        rw [HJ.out.2.2.2, cut_no hfi HX.out HSP.out]
    · have hd1 : decide ((i : Int) < (ln : Int)) = false := decide_eq_false (by omega)
      have hie : i = ln := by omega
      subst hie
      have c1 := HJ.out.1.bl.cell 0 _ rfl
      rcases Nat.lt_or_ge f i with hf | hf
      · obtain ⟨x, hx⟩ : ∃ x, vs[f]? = some x := ⟨_, List.getElem?_eq_getElem (by rw [HLN.out]; exact hf)⟩
        obtain ⟨hla, _, _, _, _⟩ := HC.out f x hx
        subst hla
        clear hx
        have hcall := end_yes HJ.out.1 hf (Nat.le_refl _) hlc (by omega) (by omega)
        go_wp2_with (go_at_call 74; fail)
        refine hcall.mono ?_
        rintro e w1 ⟨rfl, out1, hcu, hb1⟩
        have HN : Hid (Cu w1 W.heap.size (.slice (some ⟨lb, lo, none⟩) i lc) out1 (us ++ [.slice (some ⟨lb, lo + f * 6, none⟩) (i - f) (lc - f)]) (i + 1) ∧ Below W.heap.size W w1) := ⟨hcu, HJ.out.2.1.trans hb1⟩
        have c2 := hcu.bo.cell 0 _ rfl
        clear hcall hcu hb1 c1
        go_wp2
        go_ret
        refine ⟨_, _, rfl, own_low HN.out.1.row (by omega), ?_, HN.out.2⟩
        have hc : cutP vs = ps ++ [opn vs f i] := by
          rw [HJ.out.2.2.2, ← HLN.out]
          congr 1
          exact cut_end1 (by rw [HLN.out]; exact hf)
        rw [hc]
        exact HJ.out.2.2.1.snoc (vs_opn HV.out (by omega) (by rw [HLN.out]; exact Nat.le_refl _))
      · have hcall := end_no HJ.out.1 hf (by omega)
        go_wp2_with (go_at_call 74; fail)
        refine hcall.mono ?_
        rintro e w1 ⟨rfl, hcu, hb1⟩
        have HN : Hid (Cu w1 W.heap.size (.slice la i lc) out us (i + 1) ∧ Below W.heap.size W w1) := ⟨hcu, HJ.out.2.1.trans hb1⟩
        have c2 := hcu.bo.cell 0 _ rfl
        clear hcall hcu hb1 c1
        go_wp2
        go_ret
        refine ⟨_, _, rfl, own_low HN.out.1.row (by omega), ?_, HN.out.2⟩
        have hfe : f = i := by omega
        have hc : cutP vs = ps := by
          rw [HJ.out.2.2.2, hfe, ← HLN.out, cut_end2, List.append_nil]
        rw [hc]
        exact HJ.out.2.2.1
end Go.Proofs.YtlhdapckenjigaaGreatDoor.S
namespace Go
theorem step_copy {P : Program} {w : World} {ops : Array Oper} {o : Oper} {a : Act} {K : Act → World → Prop} {Q : Exit → Act → World → Prop} {E : Prop} (hgd : o.guard = none) (d s : Operand) (dT sT : TypeId)
    (ho : o.op = .call { callee := .builtin .copy, args := #[d, s], argTypes := #[dT, sT] }) (elem : TypeId) (hu : P.underlying dT = some (.slice elem)) (hsz : (P.info? elem).map (·.size) = some 1)
    (g off dLen dCap : Nat) (ad : Addr) (sLen sCap : Nat) (hd : a.eval d = .slice (some ⟨g, off, none⟩) dLen dCap) (hs : a.eval s = .slice (some ad) sLen sCap)
    (cur : Array Value) (t : TypeId) (hg : w.heap[g]? = some (.cells cur t (0, 0))) (cs : List Value) (hn : cs.length = Nat.min sLen dLen)
    (hsrc : ∀ j v, cs[j]? = some v → w.cell? (ad.add j) = some v) (hfit : off + cs.length ≤ cur.size) (h1 : ∀ v ∈ cs, v.oneCell' = true)
    (h : ∀ w', w' = w.setRow g (cur.toList.take off ++ cs ++ cur.toList.drop (off + cs.length)).toArray → K (a.put o.dst (goInt cs.length)) w') :
    if Region.wanted o (yielded ops a.tmps) = true then Oper.wp P o a w K Q else E := by
  have hw : Region.wanted o (yielded ops a.tmps) = true := by simp [Region.wanted, hgd]
  rw [if_pos hw]
  have hrun := run_copy_row (P := P) w dT sT o.type elem g off dLen dCap ad sLen sCap cur t cs hu hsz hg hn hsrc hfit h1
  unfold Oper.wp execOp
  simp only [ho, resolve, invoke, builtin, Sem.run_bind, Sem.run_pure, Result.andThen_ok, List.map_toArray, List.map_cons, List.map_nil, hs, hd, hrun]
  exact h _ rfl
end Go
namespace Go.Proofs.YtlhdapckenjigaaGreatDoor.S
open Go.RowKit
open Go.Proofs.YtlhdapckenjigaaGreatDoor.L (cell_of_heap hid_mk cellAt set_at)
open Go.Proofs.YtlhdapckenjigaaGreatDoor.P (Bx StrAt)
set_option maxRecDepth 100000

theorem mul64_any (N : Nat) (h : N ≤ 4) (w : World) : Calls Tryz.prog 109 #[.int .u64 1, .int .u64 (N : Int)] w fun e w' => e = .returned (.tuple #[.int .u64 0, .int .u64 (N : Int)]) ∧ w' = w := by
  have : N = 0 ∨ N = 1 ∨ N = 2 ∨ N = 3 ∨ N = 4 := by omega
  rcases this with rfl | rfl | rfl | rfl | rfl <;>
  · go_enter Tryz.func109, Tryz.ntmps109
    go_wp2
    go_ret2
    exact ⟨rfl, rfl⟩
theorem mul_any (N : Nat) (h : N ≤ 4) (w : World) : Calls Tryz.prog 73 #[.int .u64 1, .int .u64 (N : Int)] w fun e w' => e = .returned (.tuple #[.int .u64 0, .int .u64 (N : Int)]) ∧ w' = w := by
  have hm := mul64_any N h w
  go_enter Tryz.func73, Tryz.ntmps73
  go_wp2_with (go_at_call 109; fail)
  refine hm.mono ?_
  rintro e w' ⟨rfl, rfl⟩
  go_wp2
  go_ret2
  exact ⟨rfl, rfl⟩
theorem add_nn (b off j : Nat) : (⟨b, off, none⟩ : Addr).add j = ⟨b, off + j, none⟩ := by unfold Addr.add; split <;> simp_all
/-- So many cells with the text, the rest still empty. -/
def rep (s : ByteArray) (N k : Nat) : List Value := List.replicate k (.string s) ++ List.replicate (N - k) (.string ⟨#[]⟩)
theorem rep_len (s : ByteArray) {N k : Nat} (h : k ≤ N) : (rep s N k).length = N := by simp [rep]; omega
theorem rep_next (s : ByteArray) {N k m : Nat} (h : k + m ≤ N) : (rep s N k).take k ++ List.replicate m (.string s) ++ (rep s N k).drop (k + m) = rep s N (k + m) := by
  unfold rep
  rw [List.take_append_of_le_length (by simp), List.take_of_length_le (by simp), List.drop_append, List.drop_of_length_le (by simp), List.nil_append, List.length_replicate, List.drop_replicate, ← List.replicate_append_replicate]
  congr 2
  omega
theorem rep_cell (s : ByteArray) {N k j : Nat} (hj : j < k) : (rep s N k)[j]? = some (.string s) := by
  unfold rep
  rw [List.getElem?_append_left (by simpa using hj), List.getElem?_replicate, if_pos hj]
theorem sz9 : (Tryz.prog.info? 9).map (·.size) = some 1 := by kernel_rfl
theorem Tryz.info9s : (Tryz.prog.info? 9).map (fun i => (i.zero, i.size, i.bytes)) = some (some (.string ⟨#[]⟩), 1, 16) := by kernel_rfl
set_option maxHeartbeats 1000000 in
theorem repeat_any (N : Nat) (hN : N ≤ 4) (s : ByteArray) (b : Nat) (w : World) (h : w.cell? ⟨b, 0, none⟩ = some (.string s)) :
    Calls Tryz.prog 43 #[.slice (some ⟨b, 0, none⟩) 1 1, .int .i64 (N : Int)] w fun e w' => ∃ a, e = .returned (.slice a N N) ∧ StrAt w' (.slice a N N) (List.replicate N s) ∧ Below w.heap.size w w' := by
  obtain ⟨i0, hi0, hz0, hz1, hz2⟩ := info_parts Tryz.info9s
  have hm := mul_any N hN w
  have d1 : decide ((N : Int) < 0) = false := decide_eq_false (by omega)
  have d2 : decide ((9223372036854775807 : Int) < (N : Int)) = false := decide_eq_false (by omega)
  have g1 : IntKind.u64.wrap (N : Int) = (N : Int) := by
    have : N = 0 ∨ N = 1 ∨ N = 2 ∨ N = 3 ∨ N = 4 := by omega
    rcases this with rfl | rfl | rfl | rfl | rfl <;> rfl
  have g2 : IntKind.i64.wrap (N : Int) = (N : Int) := by rw [IntKind.wrap_i64]; omega
  go_enter Tryz.func43, Tryz.ntmps43
  go_wp2_with (go_at_call 73; fail)
  refine hm.mono ?_
  rintro e w' ⟨rfl, rfl⟩
  clear hm
  go_wp2_with (with_reducible refine wpList_make_full _ rfl _ _ 36 rfl w'.heap.size 9 i0 (.string ⟨#[]⟩) 1 Tryz.underlying36 hi0 hz0 hz1 .i64 .i64 (N : Int) (N : Int) N rfl rfl rfl rfl (by rw [hz2]; omega) (by unfold maxLen; omega) (Nat.le_refl _) ?_)
  intro w2 hrow hgr
  obtain ⟨-, hrow⟩ := hrow
  rcases hrow with ⟨hv, _⟩ | ⟨g, cap, cur, hv, hB, hg, hnc, hcm, hsz, hx⟩
  · cases hv
  cases hv
  have hB2 : Below w'.heap.size w' w2 := (Below.refl _ w').grown hgr (Nat.le_refl _) (fun k hk => by cases hk)
  have hcur : cur = (rep s N 0).toArray := by
    have e : cur.toList = rep s N 0 := by
      rw [Nat.mul_one] at hx hsz
      rw [List.take_of_length_le (by simp [hsz])] at hx
      rw [hx]
      rw [toList_madeCells_one]
      simp [rep]
    rw [← e]
  subst hcur
  have HG : Hid (Bx w2 w'.heap.size 9 (rep s N 0).toArray) := hg
  have HB2 := hid_mk hB2
  have hc2 : w2.cell? ⟨b, 0, none⟩ = some (.string s) := (hB2.cell (p := ⟨b, 0, none⟩) (P.lt_of_cell h)).trans h
  clear hg hgr hx hsz hcm hnc hB2 h hB
  have HST : Hid (∀ (wr : World) (k : Nat), k ≤ N → Bx wr w'.heap.size 9 (rep s N k).toArray → Below w'.heap.size w' wr → ∃ a, (.slice (some ⟨w'.heap.size, 0, none⟩) N N : Value) = .slice a N N ∧ (k = N → StrAt wr (.slice a N N) (List.replicate N s)) ∧ Below w'.heap.size w' wr) := fun wr k hk hbx hbl => ⟨_, rfl, fun hkN => by
    refine ⟨by simp, .inr ⟨w'.heap.size, N, (rep s N k).toArray, by simp, Nat.zero_le _, hbx, by simp, by unfold maxLen; omega, by simp [rep_len s hk], ?_⟩⟩
    subst hkN
    simp [rep], hbl⟩
  by_cases h0 : N = 0
  · subst h0
    have hcp := run_copy_none (P := Tryz.prog) w2 36 36 3 9 (some ⟨w'.heap.size, 0, none⟩) (some ⟨b, 0, none⟩) 0 0 1 1 Tryz.underlying36 sz9 rfl
    have HZ := hid_mk (HST.out w2 0 (Nat.le_refl _) HG.out HB2.out)
    clear HST HG HB2 hc2
    go_wp2
    go_loopw [8] (fun a8 wr => a8 = .int .i64 0 ∧ wr = w2) (fun _ _ => 0)
    case atStart => exact ⟨rfl, rfl⟩
    case round =>
      obtain ⟨rfl, rfl⟩ := hrel
      go_wp2
      go_ret
      obtain ⟨a, h1, h2, h3⟩ := HZ.out
      exact ⟨a, congrArg _ h1, h2 trivial, h3⟩
  · have e1 : ((rep s N 0).toArray.toList.take 0 ++ [.string s] ++ (rep s N 0).toArray.toList.drop (0 + [Value.string s].length)) = rep s N 1 := by
      have := rep_next s (N := N) (k := 0) (m := 1) (by omega)
      simpa using this
    have hcp := run_copy_row (P := Tryz.prog) w2 36 36 3 9 w'.heap.size 0 N N ⟨b, 0, none⟩ 1 1 (rep s N 0).toArray 9 [.string s] Tryz.underlying36 sz9 HG.out (by show 1 = min 1 N; omega)
      (fun j v hv => by
        cases j with
        | zero => rw [add_nn]; cases hv; exact hc2
        | succ j => simp at hv) (by simp [rep_len s (Nat.zero_le N)]; omega) (by simp [Value.oneCell'])
    rw [e1] at hcp
    have HG3 : Hid (Bx (w2.setRow w'.heap.size (rep s N 1).toArray) w'.heap.size 9 (rep s N 1).toArray) := setRow_heap w2 _ _ _ 9 _ HG.out
    have HB3 : Hid (Below w'.heap.size w' (w2.setRow w'.heap.size (rep s N 1).toArray)) := below_setRow HB2.out (Nat.le_refl _) _
    generalize w2.setRow w'.heap.size (rep s N 1).toArray = w3 at *
    clear HG HB2 hc2 e1
    go_wp2
    go_loopw [8] (fun a8 wr => ∃ k : Nat, (0 < k ∧ k ≤ N) ∧ a8 = .int .i64 (k : Int) ∧ Hid (Bx wr w'.heap.size 9 (rep s N k).toArray ∧ Below w'.heap.size w' wr)) (fun a8 _ => N + 1 - (intOf a8).toNat)
    case atStart => exact ⟨1, ⟨by omega, by omega⟩, rfl, HG3.out, HB3.out⟩
    case round =>
      obtain ⟨k, ⟨hk0, hkN⟩, rfl, HJ⟩ := hrel
      clear HG3 HB3
      by_cases hlt : k < N
      · have hd : decide ((k : Int) < (N : Int)) = true := decide_eq_true (by omega)
        have hne : ¬ N = k := by omega
        obtain ⟨m, hm⟩ : ∃ m, m = min k (N - k) := ⟨_, rfl⟩
        have hm0 : 0 < m ∧ k + m ≤ N ∧ m ≤ k := by omega
        have HM := hid_mk hm
        have hwr : IntKind.i64.wrap ((k : Int) + (m : Int)) = ((k + m : Nat) : Int) := by rw [IntKind.wrap_i64]; omega
        have hlen : (List.replicate m (Value.string s)).length = m := List.length_replicate
        have had : (⟨w'.heap.size, 0, none⟩ : Addr).add k = ⟨w'.heap.size, k, none⟩ := by rw [add_nn, Nat.zero_add]
        clear hm
        have hrx : Bx wr.drew w'.heap.size 9 (rep s N k).toArray := HJ.out.1
        have hcp := run_copy_row (P := Tryz.prog) wr.drew 36 36 3 9 w'.heap.size k (N - k) (N - k) ⟨w'.heap.size, 0, none⟩ k N (rep s N k).toArray 9 (List.replicate m (.string s)) Tryz.underlying36 sz9 hrx
          (by show _ = min k (N - k); rw [hlen]; exact HM.out)
          (fun j v hv => by
            rw [List.getElem?_replicate] at hv
            split at hv
            · cases hv
              rw [add_nn, Nat.zero_add]
              exact hrx.cell j _ (by simpa using rep_cell s (by omega))
            · cases hv)
          (by rw [hlen]; simp [rep_len s hkN]; omega) (fun v hv => by rw [(List.mem_replicate.1 hv).2]; rfl)
        have e1 : (rep s N k).toArray.toList.take k ++ List.replicate m (.string s) ++ (rep s N k).toArray.toList.drop (k + (List.replicate m (Value.string s)).length) = rep s N (k + m) := by
          rw [hlen]
          exact rep_next s hm0.2.1
        rw [e1, hlen] at hcp
        have HG4 : Hid (Bx (wr.drew.setRow w'.heap.size (rep s N (k + m)).toArray) w'.heap.size 9 (rep s N (k + m)).toArray ∧ Below w'.heap.size w' (wr.drew.setRow w'.heap.size (rep s N (k + m)).toArray)) := ⟨setRow_heap wr.drew _ _ _ 9 _ hrx, below_setRow HJ.out.2.drew (Nat.le_refl _) _⟩
        generalize wr.drew.setRow w'.heap.size (rep s N (k + m)).toArray = w4 at *
        have hcp : (Builtin.copy_ #[36, 36] 3 #[.slice (some ⟨w'.heap.size, k, none⟩) (N - k) (N - k), .slice (some ⟨w'.heap.size, 0, none⟩) k N]).run Tryz.prog wr.drew = .ok (.int .i64 (m : Int)) w4 := hcp
        clear hrx e1 hlen
        go_wp2_with fail
        go_region
        all_goals go_wp2
        all_goals exact ⟨⟨k + m, ⟨by omega, by omega⟩, rfl, HG4.out⟩, by simp [intOf]; omega⟩
      · have hd : decide ((k : Int) < (N : Int)) = false := decide_eq_false (by omega)
        have hke : k = N := by omega
        have HZ := hid_mk (HST.out wr k (by omega) HJ.out.1 HJ.out.2)
        clear HST HJ
        go_wp2
        go_ret
        obtain ⟨a, h1, h2, h3⟩ := HZ.out
        exact ⟨a, congrArg _ h1, h2 hke, h3⟩
end Go.Proofs.YtlhdapckenjigaaGreatDoor.S
