/- The table of signs, as it is laid. Trees of values, and the slices that hold them. gouacheref03.Same of two slices that hold the same tree. gouacheref03.some: values up to what closes them, whatever the tokens. gouacheref03.some: the walk. parse.read's helpers: closeOf, closes and its function, behind. -/
import Derived.Test.YtdibldcnklgcjaaGreatDoorLPw
import Derived.ProofKit
import Derived.OpenShut
import Derived.LaidMore
import Derived.Lib.LaidTab
import Derived.FnData
import Derived.Test.YtdibldcnklgcjaaGreatDoorLSe
import Derived.BigQuiet
import Derived.Deep.QuietTactic
import Derived.Deep.AppendLies
import Derived.Maps.AppendAt
import Derived.Deep.DeepCutAuto
import Derived.WalkSmall
import Derived.RangeFuncBox
import Derived.Deep.DeepMust
namespace Go.Proofs.YtdibldcnklgcjaaGreatDoor.L
open Go.ChangeShapes Go.WideShapes Go.ChangeAt Go.RowKit
set_option maxRecDepth 100000

theorem head_of {a b : Value} (h : [a] = [b]) : a = b := by simpa using h
theorem k3 : Tryz.prog.cellsOf 3 = 1 := by kernel_rfl
theorem k9 : Tryz.prog.cellsOf 9 = 1 := by kernel_rfl
theorem k154 : Tryz.prog.cellsOf 141 = 3 := by kernel_rfl
theorem k155 : Tryz.prog.cellsOf 142 = 45 := by kernel_rfl
theorem chunks : ∀ (n : Nat) (a b : List Value), a.length = 3 * n → b.length = 3 * n → (∀ i, i < n → (a.drop (i * 3)).take 3 = (b.drop (i * 3)).take 3) → a = b
  | 0, a, b, ha, hb, _ => by rw [List.length_eq_zero_iff.1 (by omega : a.length = 0), List.length_eq_zero_iff.1 (by omega : b.length = 0)]
  | n + 1, a, b, ha, hb, h => by
    have h0 := h 0 (by omega)
    rw [Nat.zero_mul, List.drop_zero, List.drop_zero] at h0
    have ih := chunks n (a.drop 3) (b.drop 3) (by rw [List.length_drop]; omega) (by rw [List.length_drop]; omega) fun i hi => by
      have := h (i + 1) (by omega)
      rw [List.drop_drop, List.drop_drop, show 3 + i * 3 = (i + 1) * 3 by omega]
      exact this
    rw [← List.take_append_drop 3 a, ← List.take_append_drop 3 b, h0, ih]
section
variable {H : Type} {enc : TypeId × Value → H} {W : World} {base : Nat} {sp : Nat → Bool} {held : Bool}
theorem row3 {m : Nat} {cs : List Value} {a b : Int} {s : List UInt8} {p : List MemPlace} (hf : DataW.trod enc Tryz.prog W base sp held m 141 cs = some (.agg [.lit (.int .i64 a), .lit (.int .i64 b), .lit (.string s)], p)) (hl : cs.length = 3) : cs = [.int .i64 a, .int .i64 b, .string ⟨s.toArray⟩] := by
  obtain ⟨y0, y1, y2, rfl⟩ : ∃ y0 y1 y2, cs = [y0, y1, y2] := by
    match cs, hl with
    | [a, b, c], _ => exact ⟨a, b, c, rfl⟩
  obtain ⟨xs, n, hmn, hx, hl2, hxl, hel⟩ := DataW.trod_struct Tryz.underlying141 hf
  have h0 := hel 0 _ rfl
  have h1 := hel 1 _ rfl
  have h2 := hel 2 _ rfl
  have hxl3 : xs.length = 3 := hxl
  obtain ⟨x0, x1, x2, rfl⟩ : ∃ x0 x1 x2, xs = [x0, x1, x2] := by
    match xs, hxl3 with
    | [a, b, c], _ => exact ⟨a, b, c, rfl⟩
  obtain ⟨k, a0, b0, _⟩ := DataW.trod_int Tryz.underlying3 h0
  obtain ⟨l, a1, b1, _⟩ := DataW.trod_int Tryz.underlying3 h1
  obtain ⟨nm, a2, b2, _⟩ := DataW.trod_string Tryz.underlying9 h2
  have e0 : y0 = .int .i64 k := head_of (by rw [← a0]; show _ = List.take (Tryz.prog.cellsOf 3) _; rw [k3]; rfl)
  have e1 : y1 = .int .i64 l := head_of (by rw [← a1]; show _ = List.take (Tryz.prog.cellsOf 3) _; rw [k3]; rfl)
  have e2 : y2 = .string nm := head_of (by rw [← a2]; show _ = List.take (Tryz.prog.cellsOf 9) _; rw [k9]; rfl)
  have hx1 := congrArg Prod.fst hx
  simp only [List.map_cons, List.map_nil] at hx1
  subst b0 b1 b2
  simp only [DataW.agg.injEq, List.cons.injEq, DataW.lit.injEq, Lit.int.injEq, Lit.string.injEq, true_and, and_true] at hx1
  obtain ⟨g0, g1, g2⟩ := hx1
  rw [e0, e1, e2, g0, g1, g2]
end
theorem sgn_len : sgnC.length = 45 := rfl
theorem signs_of {W : World} {fuel : Nat} {cs : List Value} {p : List MemPlace} (h : DataW.trod (fun _ => ()) Tryz.prog W 0 (fun _ => true) false fuel 142 cs = some (Rows.laid_gouache_selector_signs, p)) : cs = sgnC := by
  obtain ⟨xs, m, _, hx, hl, hxl, hel⟩ := DataW.trod_array Tryz.underlying142 h
  rw [k155] at hl
  have hx1 := congrArg Prod.fst hx
  simp only [] at hx1
  have hx2 : ∀ i (hi : i < xs.length), some ((xs[i]'hi).1) = (xs.map (·.1))[i]? := fun i hi => by rw [List.getElem?_map, List.getElem?_eq_getElem hi]; rfl
  unfold Rows.laid_gouache_selector_signs at hx1
  injection hx1 with hx1
  refine chunks 15 cs sgnC hl sgn_len fun i hi => ?_
  have h1 := hel i hi
  rw [k154, List.getElem?_eq_getElem (by omega)] at h1
  have h2 := hx2 i (by omega)
  rw [← hx1] at h2
  have hcl : ((cs.drop (i * 3)).take 3).length = 3 := by rw [List.length_take, List.length_drop, hl]; omega
  obtain ⟨⟨xd, xp⟩, hxi⟩ : ∃ y, y = xs[i]'(by omega) := ⟨_, rfl⟩
  rw [← hxi] at h1 h2
  simp only [] at h2
  have hc : i = 0 ∨ i = 1 ∨ i = 2 ∨ i = 3 ∨ i = 4 ∨ i = 5 ∨ i = 6 ∨ i = 7 ∨ i = 8 ∨ i = 9 ∨ i = 10 ∨ i = 11 ∨ i = 12 ∨ i = 13 ∨ i = 14 := by omega
  clear hxi
  rcases hc with rfl | rfl | rfl | rfl | rfl | rfl | rfl | rfl | rfl | rfl | rfl | rfl | rfl | rfl | rfl
  all_goals
    have h3 := Option.some.inj h2
    subst h3
    exact row3 h1 hcl
def laid3 : List (String × DataW Unit) := [("unicode/utf8.acceptRanges", Rows.laid_unicode_utf8_acceptRanges), ("gouache/selector.signs", Rows.laid_gouache_selector_signs), ("unicode/utf8.first", Rows.laid_unicode_utf8_first)]
theorem gsg : Tryz.prog.globalNamed "gouache/selector.signs" = some 1 := by kernel_rfl
theorem tsg : (Tryz.prog.globals[1]?).map (·.type) = some 142 := by kernel_rfl
theorem of_laid {W : World} (h : laidMetH Tryz.prog laid3 W) : Signs W := by
  rw [MakeChecks.laidMetH_plain _ _ _ (by kernel_rfl)] at h
  obtain ⟨ps, ⟨g0, t0, cs0, f0, p0, q0, hg0, ht0, hv0, hd0, ⟨g1, t1, cs1, f1, p1, q1, hg1, ht1, hv1, hd1, _, _⟩, _⟩, _, _⟩ := h
  obtain rfl := Option.some.inj (gsg.symm.trans hg1)
  obtain rfl := Option.some.inj (tsg.symm.trans ht1)
  have e := signs_of hd1
  intro j v hv
  have := World.var?_cell gsg hv1 j
  rw [Nat.zero_add]
  refine this.trans ?_
  rw [← e] at hv
  simpa using hv
end Go.Proofs.YtdibldcnklgcjaaGreatDoor.L
namespace Go.Proofs.YtdibldcnklgcjaaGreatDoor.Y
open Go.RowKit
open Go.Proofs.YtdibldcnklgcjaaGreatDoor.L (T5 V VsAt t5Cells vCells cell_of_heap)
set_option maxRecDepth 100000

end Go.Proofs.YtdibldcnklgcjaaGreatDoor.Y
namespace Go.Proofs.YtdibldcnklgcjaaGreatDoor.Y
open Go.RowKit
open Go.Proofs.YtdibldcnklgcjaaGreatDoor.L (T5 V VsAt t5Cells vCells cell_of_heap)
set_option maxRecDepth 100000

theorem below_drewN5 (B : Nat) (w : World) (n : Nat) : Below B w (w.drewN n) := ⟨rfl, rfl, rfl, Nat.le_refl _, fun _ _ => rfl⟩
end Go.Proofs.YtdibldcnklgcjaaGreatDoor.Y
namespace Go.Proofs.YtdibldcnklgcjaaGreatDoor.Y
open Go.RowKit
open Go.Proofs.YtdibldcnklgcjaaGreatDoor.L (T5 V VsAt t5Cells vCells cell_of_heap)
set_option maxRecDepth 100000

theorem hid_mk {p : Prop} (h : p) : Hid p := h
theorem ownsRow_below {w w' : World} {B : Nat} {e : TypeId} {size : Nat} {v : Value} {n : Nat} {xs : List Value} (h : w.ownsRow B e size v n xs) (hb : Below w.heap.size w w') : w'.ownsRow B e size v n xs := by
  refine ⟨h.1, h.2.imp id ?_⟩
  rintro ⟨g, cap, cur, e1, h1, h2, h3⟩
  exact ⟨g, cap, cur, e1, h1, (hb.block g (Array.getElem?_eq_some_iff.1 h2).1).trans h2, h3⟩
/-- The slice holds the tokens. -/
def TsAt (W : World) (v : Value) (ts : List T5) : Prop :=
  ∃ a cap, v = .slice a ts.length cap ∧ ts.length ≤ cap ∧ cap ≤ 9223372036854775807 ∧ (0 < ts.length → ∃ b off, a = some ⟨b, off, none⟩ ∧ b < W.heap.size ∧ ∀ i (h : i < ts.length), ∀ j y, (t5Cells (ts[i]'h))[j]? = some y → W.cell? ⟨b, off + i * 5 + j, none⟩ = some y)
theorem TsAt.keep {W W' : World} (hb : Below W.heap.size W W') {v : Value} {ts : List T5} (h : TsAt W v ts) : TsAt W' v ts := by
  obtain ⟨a, cap, hv, h1, h2, h3⟩ := h
  refine ⟨a, cap, hv, h1, h2, fun h0 => ?_⟩
  obtain ⟨b, off, ha, hlt, hc⟩ := h3 h0
  exact ⟨b, off, ha, Nat.lt_of_lt_of_le hlt hb.size, fun i h j y hy => (hb.cell (p := ⟨b, off + i * 5 + j, none⟩) hlt).trans (hc i h j y hy)⟩
theorem TsAt.nil (W : World) : TsAt W (.slice none 0 0) [] := ⟨none, 0, rfl, Nat.le_refl _, by decide, fun h => absurd h (by simp)⟩
/-- The kind that closes what a kind opens; 0: it opens nothing. -/
def closeZ (k : Int) : Int := if k = 19 then 20 else if k = 21 ∨ k = 2 then 22 else if k = 23 then 24 else 0
/-- The document's values of tokens. -/
def someZ : Nat → List T5 → Int → Int → List V × List T5
  | 0, _, _, _ => ([], [])
  | _ + 1, [], _, _ => ([], [])
  | f + 1, t :: r, c, n =>
    if c ≠ 0 ∧ t.k = c then ([], r)
    else if closeZ t.k = 0 then (V.mk t [] :: (someZ f r c n).1, (someZ f r c n).2)
    else if 64 < n + 1 then someZ f (someZ f r (closeZ t.k) (n + 1)).2 c n
    else (V.mk t (someZ f r (closeZ t.k) (n + 1)).1 :: (someZ f (someZ f r (closeZ t.k) (n + 1)).2 c n).1, (someZ f (someZ f r (closeZ t.k) (n + 1)).2 c n).2)
theorem some_len : ∀ (f : Nat) (l : List T5) (c n : Int), (someZ f l c n).2.length ≤ l.length
  | 0, l, _, _ => by simp [someZ]
  | _ + 1, [], _, _ => by simp [someZ]
  | f + 1, t :: r, c, n => by
    have h1 := some_len f r c n
    have h2 := some_len f r (closeZ t.k) (n + 1)
    have h3 := some_len f (someZ f r (closeZ t.k) (n + 1)).2 c n
    rw [someZ]
    repeat' split
    all_goals simp only [List.length_cons]
    all_goals omega
/-- A row of values of one's own, with what is within each, which lies outside of it: an append may write the row's own block in place. -/
def Row (P : Nat → Prop) (B : Nat) (w : World) (out : Value) (ps : List (T5 × Value × List V)) : Prop :=
  w.ownsRow B 97 6 out ps.length (ps.flatMap fun p => vCells p.1 p.2.1) ∧ (∀ g, out.ownBlock = some g → P g) ∧ ∀ p ∈ ps, VsAt (fun b => P b ∧ out.ownBlock ≠ some b) w p.2.1 p.2.2
def mkV (p : T5 × Value × List V) : V := V.mk p.1 p.2.2
theorem flat_at : ∀ (ps : List (T5 × Value × List V)) (k i : Nat) (h : k < ps.length), i < 6 → (ps.flatMap fun p => vCells p.1 p.2.1)[k * 6 + i]? = (vCells (ps[k]'h).1 (ps[k]'h).2.1)[i]?
  | [], k, _, h, _ => by simp at h
  | t :: r, 0, i, _, hi => by
    simp only [List.flatMap_cons, Nat.zero_mul, Nat.zero_add]
    rw [List.getElem?_append_left (by simpa [vCells] using hi)]
    rfl
  | t :: r, k + 1, i, h, hi => by
    have e : (k + 1) * 6 + i = 6 + (k * 6 + i) := by omega
    rw [List.flatMap_cons, e, List.getElem?_append_right (by simp [vCells])]
    have e2 : 6 + (k * 6 + i) - (vCells t.1 t.2.1).length = k * 6 + i := by simp [vCells]
    rw [e2]
    exact flat_at r k i (by simpa using h) hi
theorem Row.vals {P : Nat → Prop} {B : Nat} {w : World} {out : Value} {ps : List (T5 × Value × List V)} (h : Row P B w out ps) : VsAt P w out (ps.map mkV) := by
  have hl : (ps.map mkV).length = ps.length := List.length_map ..
  have hg : ∀ i (hi : i < (ps.map mkV).length), (ps.map mkV)[i]'hi = mkV (ps[i]'(by omega)) := fun i hi => List.getElem_map ..
  refine VsAt.own (B := B) (kv := fun i => match ps[i]? with | some p => p.2.1 | none => .slice none 0 0) (cs := ps.flatMap fun p => vCells p.1 p.2.1) (by rw [hl]; exact h.1) h.2.1 ?_ ?_
  · intro i hi j y hy
    have hi' : i < ps.length := by omega
    have hj : j < 6 := by
      have := (List.getElem?_eq_some_iff.1 hy).1
      simpa [vCells] using this
    rw [flat_at ps i j hi' hj, ← hy, hg i hi]
    simp only [List.getElem?_eq_getElem hi']
    rfl
  · intro i hi
    have hi' : i < ps.length := by omega
    rw [hg i hi]
    simp only [List.getElem?_eq_getElem hi']
    exact (h.2.2 _ (List.getElem_mem hi')).wider (fun b hb _ => hb.1)
theorem Row.keep {P : Nat → Prop} {B : Nat} {w w' : World} {out : Value} {ps : List (T5 × Value × List V)} (h : Row P B w out ps) (hb : Below w.heap.size w w') : Row P B w' out ps := ⟨ownsRow_below h.1 hb, h.2.1, fun p hp => VsAt.keep hb (h.2.2 p hp)⟩
/-- One value more, by an append that may write the row in place or move it. -/
theorem Row.push {P : Nat → Prop} {B : Nat} {w w' : World} {o : Obj} {out v' : Value} {ps : List (T5 × Value × List V)} {t : T5} {kid : Value} {kids : List V} (h : Row P B w out ps) (hk : VsAt (fun b => P b ∧ out.ownBlock ≠ some b) w kid kids)
    (hown : w'.ownsRow B 97 6 v' (ps.length + 1) ((ps.flatMap fun p => vCells p.1 p.2.1) ++ vCells t kid)) (hg : (w.alloc o).grownBy w' out.ownBlock) (hat : v'.ownBlock = out.ownBlock ∨ v'.ownBlock = some (w.alloc o).heap.size) (hP : P (w.alloc o).heap.size) : Row P B w' v' (ps ++ [(t, kid, kids)]) := by
  have hs : (w.alloc o).heap.size = w.heap.size + 1 := by simp
  have keep : ∀ {x : Value} {xs : List V}, VsAt (fun b => P b ∧ out.ownBlock ≠ some b) w x xs → VsAt (fun b => P b ∧ v'.ownBlock ≠ some b) w' x xs := by
    intro x xs hx
    have h1 : VsAt (fun b => (P b ∧ out.ownBlock ≠ some b) ∧ v'.ownBlock ≠ some b) w x xs := hx.wider (fun b hb hlt => ⟨hb, by
      rcases hat with e | e
      · rw [e]; exact hb.2
      · rw [e, hs]
        intro e2
        have := Option.some.inj e2
        omega⟩)
    have h2 := h1.stay (W' := w') (by have := hg.size; omega) (fun b hb hlt => by
      rw [hg.block b (by omega) (fun e => hb.1.2 e.symm)]
      exact Below.heap_alloc w o b hlt)
    exact h2.wider (fun b hb _ => ⟨hb.1.1, hb.2⟩)
  refine ⟨?_, ?_, ?_⟩
  · rw [List.length_append, List.flatMap_append, List.flatMap_singleton]
    exact hown
  · intro g hgo
    rcases hat with e | e
    · exact h.2.1 g (e.symm.trans hgo)
    · rw [e] at hgo
      cases hgo
      exact hP
  · intro p hp
    rcases List.mem_append.1 hp with hp | hp
    · exact keep (h.2.2 p hp)
    · rw [List.mem_singleton.1 hp]
      exact keep hk

end Go.Proofs.YtdibldcnklgcjaaGreatDoor.Y
namespace Go.Proofs.YtdibldcnklgcjaaGreatDoor.Y
open Go.RowKit
open Go.Proofs.YtdibldcnklgcjaaGreatDoor.L (T5 V VsAt t5Cells vCells cell_of_heap)
set_option maxRecDepth 100000

def sliceLen : Value → Nat
  | .slice _ n _ => n
  | _ => 0
theorem Tryz.info97 : (Tryz.prog.info? 97).map (fun i => (i.zero, i.size, i.bytes)) = some (some (.agg #[.int .i64 0, .string ⟨#[]⟩, .string ⟨#[]⟩, .bool false, .bool false, .slice none 0 0]), 6, 72) := by kernel_rfl
theorem news6 (w : World) (x0 x1 x2 x3 x4 x5 : Value) (j : Nat) (u : Value) (h : [x0, x1, x2, x3, x4, x5][j]? = some u) : (w.alloc (.cells #[x0, x1, x2, x3, x4, x5] 97)).cell? ((⟨w.heap.size, 0, none⟩ : Addr).add j) = some u :=
  World.news_of_block (cs := #[x0, x1, x2, x3, x4, x5]) (t := 97) (fr := (0, 0)) (heap_alloc_new w _) j u h
theorem addr_eq {b o o' : Nat} (h : o = o') : (⟨b, o, none⟩ : Addr) = ⟨b, o', none⟩ := by subst h; rfl
/-- The tokens behind the first, by a slice of the same memory. -/
theorem TsAt.tail {W : World} {b off c : Nat} {t : T5} {r : List T5} (h : TsAt W (.slice (some ⟨b, off, none⟩) (r.length + 1) c) (t :: r)) (a' : Addr) (ha : 0 < r.length → a' = ⟨b, off + 5, none⟩) : TsAt W (.slice (some a') r.length (c - 1)) r := by
  obtain ⟨a, c', hv, h1, h2, h3⟩ := h
  have e1 : a = some ⟨b, off, none⟩ := by injection hv with x y z; exact x.symm
  have e2 : c' = c := by injection hv with x y z; exact z.symm
  subst e1 e2
  rw [List.length_cons] at h1
  refine ⟨_, _, rfl, by omega, by omega, fun h0 => ?_⟩
  obtain ⟨b', off', ha', hlt, hc⟩ := h3 (by simp)
  cases ha'
  refine ⟨b, off + 5, congrArg some (ha h0), hlt, fun i hi j y hy => ?_⟩
  have := hc (i + 1) (by simp; omega) j y hy
  rw [show off + 5 + i * 5 + j = off + (i + 1) * 5 + j by omega]
  exact this
theorem someZ_nil (g : Nat) (c n : Int) : someZ g [] c n = ([], []) := by cases g <;> rfl
theorem pair_cat {α β : Type} {x : List α × β} {ps : List α} {y z : List α × β} (h : x = (ps ++ y.1, y.2)) (e : y = z) : x = (ps ++ z.1, z.2) := by rw [h, e]

theorem tok6 {W : World} {B : Nat} {x0 x1 x2 x3 x4 x5 : Value} (h : W.heap[B]? = some (.cells #[x0, x1, x2, x3, x4, x5] 97 (0, 0))) :
    W.cell? ⟨B, 0, none⟩ = some x0 ∧ W.cell? ⟨B, 1, none⟩ = some x1 ∧ W.cell? ⟨B, 2, none⟩ = some x2 ∧ W.cell? ⟨B, 3, none⟩ = some x3 ∧ W.cell? ⟨B, 4, none⟩ = some x4 ∧ W.cell? ⟨B, 5, none⟩ = some x5 := by
  refine ⟨?_, ?_, ?_, ?_, ?_, ?_⟩ <;> simp [World.cell?, h]

theorem tok6f {W : World} {B : Nat} {x0 x1 x2 x3 x4 x5 : Value} (h : W.heap[B]? = some (.cells #[x0, x1, x2, x3, x4, x5] 97 (0, 0))) : W.frozen? ⟨B, 5, none⟩ = false := by
  simp [World.frozen?, h]
/-- Behind the store of what is within. -/
theorem opened {P0 : Nat} {W wr WA w1 : World} {u8 : Value} {ps : List (T5 × Value × List V)} {x0 x1 x2 x3 x4 x5 : Value} {kv : Value} {kids : List V} (hrow : Row (fun b => P0 ≤ b) P0 wr u8 ps) (hB : Below P0 W wr) (hAW : Below wr.heap.size wr WA) (hb1 : Below WA.heap.size WA w1)
    (hx : WA.heap[wr.heap.size + 1]? = some (.cells #[x0, x1, x2, x3, x4, x5] 97 (0, 0))) (hk : VsAt (fun b => WA.heap.size ≤ b) w1 kv kids) (hP : P0 ≤ wr.heap.size) :
    Row (fun b => P0 ≤ b) P0 (w1.setCell ⟨wr.heap.size + 1, 5, none⟩ kv) u8 ps ∧ Below P0 W (w1.setCell ⟨wr.heap.size + 1, 5, none⟩ kv) ∧ (w1.setCell ⟨wr.heap.size + 1, 5, none⟩ kv).heap[wr.heap.size + 1]? = some (.cells #[x0, x1, x2, x3, x4, kv] 97 (0, 0)) ∧ VsAt (fun b => P0 ≤ b ∧ u8.ownBlock ≠ some b) (w1.setCell ⟨wr.heap.size + 1, 5, none⟩ kv) kv kids := by
  have hlt : wr.heap.size + 1 < WA.heap.size := (Array.getElem?_eq_some_iff.1 hx).1
  have h1 : Below wr.heap.size wr (w1.setCell ⟨wr.heap.size + 1, 5, none⟩ kv) := (hAW.trans (hb1.mono hAW.size)).setCell (p := ⟨wr.heap.size + 1, 5, none⟩) (by show wr.heap.size ≤ wr.heap.size + 1; omega) kv
  have hx1 := (hb1.block _ hlt).trans hx
  refine ⟨hrow.keep h1, hB.trans (h1.mono hP), ?_, ?_⟩
  · have := heap_setCell_same w1 (wr.heap.size + 1) 5 #[x0, x1, x2, x3, x4, x5] 97 kv hx1
    rw [this]
    rfl
  · have h2 := hk.stay (W' := w1.setCell ⟨wr.heap.size + 1, 5, none⟩ kv) (by simp) (fun b hb _ => Below.heap_setCell w1 ⟨wr.heap.size + 1, 5, none⟩ kv b (by show b ≠ wr.heap.size + 1; omega))
    refine h2.wider (fun b hb _ => ⟨by have := hAW.size; omega, fun e => ?_⟩)
    have := (hrow.1.lt b e).2
    have := hAW.size
    omega
end Go.Proofs.YtdibldcnklgcjaaGreatDoor.Y
namespace Go.Proofs.YtdibldcnklgcjaaGreatDoor.Y
open Go.RowKit
open Go.Proofs.YtdibldcnklgcjaaGreatDoor.L (T5 V VsAt t5Cells vCells cell_of_heap)
set_option maxRecDepth 100000

set_option maxHeartbeats 400000 in
theorem closeOf_any (k : Int) (w : World) : Calls Tryz.prog 41 #[.int .i64 k] w fun e w' => e = .returned (.int .i64 (closeZ k)) ∧ w = w' := by
  have HZ : ∀ (p q r s : Bool), p = (k == 19) → q = (k == 21) → r = (k == 2) → s = (k == 23) → Calls Tryz.prog 41 #[.int .i64 k] w fun e w' => e = .returned (.int .i64 (closeZ k)) ∧ w = w' := by
    intro p q r s z1 z2 z3 z4
    have HV : Hid (closeZ k = if p then 20 else if q || r then 22 else if s then 24 else 0) := by
      show _ = _
      unfold closeZ
      rw [z1, z2, z3, z4]
      simp
    have y1 := z1.symm
    have y2 := z2.symm
    have y3 := z3.symm
    have y4 := z4.symm
    clear z1 z2 z3 z4
    cases p <;> cases q <;> cases r <;> cases s
    all_goals
      go_enter Tryz.func41, Tryz.ntmps41
      go_wp2
      go_ret
      exact ⟨by rw [HV.out]; rfl, rfl⟩
  exact HZ _ _ _ _ rfl rfl rfl rfl
set_option maxHeartbeats 400000 in
theorem ends0_any (cs : Array Value) (w : World) : Calls Tryz.prog 18 #[.agg cs] w fun e w' => e = .returned (.bool false) ∧ Below w.heap.size w w' := by
  go_enter Tryz.func18, Tryz.ntmps18
  go_wp2
  go_ret
  exact ⟨rfl, (Below.refl _ w).alloc (Nat.le_refl _) _⟩
set_option maxHeartbeats 400000 in
theorem ends1_any (k c : Int) (tx un : ByteArray) (wh fl : Bool) (w : World) (B : Nat) (h : w.heap[B]? = some (.cells #[.int .i64 c] 3 (0, 0))) :
    Calls Tryz.prog 72 #[.agg #[.int .i64 k, .string tx, .string un, .bool wh, .bool fl], .pointer (some ⟨B, 0, none⟩)] w fun e w' => e = .returned (.bool (k == c)) ∧ Below w.heap.size w w' := by
  have hlt : B < w.heap.size := (Array.getElem?_eq_some_iff.1 h).1
  have hc : w.cell? ⟨B, 0, none⟩ = some (.int .i64 c) := by simp [World.cell?, h]
  clear h
  go_enter Tryz.func72, Tryz.ntmps72
  go_wp2
  go_ret
  exact ⟨rfl, (Below.refl _ w).alloc (Nat.le_refl _) _⟩
set_option maxHeartbeats 400000 in
theorem closes_any (k : Int) (tx un : ByteArray) (wh fl : Bool) (w : World) :
    Calls Tryz.prog 43 #[.agg #[.int .i64 k, .string tx, .string un, .bool wh, .bool fl]] w fun e w' => ∃ B, e = .returned (.func (.func 72) #[] #[.pointer (some ⟨B, 0, none⟩)]) ∧ w.heap.size ≤ B ∧ w'.heap[B]? = some (.cells #[.int .i64 (closeZ k)] 3 (0, 0)) ∧ Below w.heap.size w w' := by
  have hco := fun w => closeOf_any k w
  generalize closeZ k = c at *
  have hal : ∀ o o', Below w.heap.size w ((w.alloc o).alloc o') := fun o o' => ((Below.refl _ w).alloc (Nat.le_refl _) o).alloc (by simp) o'
  have hbl : ∀ o o', ((w.alloc o).alloc o').heap[w.heap.size + 1]? = some o' := fun o o' => by
    have := heap_alloc_new (w.alloc o) o'
    rwa [show (w.alloc o).heap.size = w.heap.size + 1 by simp] at this
  go_enter Tryz.func43, Tryz.ntmps43
  go_wp2_with (go_at_call 41; refine (hco _).mono ?_; rintro e w1 ⟨rfl, rfl⟩)
  go_ret
  exact ⟨_, rfl, by omega, hbl _ _, hal _ _⟩
theorem Tryz.info3 : (Tryz.prog.info? 3).map (fun i => (i.zero, i.size, i.bytes)) = some (some (.int .i64 0), 1, 8) := by kernel_rfl
/-- The tokens behind all that is open, the innermost first. -/
def runS : List Int → List T5 → List T5
  | [], l => l
  | _ :: _, [] => []
  | c :: s, t :: r => if t.k = c then runS s r else if closeZ t.k = 0 then runS (c :: s) r else runS (closeZ t.k :: c :: s) r
termination_by _ l => l.length
theorem runS_nil (s : List Int) : runS s [] = [] := by cases s <;> simp [runS]
theorem runS_some : ∀ (f : Nat) (l : List T5), l.length ≤ f → ∀ (c n : Int) (s : List Int), c ≠ 0 → runS (c :: s) l = runS s (someZ f l c n).2
  | f, [], _, c, n, s, _ => by rw [runS_nil, someZ_nil, runS_nil]
  | 0, t :: r, h, c, n, s, _ => by simp at h
  | f + 1, t :: r, h, c, n, s, hc => by
    rw [List.length_cons] at h
    rw [runS, someZ]
    by_cases h1 : t.k = c
    · rw [if_pos h1, if_pos ⟨hc, h1⟩]
    · rw [if_neg h1, if_neg (show ¬ (c ≠ 0 ∧ t.k = c) from fun e => h1 e.2)]
      by_cases h2 : closeZ t.k = 0
      · rw [if_pos h2, if_pos h2]
        exact runS_some f r (by omega) c n s hc
      · have hl := some_len f r (closeZ t.k) (n + 1)
        rw [if_neg h2, if_neg h2, runS_some f r (by omega) (closeZ t.k) (n + 1) (c :: s) h2, runS_some f _ (by omega) c n s hc]
        by_cases h3 : 64 < n + 1
        · rw [if_pos h3]
        · rw [if_neg h3]

theorem TsAt.drop {W : World} {b off n c : Nat} {ts : List T5} (h : TsAt W (.slice (some ⟨b, off, none⟩) n c) ts) (k : Nat) (hk : k ≤ ts.length) (a' : Addr) (ha : k < ts.length → a' = ⟨b, off + k * 5, none⟩) : TsAt W (.slice (some a') (n - k) (c - k)) (ts.drop k) := by
  obtain ⟨a, c', hv, h1, h2, h3⟩ := h
  have e1 : a = some ⟨b, off, none⟩ := by injection hv with x y z; exact x.symm
  have e2 : c' = c := by injection hv with x y z; exact z.symm
  have e3 : n = ts.length := by injection hv with x y z
  subst e1 e2 e3
  have hl : (ts.drop k).length = ts.length - k := List.length_drop
  refine ⟨_, c' - k, by rw [hl], by omega, by omega, fun h0 => ?_⟩
  obtain ⟨b', off', ha', hlt, hc⟩ := h3 (by omega)
  cases ha'
  refine ⟨b, off + k * 5, congrArg some (ha (by omega)), hlt, fun i hi j y hy => ?_⟩
  have := hc (k + i) (by omega) j y (by rw [← hy]; simp)
  rw [show off + k * 5 + i * 5 + j = off + (k + i) * 5 + j by omega]
  exact this
set_option maxHeartbeats 1000000 in
theorem behind_any (ts : List T5) (W0 W : World) (v : Value) (hv : TsAt W0 v ts) (hW0 : Below W0.heap.size W0 W) (k : Int) (tx un : ByteArray) (wh fl : Bool) (hn : ts.length ≤ 100000) :
    Calls Tryz.prog 42 #[v, .agg #[.int .i64 k, .string tx, .string un, .bool wh, .bool fl]] W fun e w' => ∃ rest, e = .returned rest ∧ TsAt W0 rest (runS [closeZ k] ts) ∧ Below W.heap.size W w' := by
  have hco := fun w => closeOf_any k w
  generalize closeZ k = c at *
  have HV := hid_mk hv
  obtain ⟨a, cap, rfl, hl, hcap, hxx⟩ := hv
  go_enter Tryz.func42, Tryz.ntmps42
  go_wp2_with (go_at_call 41; refine (hco _).mono ?_; rintro e w1 ⟨rfl, rfl⟩)
  have HI : Hid (((W.alloc (.cells #[.int .i64 k, .string tx, .string un, .bool wh, .bool fl] 69)).alloc (.cells #[.int .i64 c] 3)).ownsRow W.heap.size 3 1 (.slice (some ⟨W.heap.size + 1, 0, none⟩) 1 1) 1 [.int .i64 c]) := by
    have := World.ownsRow_lit (base := W.heap.size) (e := 3) (size := 1) (W.alloc (.cells #[.int .i64 k, .string tx, .string un, .bool wh, .bool fl] 69)) #[.int .i64 c] 1 (by simp) (by decide) rfl
    rwa [show (W.alloc (.cells #[.int .i64 k, .string tx, .string un, .bool wh, .bool fl] 69)).heap.size = W.heap.size + 1 by simp] at this
  have HB : Hid (Below W.heap.size W ((W.alloc (.cells #[.int .i64 k, .string tx, .string un, .bool wh, .bool fl] 69)).alloc (.cells #[.int .i64 c] 3))) := ((Below.refl _ W).alloc (Nat.le_refl _) _).alloc (by simp) _
  go_loopw [5, 16] (fun a5 a16 wr => ∃ (i : Nat) (ss : List Int) (c' : Int), i ≤ ts.length ∧ a16 = .int .i64 (i : Int) ∧ wr.ownsRow W.heap.size 3 1 a5 (ss.length + 1) ((ss ++ [c']).map (Value.int .i64)) ∧ ss.length ≤ i ∧ runS [c] ts = runS (c' :: ss.reverse) (ts.drop i) ∧ Below W.heap.size W wr) (fun _ a16 _ => ts.length + 1 - (intOf a16).toNat)
  case atStart => exact ⟨0, [], c, Nat.zero_le _, rfl, HI.out, Nat.zero_le _, rfl, HB.out⟩
  case round =>
    obtain ⟨i, ss, c', hi, rfl, hown, hss, hE, hB⟩ := hrel
    clear HI HB hco
    by_cases hlt : i < ts.length
    · obtain ⟨g, rcap, rfl⟩ := ownsRow_succ hown
      obtain ⟨b, off, rfl, hbw, hcell⟩ := hxx (by omega)
      have hq := fun j y hy => ((hW0.trans (hB.mono hW0.size)).cell (p := ⟨b, off + i * 5 + j, none⟩) hbw).trans (hcell i hlt j y hy)
      have hdr : ts.drop i = ts[i]'hlt :: ts.drop (i + 1) := List.drop_eq_getElem_cons hlt
      rw [hdr] at hE
      clear hdr
      generalize ts[i]'hlt = t at *
      obtain ⟨tk, ttx, tun, twh, tfl⟩ := t
      have q0 : wr.cell? ⟨b, off + i * 5, none⟩ = some (.int .i64 tk) := hq 0 _ rfl
      have q1 : wr.cell? ⟨b, off + i * 5 + 1, none⟩ = some (.string ttx) := hq 1 _ rfl
      have q2 : wr.cell? ⟨b, off + i * 5 + 2, none⟩ = some (.string tun) := hq 2 _ rfl
      have q3 : wr.cell? ⟨b, off + i * 5 + 3, none⟩ = some (.bool twh) := hq 3 _ rfl
      have q4 : wr.cell? ⟨b, off + i * 5 + 4, none⟩ = some (.bool tfl) := hq 4 _ rfl
      have hlt2 := (hown.lt g rfl).2
      have hbw2 : b < wr.heap.size := Nat.lt_of_lt_of_le hbw (Nat.le_trans hW0.size hB.size)
      have hrc : wr.cell? ⟨g, ss.length, none⟩ = some (.int .i64 c') := by
        rw [hown.cellAt ss.length (by omega)]
        simp
      have hbs := hB.size
      have hrm : ss.length + 1 ≤ rcap ∧ rcap ≤ 9223372036854775807 := by
        rcases hown.2 with ⟨h, _⟩ | ⟨_, _, _, h, _, _, h1, h2, _⟩
        · cases h
        · cases h
          exact ⟨h1, h2⟩
      obtain ⟨hr1, hr2⟩ := hrm
      have HBA : Hid (∀ o, Below W.heap.size W (wr.alloc o)) := fun o => hB.alloc hbs o
      have HTD : Hid (∀ a' n' d', n' = ts.length - (i + 1) → d' = cap - (i + 1) → (i + 1 < ts.length → a' = ⟨b, off + (i + 1) * 5, none⟩) → TsAt W0 (.slice (some a') n' d') (ts.drop (i + 1))) := by
        rintro a' n' d' rfl rfl h
        exact HV.out.drop (i + 1) (by omega) a' h
      have HOWN := hid_mk hown
      have HE : Hid (runS [c] ts = if tk = c' then runS ss.reverse (ts.drop (i + 1)) else if closeZ tk = 0 then runS (c' :: ss.reverse) (ts.drop (i + 1)) else runS (closeZ tk :: c' :: ss.reverse) (ts.drop (i + 1))) := by
        show _ = _
        rw [hE, runS]
      clear hq hcell hxx hE hown hB HV hW0
      by_cases h1 : tk = c'
      · subst h1
        have HE1 := HE.out
        rw [if_pos rfl] at HE1
        have HF := hid_mk HE1
        clear HE HE1
        rcases List.eq_nil_or_concat ss with rfl | ⟨ss', c2, rfl⟩
        · have HR : Hid (runS [c] ts = ts.drop (i + 1)) := by
            show _ = _
            rw [HF.out, List.reverse_nil, runS]
          simp only [List.length_nil, Nat.zero_add] at hrc hr1 HOWN
          simp only [List.length_nil, Nat.zero_add]
          clear HF HOWN
          go_wp2
          go_quiet (fail)
          go_wp2
          all_goals
            go_ret
            exact ⟨_, rfl, by rw [HR.out]; exact HTD.out _ _ _ (by omega) (by omega) (fun h => by first | exact addr_eq (by omega) | (exfalso; omega)), (HBA.out _).trans (below_drewN5 _ _ _)⟩
        · have HR : Hid (runS [c] ts = runS (c2 :: ss'.reverse) (ts.drop (i + 1))) := by
            show _ = _
            rw [HF.out, List.concat_eq_append, List.reverse_append]
            rfl
          have HP : Hid (wr.ownsRow W.heap.size 3 1 (.slice (some ⟨g, 0, none⟩) (ss'.length + 1) rcap) (ss'.length + 1) ((ss' ++ [c2]).map (Value.int .i64))) := by
            have := HOWN.out
            rw [List.concat_eq_append, List.map_append] at this
            have hl2 : (ss' ++ [c2]).length = ss'.length + 1 := by simp
            rw [hl2] at this
            exact ownsRow_pop (by simp) this
          have hl2 : (ss'.concat c2).length = ss'.length + 1 := by simp
          rw [hl2] at hrc hr1 hss
          rw [hl2]
          clear HF HOWN hl2
          go_wp2
          go_quiet (fail)
          go_wp2
          go_roundw
          case rel => exact ⟨i + 1, ss', c2, by omega, by go_num, ownsRow_below (HP.out.alloc _) (below_drewN5 _ _ _), by omega, HR.out, (HBA.out _).trans (below_drewN5 _ _ _)⟩
          case measure => simp [intOf]; omega
      · have z1 : (tk == c') = false := by simpa using h1
        have HE1 := HE.out
        rw [if_neg h1] at HE1
        have HF := hid_mk HE1
        have hco := fun w => closeOf_any tk w
        generalize closeZ tk = e at *
        clear HE HE1 h1
        by_cases h2 : e = 0
        · subst h2
          have HR := HF.out
          rw [if_pos rfl] at HR
          have HG := hid_mk HR
          clear HR HF
          go_wp2
          go_quiet (fail)
          go_wp2_with (go_at_call 41; refine (hco _).mono ?_; rintro e' w' ⟨rfl, rfl⟩)
          go_roundw
          case rel => exact ⟨i + 1, ss, c', by omega, by go_num, ownsRow_below (HOWN.out.alloc _) (below_drewN5 _ _ _), by omega, HG.out, (HBA.out _).trans (below_drewN5 _ _ _)⟩
          case measure => simp [intOf]; omega
        · have z2 : (e != 0) = true := by simpa using h2
          have HG : Hid (runS [c] ts = runS (e :: (ss ++ [c']).reverse) (ts.drop (i + 1))) := by
            show _ = _
            have := HF.out
            rw [if_neg h2] at this
            rw [this, List.reverse_append]
            rfl
          clear HF h2
          go_wp2
          go_quiet (fail)
          go_wp2_with (go_at_call 41; refine (hco _).mono ?_; rintro e' w' ⟨rfl, rfl⟩; fail)
          go_at_call 41
          refine (hco _).mono ?_
          rintro e' w' ⟨rfl, rfl⟩
          have hown2 := ownsRow_below (HOWN.out.alloc (.cells #[.int .i64 tk, .string ttx, .string tun, .bool twh, .bool tfl] 69)) (below_drewN5 _ _ nq)
          have HB2 : Hid (Below W.heap.size W ((wr.alloc (.cells #[.int .i64 tk, .string ttx, .string tun, .bool twh, .bool tfl] 69)).drewN nq)) := (HBA.out _).trans (below_drewN5 _ _ _)
          generalize (wr.alloc (.cells #[.int .i64 tk, .string ttx, .string tun, .bool twh, .bool tfl] 69)).drewN nq = WA at *
          obtain ⟨i0, hi0, hz0, hz1, hz2⟩ := info_parts Tryz.info3
          have hbs2 := HB2.out.size
          go_wp2_with (at_builtin; go_must (refine wpList_append_own _ rfl _ _ 36 rfl W.heap.size 3 i0 _ 1 8 Tryz.underlying36 hi0 hz0 hz1 hz2 rfl (by decide) _ _ _ rfl (hown2.alloc _) ⟨WA.heap.size, 0, none⟩ 1 1 [.int .i64 e] rfl rfl (cell_one_new _ _ _) (by intro u hu; simp at hu; subst hu; rfl) (by unfold maxLen; omega) (by omega) (by simp; omega) ?_); intro v' w7 hown7 hgrow7 _; obtain ⟨g7, cap7, rfl⟩ := ownsRow_succ hown7)
          go_roundw
          case rel => exact ⟨i + 1, ss ++ [c'], e, by omega, by go_num, by simpa using hown7, by simp; omega, HG.out, (HB2.out.alloc hbs2 _).grown hgrow7 (by simp; omega) (fun k hk => (hown2.lt k hk).1)⟩
          case measure => simp [intOf]; omega
    · have hd : ts.drop i = [] := List.drop_eq_nil_of_le (by omega)
      rw [hd, runS_nil] at hE
      clear hd hown hW0
      have HE := hid_mk hE
      clear hE
      go_wp2
      go_ret
      exact ⟨_, rfl, by rw [HE.out]; exact TsAt.nil _, hB⟩

end Go.Proofs.YtdibldcnklgcjaaGreatDoor.Y
