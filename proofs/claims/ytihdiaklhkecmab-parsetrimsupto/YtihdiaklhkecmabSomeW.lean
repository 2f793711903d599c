/- gouacheref03.some: the walk. -/
import Derived.Test.YtihdiaklhkecmabSomeV
namespace Go.Proofs.Ytihdiaklhkecmab
open Go.RowKit
set_option maxRecDepth 100000

def sliceLen : Value → Nat
  | .slice _ n _ => n
  | _ => 0
theorem Try.info29 : (Try.prog.info? 29).map (fun i => (i.zero, i.size, i.bytes)) = some (some (.agg #[.int .i64 0, .string ⟨#[]⟩, .string ⟨#[]⟩, .bool false, .bool false, .slice none 0 0]), 6, 72) := by kernel_rfl
theorem news6 (w : World) (x0 x1 x2 x3 x4 x5 : Value) (j : Nat) (u : Value) (h : [x0, x1, x2, x3, x4, x5][j]? = some u) : (w.alloc (.cells #[x0, x1, x2, x3, x4, x5] 29)).cell? ((⟨w.heap.size, 0, none⟩ : Addr).add j) = some u :=
  World.news_of_block (cs := #[x0, x1, x2, x3, x4, x5]) (t := 29) (fr := (0, 0)) (heap_alloc_new w _) j u h
theorem addr_eq {b o o' : Nat} (h : o = o') : (⟨b, o, none⟩ : Addr) = ⟨b, o', none⟩ := by subst h; rfl
/-- The tokens behind the first, by a slice of the same memory. -/
theorem TsAt.tail {W : World} {b off c : Nat} {t : T5} {r : List T5} (h : TsAt W (.slice (some ⟨b, off, none⟩) (r.length + 1) c) (t :: r)) (a' : Addr) (ha : 0 < r.length → a' = ⟨b, off + 5, none⟩) : TsAt W (.slice (some a') r.length (c - 1)) r := by
  obtain ⟨a, c', hv, h1, h2, h3⟩ := h
  have e1 : a = some ⟨b, off, none⟩ := by injection hv with x y z; exact x.symm
  have e2 : c' = c := by injection hv with x y z; exact z.symm
  subst e1 e2
  rw [List.length_cons] at h1
  refine ⟨_, _, rfl, by omega, by omega, fun h0 => ?_⟩
  obtain ⟨b', off', ha', hlt, hc⟩ := h3 (by simp)
  cases ha'
  refine ⟨b, off + 5, congrArg some (ha h0), hlt, fun i hi j y hy => ?_⟩
  have := hc (i + 1) (by simp; omega) j y hy
  rw [show off + 5 + i * 5 + j = off + (i + 1) * 5 + j by omega]
  exact this
theorem someZ_nil (g : Nat) (c n : Int) : someZ g [] c n = ([], []) := by cases g <;> rfl
theorem pair_cat {α β : Type} {x : List α × β} {ps : List α} {y z : List α × β} (h : x = (ps ++ y.1, y.2)) (e : y = z) : x = (ps ++ z.1, z.2) := by rw [h, e]

theorem tok6 {W : World} {B : Nat} {x0 x1 x2 x3 x4 x5 : Value} (h : W.heap[B]? = some (.cells #[x0, x1, x2, x3, x4, x5] 29 (0, 0))) :
    W.cell? ⟨B, 0, none⟩ = some x0 ∧ W.cell? ⟨B, 1, none⟩ = some x1 ∧ W.cell? ⟨B, 2, none⟩ = some x2 ∧ W.cell? ⟨B, 3, none⟩ = some x3 ∧ W.cell? ⟨B, 4, none⟩ = some x4 ∧ W.cell? ⟨B, 5, none⟩ = some x5 := by
  refine ⟨?_, ?_, ?_, ?_, ?_, ?_⟩ <;> simp [World.cell?, h]

theorem tok6f {W : World} {B : Nat} {x0 x1 x2 x3 x4 x5 : Value} (h : W.heap[B]? = some (.cells #[x0, x1, x2, x3, x4, x5] 29 (0, 0))) : W.frozen? ⟨B, 5, none⟩ = false := by
  simp [World.frozen?, h]
/-- Behind the store of what is within. -/
theorem opened {P0 : Nat} {W wr WA w1 : World} {u8 : Value} {ps : List (T5 × Value × List V)} {x0 x1 x2 x3 x4 x5 : Value} {kv : Value} {kids : List V} (hrow : Row (fun b => P0 ≤ b) P0 wr u8 ps) (hB : Below P0 W wr) (hAW : Below wr.heap.size wr WA) (hb1 : Below WA.heap.size WA w1)
    (hx : WA.heap[wr.heap.size + 1]? = some (.cells #[x0, x1, x2, x3, x4, x5] 29 (0, 0))) (hk : VsAt (fun b => WA.heap.size ≤ b) w1 kv kids) (hP : P0 ≤ wr.heap.size) :
    Row (fun b => P0 ≤ b) P0 (w1.setCell ⟨wr.heap.size + 1, 5, none⟩ kv) u8 ps ∧ Below P0 W (w1.setCell ⟨wr.heap.size + 1, 5, none⟩ kv) ∧ (w1.setCell ⟨wr.heap.size + 1, 5, none⟩ kv).heap[wr.heap.size + 1]? = some (.cells #[x0, x1, x2, x3, x4, kv] 29 (0, 0)) ∧ VsAt (fun b => P0 ≤ b ∧ u8.ownBlock ≠ some b) (w1.setCell ⟨wr.heap.size + 1, 5, none⟩ kv) kv kids := by
  have hlt : wr.heap.size + 1 < WA.heap.size := (Array.getElem?_eq_some_iff.1 hx).1
  have h1 : Below wr.heap.size wr (w1.setCell ⟨wr.heap.size + 1, 5, none⟩ kv) := (hAW.trans (hb1.mono hAW.size)).setCell (p := ⟨wr.heap.size + 1, 5, none⟩) (by show wr.heap.size ≤ wr.heap.size + 1; omega) kv
  have hx1 := (hb1.block _ hlt).trans hx
  refine ⟨hrow.keep h1, hB.trans (h1.mono hP), ?_, ?_⟩
  · have := heap_setCell_same w1 (wr.heap.size + 1) 5 #[x0, x1, x2, x3, x4, x5] 29 kv hx1
    rw [this]
    rfl
  · have h2 := hk.stay (W' := w1.setCell ⟨wr.heap.size + 1, 5, none⟩ kv) (by simp) (fun b hb _ => Below.heap_setCell w1 ⟨wr.heap.size + 1, 5, none⟩ kv b (by show b ≠ wr.heap.size + 1; omega))
    refine h2.wider (fun b hb _ => ⟨by have := hAW.size; omega, fun e => ?_⟩)
    have := (hrow.1.lt b e).2
    have := hAW.size
    omega
end Go.Proofs.Ytihdiaklhkecmab
