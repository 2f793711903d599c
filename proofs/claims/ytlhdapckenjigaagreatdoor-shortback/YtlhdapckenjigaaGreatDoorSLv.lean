/- short.spread, short.Join. short.Join. gouachelaw16.lives: the document's example. -/
import Derived.Test.YtlhdapckenjigaaGreatDoorSEx
import Derived.ChangeKeysEq
import Derived.Shelf.Strings.OnBuilder
import Derived.Shelf.Lay
namespace Go.Proofs.YtlhdapckenjigaaGreatDoor.S
open Go.RowKit
open Go.Proofs.YtlhdapckenjigaaGreatDoor.L (T5 V VsAt t5Cells vCells cell_of_heap hid_mk cellAt set_at)
open Go.Proofs.YtlhdapckenjigaaGreatDoor.P (Bx StrAt)
set_option maxRecDepth 100000

shelf_lay Lays.n156 Nm 156 at Tryz as laysJn
theorem extraJn : Builder.Extra Tryz.prog laysJn_ren where
  sizeBuilder := by kernel_rfl
  liesBuilder := by kernel_rfl
  t5 := P.laysSp.t5
  a5 := P.laysSp.a5
  z5 := P.laysSp.z5
  v5 := P.laysSp.v5
  infoByte := by kernel_rfl
  cellsByte := by kernel_rfl
  sizeByte := by kernel_rfl
  neB5 := by decide
/-- A slice holds the texts. -/
def SsAt (w : World) (v : Value) (l : List ByteArray) : Prop := ∃ a c g o, v = .slice a l.length c ∧ l.length ≤ c ∧ c ≤ 9223372036854775807 ∧ (0 < l.length → a = some ⟨g, o, none⟩ ∧ g < w.heap.size) ∧ ∀ (k : Nat) (s : ByteArray), l[k]? = some s → w.cell? ⟨g, o + k, none⟩ = some (.string s)
theorem SsAt.keep {w w' : World} {v : Value} {l : List ByteArray} (h : SsAt w v l) (hb : Below w.heap.size w w') : SsAt w' v l := by
  obtain ⟨a, c, g, o, h1, h2, h3, h4, h5⟩ := h
  exact ⟨a, c, g, o, h1, h2, h3, fun h => ⟨(h4 h).1, Nat.lt_of_lt_of_le (h4 h).2 hb.size⟩, fun k s hs => (hb.cell (p := ⟨g, o + k, none⟩) (P.lt_of_cell (h5 k s hs))).trans (h5 k s hs)⟩
theorem SsAt.of {w : World} {v : Value} {l : List ByteArray} (h : StrAt w v l) : SsAt w v l := by
  obtain ⟨a, c, hv, h1, h2, h3⟩ := h.form
  by_cases h0 : 0 < l.length
  · obtain ⟨g, ha, hc⟩ := h3 h0
    obtain ⟨s, hs⟩ : ∃ s, l[0]? = some s := ⟨_, List.getElem?_eq_getElem h0⟩
    exact ⟨a, c, g, 0, hv, h1, h2, fun _ => ⟨ha, P.lt_of_cell (hc 0 s hs)⟩, fun k s hs => by rw [Nat.zero_add]; exact hc k s hs⟩
  · exact ⟨a, c, 0, 0, hv, h1, h2, fun h => absurd h h0, fun k s hs => by
      have := (List.getElem?_eq_some_iff.1 hs).1
      omega⟩
theorem SsAt.take {w : World} {a : Option Addr} {n c : Nat} {l : List ByteArray} (h : SsAt w (.slice a n c) l) (k : Nat) (hk : k ≤ l.length) : SsAt w (.slice a k c) (l.take k) := by
  obtain ⟨a', c', g, o, h1, h2, h3, h4, h5⟩ := h
  cases h1
  have hl : (l.take k).length = k := by rw [List.length_take]; omega
  refine ⟨a, c, g, o, by rw [hl], by omega, h3, fun h => h4 (by omega), fun j s hs => h5 j s ?_⟩
  rw [List.getElem?_take] at hs
  split at hs
  · exact hs
  · cases hs
theorem px0 (p0 p1 p2 p3 : Int) (w : World) : (Instr.index 73 (.agg #[.int .i64 p0, .int .i64 p1, .int .i64 p2, .int .i64 p3]) (.int .i64 0)).run Tryz.prog w = .ok (.int .i64 p0) w := by kernel_rfl
theorem px1 (p0 p1 p2 p3 : Int) (w : World) : (Instr.index 73 (.agg #[.int .i64 p0, .int .i64 p1, .int .i64 p2, .int .i64 p3]) (.int .i64 1)).run Tryz.prog w = .ok (.int .i64 p1) w := by kernel_rfl
theorem px2 (p0 p1 p2 p3 : Int) (w : World) : (Instr.index 73 (.agg #[.int .i64 p0, .int .i64 p1, .int .i64 p2, .int .i64 p3]) (.int .i64 2)).run Tryz.prog w = .ok (.int .i64 p2) w := by kernel_rfl
theorem px3 (p0 p1 p2 p3 : Int) (w : World) : (Instr.index 73 (.agg #[.int .i64 p0, .int .i64 p1, .int .i64 p2, .int .i64 p3]) (.int .i64 3)).run Tryz.prog w = .ok (.int .i64 p3) w := by kernel_rfl
def outA (s0 s1 s2 s3 : ByteArray) : Nat → Array Value
  | 0 => #[.string ⟨#[]⟩, .string ⟨#[]⟩, .string ⟨#[]⟩, .string ⟨#[]⟩]
  | 1 => #[.string s0, .string ⟨#[]⟩, .string ⟨#[]⟩, .string ⟨#[]⟩]
  | 2 => #[.string s0, .string s1, .string ⟨#[]⟩, .string ⟨#[]⟩]
  | 3 => #[.string s0, .string s1, .string s2, .string ⟨#[]⟩]
  | _ => #[.string s0, .string s1, .string s2, .string s3]
set_option maxHeartbeats 1000000 in
theorem spread_core {W : World} {m g o c p0 p1 p2 p3 : Nat} {s0 s1 s2 s3 : ByteArray} (hm : m < 4) (hc : m + 1 ≤ c) (hcm : c ≤ 9223372036854775807)
    (q0 : W.cell? ⟨0, m * 4, none⟩ = some (.int .i64 (p0 : Int))) (q1 : W.cell? ⟨0, m * 4 + 1, none⟩ = some (.int .i64 (p1 : Int))) (q2 : W.cell? ⟨0, m * 4 + 2, none⟩ = some (.int .i64 (p2 : Int))) (q3 : W.cell? ⟨0, m * 4 + 3, none⟩ = some (.int .i64 (p3 : Int)))
    (hp : p0 < m + 1 ∧ p1 < m + 1 ∧ p2 < m + 1 ∧ p3 < m + 1)
    (r0 : W.cell? ⟨g, o + p0, none⟩ = some (.string s0)) (r1 : W.cell? ⟨g, o + p1, none⟩ = some (.string s1)) (r2 : W.cell? ⟨g, o + p2, none⟩ = some (.string s2)) (r3 : W.cell? ⟨g, o + p3, none⟩ = some (.string s3)) :
    Calls Tryz.prog 34 #[.slice (some ⟨g, o, none⟩) (m + 1) c] W fun e w' => e = .returned (.agg #[.string s0, .string s1, .string s2, .string s3]) ∧ Below W.heap.size W w' := by
  have hw : IntKind.i64.wrap (((m + 1 : Nat) : Int) - 1) = (m : Int) := by rw [IntKind.wrap_i64]; omega
  have hB2 : Below W.heap.size W ((W.alloc (.cells #[.string ⟨#[]⟩, .string ⟨#[]⟩, .string ⟨#[]⟩, .string ⟨#[]⟩] 70)).alloc (.cells #[.string ⟨#[]⟩, .string ⟨#[]⟩, .string ⟨#[]⟩, .string ⟨#[]⟩] 70)) := ((Below.refl _ W).alloc (Nat.le_refl _) _).alloc (by simp) _
  have t0 := (hB2.cell (p := ⟨0, m * 4, none⟩) (P.lt_of_cell q0)).trans q0
  have t1 := (hB2.cell (p := ⟨0, m * 4 + 1, none⟩) (P.lt_of_cell q1)).trans q1
  have t2 := (hB2.cell (p := ⟨0, m * 4 + 2, none⟩) (P.lt_of_cell q2)).trans q2
  have t3 := (hB2.cell (p := ⟨0, m * 4 + 3, none⟩) (P.lt_of_cell q3)).trans q3
  have hx1 : Bx ((W.alloc (.cells #[.string ⟨#[]⟩, .string ⟨#[]⟩, .string ⟨#[]⟩, .string ⟨#[]⟩] 70)).alloc (.cells #[.string ⟨#[]⟩, .string ⟨#[]⟩, .string ⟨#[]⟩, .string ⟨#[]⟩] 70)) W.heap.size 70 #[.string ⟨#[]⟩, .string ⟨#[]⟩, .string ⟨#[]⟩, .string ⟨#[]⟩] := (Bx.new W 70 _).alloc _
  have hx2 : Bx ((W.alloc (.cells #[.string ⟨#[]⟩, .string ⟨#[]⟩, .string ⟨#[]⟩, .string ⟨#[]⟩] 70)).alloc (.cells #[.string ⟨#[]⟩, .string ⟨#[]⟩, .string ⟨#[]⟩, .string ⟨#[]⟩] 70)) (W.heap.size + 1) 70 #[.string ⟨#[]⟩, .string ⟨#[]⟩, .string ⟨#[]⟩, .string ⟨#[]⟩] := by simpa using Bx.new (W.alloc (.cells #[.string ⟨#[]⟩, .string ⟨#[]⟩, .string ⟨#[]⟩, .string ⟨#[]⟩] 70)) 70 #[.string ⟨#[]⟩, .string ⟨#[]⟩, .string ⟨#[]⟩, .string ⟨#[]⟩]
  have HX := hid_mk (And.intro hx1 (And.intro hx2 hB2))
  clear hx1 hx2 hB2 q0 q1 q2 q3
  obtain ⟨hp0, hp1, hp2, hp3⟩ := hp
  go_enter Tryz.func34, Tryz.ntmps34
  go_wp2
  clear t0 t1 t2 t3
  go_loopw [11] (fun a11 wr => ∃ i : Nat, i ≤ 4 ∧ a11 = .int .i64 (i : Int) ∧ Hid (Bx wr W.heap.size 70 #[.string ⟨#[]⟩, .string ⟨#[]⟩, .string ⟨#[]⟩, .string ⟨#[]⟩] ∧ Bx wr (W.heap.size + 1) 70 (outA s0 s1 s2 s3 i) ∧ Below W.heap.size W wr)) (fun a11 _ => 5 - (intOf a11).toNat)
  case atStart => exact ⟨0, by omega, rfl, HX.out⟩
  case round =>
    obtain ⟨i, hi, rfl, HJ⟩ := hrel
    clear HX
    have : i = 0 ∨ i = 1 ∨ i = 2 ∨ i = 3 ∨ i = 4 := by omega
    rcases this with rfl | rfl | rfl | rfl | rfl
    · have hx := HJ.out.2.1
      have f3 := hx.frozen 0
      have g3 := hx.cell 0 _ rfl
      have r := (HJ.out.2.2.cell (p := ⟨g, o + p0, none⟩) (P.lt_of_cell r0)).trans r0
      have hpx := px0 p0 p1 p2 p3
      go_wp2
      refine ⟨⟨1, by omega, rfl, ?_, ?_, ?_⟩, by simp [intOf]⟩
      · exact HJ.out.1.other _ _ (by simp)
      · exact hx.set 0 _
      · exact HJ.out.2.2.setCell (p := ⟨W.heap.size + 1, 0, none⟩) (by simp) _
    · have hx := HJ.out.2.1
      have f3 := hx.frozen 1
      have g3 := hx.cell 1 _ rfl
      have r := (HJ.out.2.2.cell (p := ⟨g, o + p1, none⟩) (P.lt_of_cell r1)).trans r1
      have hpx := px1 p0 p1 p2 p3
      go_wp2
      refine ⟨⟨2, by omega, rfl, ?_, ?_, ?_⟩, by simp [intOf]⟩
      · exact HJ.out.1.other _ _ (by simp)
      · exact hx.set 1 _
      · exact HJ.out.2.2.setCell (p := ⟨W.heap.size + 1, 1, none⟩) (by simp) _
    · have hx := HJ.out.2.1
      have f3 := hx.frozen 2
      have g3 := hx.cell 2 _ rfl
      have r := (HJ.out.2.2.cell (p := ⟨g, o + p2, none⟩) (P.lt_of_cell r2)).trans r2
      have hpx := px2 p0 p1 p2 p3
      go_wp2
      refine ⟨⟨3, by omega, rfl, ?_, ?_, ?_⟩, by simp [intOf]⟩
      · exact HJ.out.1.other _ _ (by simp)
      · exact hx.set 2 _
      · exact HJ.out.2.2.setCell (p := ⟨W.heap.size + 1, 2, none⟩) (by simp) _
    · have hx := HJ.out.2.1
      have f3 := hx.frozen 3
      have g3 := hx.cell 3 _ rfl
      have r := (HJ.out.2.2.cell (p := ⟨g, o + p3, none⟩) (P.lt_of_cell r3)).trans r3
      have hpx := px3 p0 p1 p2 p3
      go_wp2
      refine ⟨⟨4, by omega, rfl, ?_, ?_, ?_⟩, by simp [intOf]⟩
      · exact HJ.out.1.other _ _ (by simp)
      · exact hx.set 3 _
      · exact HJ.out.2.2.setCell (p := ⟨W.heap.size + 1, 3, none⟩) (by simp) _
    · have hx := HJ.out.2.1
      have g0 := hx.cell 0 (.string s0) rfl
      have g1 := hx.cell 1 (.string s1) rfl
      have g2 := hx.cell 2 (.string s2) rfl
      have g3 := hx.cell 3 (.string s3) rfl
      have hy := HJ.out.1
      have y0 := hy.cell 0 _ rfl
      have z0 := hy.frozen 0
      have hy1 := hy.set 0 (.string s0)
      have y1 := hy1.cell 1 _ rfl
      have z1 := hy1.frozen 1
      have hy2 := hy1.set 1 (.string s1)
      have y2 := hy2.cell 2 _ rfl
      have z2 := hy2.frozen 2
      have hy3 := hy2.set 2 (.string s2)
      have y3 := hy3.cell 3 _ rfl
      have z3 := hy3.frozen 3
      have hy4 := hy3.set 3 (.string s3)
      have k0 := hy4.cell 0 (.string s0) rfl
      have k1 := hy4.cell 1 (.string s1) rfl
      have k2 := hy4.cell 2 (.string s2) rfl
      have k3 := hy4.cell 3 (.string s3) rfl
      have HE : Hid (Below W.heap.size W ((((wr.setCell ⟨W.heap.size, 0, none⟩ (.string s0)).setCell ⟨W.heap.size, 1, none⟩ (.string s1)).setCell ⟨W.heap.size, 2, none⟩ (.string s2)).setCell ⟨W.heap.size, 3, none⟩ (.string s3))) := (((HJ.out.2.2.setCell (p := ⟨W.heap.size, 0, none⟩) (Nat.le_refl _) _).setCell (p := ⟨W.heap.size, 1, none⟩) (Nat.le_refl _) _).setCell (p := ⟨W.heap.size, 2, none⟩) (Nat.le_refl _) _).setCell (p := ⟨W.heap.size, 3, none⟩) (Nat.le_refl _) _
      have HK := hid_mk (And.intro k0 (And.intro k1 (And.intro k2 k3)))
      clear hy hy1 hy2 hy3 hy4 hx HJ k0 k1 k2 k3
      go_wp2
      obtain ⟨k0, k1, k2, k3⟩ := HK.out
      have HE2 := HE.out
      generalize ((((wr.setCell ⟨W.heap.size, 0, none⟩ (.string s0)).setCell ⟨W.heap.size, 1, none⟩ (.string s1)).setCell ⟨W.heap.size, 2, none⟩ (.string s2)).setCell ⟨W.heap.size, 3, none⟩ (.string s3)) = w9 at *
      refine bodyPost_ret (v := .agg #[.string s0, .string s1, .string s2, .string s3]) (by simp [results, Tryz.results34, go_sem, k0, k1, k2, k3]) rfl ⟨rfl, HE2⟩
end Go.Proofs.YtlhdapckenjigaaGreatDoor.S
namespace Go.Proofs.YtlhdapckenjigaaGreatDoor.S
open Go.RowKit
open Go.Proofs.YtlhdapckenjigaaGreatDoor.L (T5 V VsAt t5Cells vCells cell_of_heap hid_mk cellAt set_at)
open Go.Proofs.YtlhdapckenjigaaGreatDoor.P (Bx StrAt)
set_option maxRecDepth 100000

/-- What parts come to. -/
def spL (l : List ByteArray) : List ByteArray := (List.range 4).map fun (i : Nat) => l.getD (sidesZ l.length i).toNat ⟨#[]⟩
def spA (l : List ByteArray) : Value := .agg ((spL l).map Value.string).toArray
theorem spA_eq (l : List ByteArray) : spA l = .agg #[.string (l.getD (sidesZ l.length (0 : Nat)).toNat ⟨#[]⟩), .string (l.getD (sidesZ l.length (1 : Nat)).toNat ⟨#[]⟩), .string (l.getD (sidesZ l.length (2 : Nat)).toNat ⟨#[]⟩), .string (l.getD (sidesZ l.length (3 : Nat)).toNat ⟨#[]⟩)] := rfl
theorem sid_at {W : World} (h : Sid W) {m j : Nat} (hm : m < 4) (hj : j < 4) : W.cell? ⟨0, m * 4 + j, none⟩ = some (.int .i64 (((sidesZ ((m + 1 : Nat) : Int) (j : Int)).toNat : Nat) : Int)) := by
  have h1 := sid_cells h (m * 4 + j) (by omega)
  rw [h1]
  have e : sdL.getD (m * 4 + j) 0 = (((sidesZ ((m + 1 : Nat) : Int) (j : Int)).toNat : Nat) : Int) := by
    have hm4 : m = 0 ∨ m = 1 ∨ m = 2 ∨ m = 3 := by omega
    have hj4 : j = 0 ∨ j = 1 ∨ j = 2 ∨ j = 3 := by omega
    rcases hm4 with rfl | rfl | rfl | rfl <;> rcases hj4 with rfl | rfl | rfl | rfl <;> rfl
  rw [e]
theorem spread_any {W : World} {v : Value} {l : List ByteArray} (h : SsAt W v l) (h1 : 1 ≤ l.length) (h4 : l.length ≤ 4) (hs : Sid W) :
    Calls Tryz.prog 34 #[v] W fun e w' => e = .returned (spA l) ∧ Below W.heap.size W w' := by
  obtain ⟨a, c, g, o, rfl, hc, hcm, ha, hcell⟩ := h
  obtain ⟨rfl, hg⟩ := ha (by omega)
  obtain ⟨m, hm⟩ : ∃ m, l.length = m + 1 := ⟨l.length - 1, by omega⟩
  have hp : ∀ j, j ≤ 3 → (sidesZ l.length (j : Nat)).toNat < l.length := fun j hj => by
    have := sides_lt (n := l.length) (i := j) h1 h4 hj
    omega
  have hq : ∀ j, j ≤ 3 → W.cell? ⟨g, o + (sidesZ l.length (j : Nat)).toNat, none⟩ = some (.string (l.getD (sidesZ l.length (j : Nat)).toNat ⟨#[]⟩)) := fun j hj => hcell _ _ (by
    have := hp j hj
    simp [List.getD, this])
  rw [spA_eq]
  have s0 := sid_at hs (m := m) (j := 0) (by omega) (by omega)
  have s1 := sid_at hs (m := m) (j := 1) (by omega) (by omega)
  have s2 := sid_at hs (m := m) (j := 2) (by omega) (by omega)
  have s3 := sid_at hs (m := m) (j := 3) (by omega) (by omega)
  have p0 := hp 0 (by omega)
  have p1 := hp 1 (by omega)
  have p2 := hp 2 (by omega)
  have p3 := hp 3 (by omega)
  have q0 := hq 0 (by omega)
  have q1 := hq 1 (by omega)
  have q2 := hq 2 (by omega)
  have q3 := hq 3 (by omega)
  simp only [hm] at p0 p1 p2 p3 q0 q1 q2 q3 hc h4 ⊢
  exact spread_core (by omega) hc hcm s0 s1 s2 s3 ⟨p0, p1, p2, p3⟩ q0 q1 q2 q3
theorem str_eq (w : World) (d : Nat) (a b : ByteArray) : (Op.equalIn (d + 1) 9 (.string a) (.string b)).run Tryz.prog w = .ok (a == b) w := by
  simp [Op.equalIn, run_underlying Tryz.underlying9]
theorem ba_beq (x y : ByteArray) : (x == y) = decide (x = y) := by
  cases x with
  | mk a =>
    cases y with
    | mk b =>
      have e : ((⟨a⟩ : ByteArray) == ⟨b⟩) = (a == b) := rfl
      rw [e]
      by_cases h : a = b
      · subst h; simp
      · rw [decide_eq_false (fun e => h (by injection e)), beq_eq_false_iff_ne.2 h]
theorem agg9 (w : World) : (isAgg 9).run Tryz.prog w = .ok false w := by kernel_rfl
theorem items_step (w : World) (xs ys : Array Value) (i : Nat) (is : List Nat) (x y : ByteArray) (hx : xs[i]? = some (.string x)) (hy : ys[i]? = some (.string y)) (r : Bool) (hr : (Op.eqItems 9999 9 1 xs ys is).run Tryz.prog w = .ok r w) :
    (Op.eqItems 9999 9 1 xs ys (i :: is)).run Tryz.prog w = .ok (decide (x = y) && r) w := by
  have a1 := agg9
  have h1 : ∀ a b, (Op.equalIn 9999 9 (.string a) (.string b)).run Tryz.prog w = .ok (a == b) w := str_eq w 9998
  have e1 : (x == y) = decide (x = y) := ba_beq x y
  simp only [Op.eqItems, part, Sem.run_bind, a1, Result.andThen_ok, Bool.false_eq_true, if_false, Nat.mul_one, hx, hy, Sem.run_pure, h1, e1]
  by_cases h : x = y
  · simp [h, hr]
  · simp [h]
theorem arr_eq (w : World) (a0 a1 a2 a3 b0 b1 b2 b3 : ByteArray) : (Op.equalIn 10000 70 (.agg #[.string a0, .string a1, .string a2, .string a3]) (.agg #[.string b0, .string b1, .string b2, .string b3])).run Tryz.prog w = .ok (decide ([a0, a1, a2, a3] = [b0, b1, b2, b3])) w := by
  obtain ⟨i, hi⟩ : ∃ i, Tryz.prog.info? 9 = some i := ⟨_, by rfl⟩
  rw [run_equalIn_array w 9999 _ _ Tryz.underlying70 hi, show Tryz.prog.cellsOf 9 = 1 by kernel_rfl, show List.range 4 = [0, 1, 2, 3] from rfl]
  rw [items_step w _ _ 0 _ a0 b0 rfl rfl _ (items_step w _ _ 1 _ a1 b1 rfl rfl _ (items_step w _ _ 2 _ a2 b2 rfl rfl _ (items_step w _ _ 3 _ a3 b3 rfl rfl true (by simp [Op.eqItems]))))]
  congr 1
  rw [Bool.eq_iff_iff]
  simp
theorem sp_eq4 (w : World) (l m : List ByteArray) : (Op.equalIn 10000 70 (spA l) (spA m)).run Tryz.prog w = .ok (decide (spL l = spL m)) w := arr_eq w _ _ _ _ _ _ _ _
theorem sp_four (l : List ByteArray) : ∃ a0 a1 a2 a3, spA l = .agg #[.string a0, .string a1, .string a2, .string a3] ∧ spL l = [a0, a1, a2, a3] := ⟨_, _, _, _, rfl, rfl⟩
/-- The least number of parts, from n on, that comes to l. -/
def leastN (l : List ByteArray) : Nat → Nat → Nat
  | 0, n => n
  | f + 1, n => if spL (l.take n) = spL l then n else leastN l f (n + 1)
/-- The parts with a space between. -/
def joinS (l : List ByteArray) : ByteArray := ⟨(Lib.join (l.map (·.data.toList)) [32]).toArray⟩
def joinO (name : ByteArray) (l : List ByteArray) : Option ByteArray := if (P.lgs name).length = 0 ∨ l.length ≠ (P.lgs name).length then none else some (joinS (l.take (leastN l l.length 1)))
theorem join_len : ∀ (xs : List (List UInt8)), (∀ x ∈ xs, x.length ≤ 1000000) → (Lib.join xs [32]).length ≤ xs.length * 1000001
  | [], _ => by simp [Lib.join]
  | [x], h => by
    have := h x (by simp)
    simp [Lib.join]; omega
  | x :: y :: r, h => by
    have h1 := h x (by simp)
    have h2 := join_len (y :: r) (fun z hz => h z (by simp [hz]))
    simp [Lib.join] at h2 ⊢
    omega
theorem join_le (l : List ByteArray) (h : ∀ x ∈ l, x.size ≤ 1000000) : (Lib.join (l.map (·.data.toList)) (⟨#[32]⟩ : ByteArray).data.toList).length ≤ l.length * 1000001 := by
  have := join_len (l.map (·.data.toList)) (fun x hx => by
    obtain ⟨y, hy, rfl⟩ := List.mem_map.1 hx
    simpa using h y hy)
  simpa using this
set_option maxHeartbeats 2000000 in
theorem join_any {W : World} {v : Value} {l : List ByteArray} (name : ByteArray) (h : SsAt W v l) (hz : ∀ x ∈ l, x.size ≤ 1000000) (hs : Sid W) :
    Calls Tryz.prog 15 #[.string name, v] W fun e w' => e = .returned (Z.res (joinO name l)) ∧ Below W.heap.size W w' := by
  have hlg := P.longs_any name W
  have HR : Hid (joinO name l = if (P.lgs name).length = 0 ∨ l.length ≠ (P.lgs name).length then none else some (joinS (l.take (leastN l l.length 1)))) := rfl
  have hN := lgs_len name
  have HL := hid_mk h
  obtain ⟨a, c, g, o, rfl, hc, hcm, ha, hcell⟩ := h
  generalize joinO name l = R at *
  generalize P.lgs name = N at *
  generalize hll : l.length = L at *
  have HLL := hid_mk hll
  clear hll
  go_enter Tryz.func15, Tryz.ntmps15
  go_wp2_with (go_at_call 20; fail)
  refine hlg.mono ?_
  rintro e w1 ⟨⟨na, nn, nc, rfl, hnn, _⟩, hb1⟩
  have HB1 := hid_mk hb1
  have hnn4 : nn = 0 ∨ nn = 2 ∨ nn = 4 := by
    rcases hN with ⟨e, _⟩ | ⟨e, _⟩ | ⟨e, _⟩
    · left; rw [hnn, e]; rfl
    · right; left; rw [hnn, e]
    · right; right; rw [hnn, e]
  have HNN := hid_mk hnn
  clear hlg hb1 hnn hN
  by_cases h0 : nn = 0
  · have HRR : Hid (R = none) := by show _ = _; rw [HR.out, if_pos (.inl (by rw [← HNN.out]; exact h0))]
    have z0 : ((nn : Int) == 0) = true := by simp [h0]
    clear HR
    go_wp2
    go_ret2
    exact ⟨by rw [HRR.out]; rfl, HB1.out⟩
  have z0 : ((nn : Int) == 0) = false := by simpa using h0
  by_cases h1 : L = nn
  · have z1 : ((L : Int) != (nn : Int)) = false := by simp [h1]
    have HRR : Hid (R = some (joinS (l.take (leastN l L 1)))) := by show _ = _; rw [HR.out, if_neg (by rw [← HNN.out]; omega)]
    subst h1
    clear HR HNN
    obtain ⟨rfl, hg⟩ := ha (by omega)
    have HC := hid_mk hcell
    have HS : Hid (∀ w, Below W.heap.size W w → Sid w) := fun w hb => hs.keep hb
    have HZ := hid_mk hz
    clear ha hcell hs hz
    go_wp2
    go_loopw [7] (fun a7 wr => ∃ k : Nat, (1 ≤ k ∧ k ≤ L) ∧ a7 = .int .i64 (k : Int) ∧ Hid (Below W.heap.size W wr ∧ leastN l L 1 = leastN l (L + 1 - k) k)) (fun a7 _ => L + 1 - (intOf a7).toNat)
    case atStart => exact ⟨1, ⟨by omega, by omega⟩, rfl, HB1.out, rfl⟩
    case round =>
      obtain ⟨k, ⟨hk1, hkL⟩, rfl, HJ⟩ := hrel
      have hkc : k ≤ c := by omega
      have htk : (l.take k).length = k := by rw [List.length_take, HLL.out]; omega
      have hc1 := spread_any ((HL.out.keep HJ.out.1).take k (by rw [HLL.out]; exact hkL)) (by omega) (by omega) (HS.out wr HJ.out.1)
      have HC2 : Hid (∀ w, Below W.heap.size W w → Calls Tryz.prog 34 #[.slice (some ⟨g, o, none⟩) L c] w fun e w' => e = .returned (spA l) ∧ Below w.heap.size w w') := fun w hb => spread_any (HL.out.keep hb) (by rw [HLL.out]; omega) (by rw [HLL.out]; omega) (HS.out w hb)
      obtain ⟨a0, a1, a2, a3, ea, la⟩ := sp_four (l.take k)
      obtain ⟨b0, b1, b2, b3, eb, lb⟩ := sp_four l
      have hE : ∀ w, (Op.equalIn 10000 70 (.agg #[.string a0, .string a1, .string a2, .string a3]) (.agg #[.string b0, .string b1, .string b2, .string b3])).run Tryz.prog w = .ok (decide (spL (l.take k) = spL l)) w := fun w => by
        rw [la, lb]
        exact arr_eq w _ _ _ _ _ _ _ _
      rw [ea] at hc1
      rw [eb] at HC2
      have HLS : Hid (leastN l (L + 1 - k) k = if spL (l.take k) = spL l then k else leastN l (L - k) (k + 1)) := by
        show _ = _
        rw [show L + 1 - k = (L - k) + 1 by omega]
        rfl
      have HTK := hid_mk htk
      have hwr : IntKind.i64.wrap ((k : Int) + 1) = ((k + 1 : Nat) : Int) := by rw [IntKind.wrap_i64]; omega
      clear htk ea eb la lb
      go_wp2_with (go_at_call 34; fail)
      refine hc1.mono ?_
      rintro e w2 ⟨rfl, hb2⟩
      have HB2 : Hid (Below W.heap.size W w2) := HJ.out.1.trans (hb2.mono HJ.out.1.size)
      have hc2 := HC2.out w2 HB2.out
      clear hc1 hb2 HC2
      go_wp2_with (go_at_call 34; fail)
      refine hc2.mono ?_
      rintro e w3 ⟨rfl, hb3⟩
      have HB3 : Hid (Below W.heap.size W w3) := HB2.out.trans (hb3.mono HB2.out.size)
      have hE3 := hE w3
      clear hc2 hb3 HB2 hE
      by_cases hq : spL (l.take k) = spL l
      · have HLE : Hid (leastN l L 1 = k) := by show _ = _; rw [HJ.out.2, HLS.out, if_pos hq]
        rw [decide_eq_true hq] at hE3
        have hjn := Any.strings_Join laysJn extraJn g o c (l.take k) ⟨#[32]⟩ w3 (fun j x hx => by
            have hx2 : l[j]? = some x := by
              rw [List.getElem?_take] at hx
              split at hx
              · exact hx
              · cases hx
            have h5 := HC.out j x hx2
            exact (HB3.out.cell (p := ⟨g, o + j, none⟩) (P.lt_of_cell h5)).trans h5) (Nat.lt_of_lt_of_le hg HB3.out.size) (by rw [HTK.out]; omega) (by rw [HTK.out]; omega)
          (Nat.le_trans (join_le (l.take k) (fun x hx => HZ.out x (List.mem_of_mem_take hx))) (by rw [HTK.out]; omega))
        rw [HTK.out] at hjn
        have hjn : Calls Tryz.prog 35 #[.slice (some ⟨g, o, none⟩) k c, .string ⟨#[32]⟩] w3 fun e w' => e = .returned (.string (joinS (l.take k))) ∧ Below w3.heap.size w3 w' := hjn
        have HRK : Hid (R = some (joinS (l.take k))) := by show _ = _; rw [HRR.out, HLE.out]
        generalize joinS (l.take k) = js at *
        clear HC HS HZ HL HLS HRR HJ HTK
        go_wp2_with (go_at_call 35; fail)
        refine hjn.mono ?_
        rintro e w4 ⟨rfl, hb4⟩
        have HB4 : Hid (Below W.heap.size W w4) := HB3.out.trans (hb4.mono HB3.out.size)
        clear hjn hb4
        go_wp2
        go_ret2
        exact ⟨by rw [HRK.out]; rfl, HB4.out⟩
      · have HLE : Hid (leastN l L 1 = leastN l (L + 1 - (k + 1)) (k + 1)) := by
          show _ = _
          rw [HJ.out.2, HLS.out, if_neg hq, show L + 1 - (k + 1) = L - k by omega]
        rw [decide_eq_false hq] at hE3
        have hkl2 : k < L := by
          rcases Nat.lt_or_ge k L with h | h
          · exact h
          · exfalso
            apply hq
            rw [List.take_of_length_le (by rw [HLL.out]; exact h)]
        clear HJ HLS
        go_wp2
        exact ⟨⟨k + 1, ⟨by omega, by omega⟩, rfl, HB3.out, HLE.out⟩, by simp [intOf]; omega⟩
  · have z1 : ((L : Int) != (nn : Int)) = true := by simp; omega
    have HRR : Hid (R = none) := by show _ = _; rw [HR.out, if_pos (.inr (by rw [← HNN.out]; exact h1))]
    clear HR
    go_wp2
    go_ret2
    exact ⟨by rw [HRR.out]; rfl, HB1.out⟩
end Go.Proofs.YtlhdapckenjigaaGreatDoor.S
namespace Go.Proofs.YtlhdapckenjigaaGreatDoor.S
open Go.RowKit
open Go.Proofs.YtlhdapckenjigaaGreatDoor.L (T5 V VsAt t5Cells vCells cell_of_heap hid_mk cellAt set_at)
open Go.Proofs.YtlhdapckenjigaaGreatDoor.P (Bx StrAt)
open Go.Proofs.YtlhdapckenjigaaGreatDoor.Z (valsS okS okS_out vals_ok)
set_option maxRecDepth 100000

/-- Where a call begins. -/
structure Okk (w : World) : Prop where
  ok : Z.Ok w
  sid : Sid w
theorem Okk.keep {w w' : World} (h : Okk w) (hb : Below w.heap.size w w') : Okk w' := ⟨h.ok.keep hb, h.sid.keep hb⟩
theorem flat3 : ∀ (l : List Lg) (k j : Nat) (x : Lg), l[k]? = some x → j < 3 → (l.flatMap lgC)[k * 3 + j]? = (lgC x)[j]?
  | [], k, j, x, h, _ => by simp at h
  | y :: r, 0, j, x, h, hj => by
    simp at h
    subst h
    rw [List.flatMap_cons, List.getElem?_append_left (by simp [lgC]; omega)]
    simp
  | y :: r, k + 1, j, x, h, hj => by
    rw [List.flatMap_cons, List.getElem?_append_right (by simp [lgC]; omega)]
    have : (k + 1) * 3 + j - (lgC y).length = k * 3 + j := by simp [lgC]; omega
    rw [this]
    exact flat3 r k j x (by simpa using h) hj
theorem LgAt.form {T : Nat} {w : World} {v : Value} {l : List Lg} (h : LgAt T w v l) : ∃ a c, v = .slice a l.length c ∧ l.length ≤ c ∧ c ≤ 9223372036854775807 ∧ (0 < l.length → ∃ g, a = some ⟨g, 0, none⟩ ∧ ∀ (k : Nat) (x : Lg), l[k]? = some x → w.cell? ⟨g, k * 3, none⟩ = some (.string x.n) ∧ w.cell? ⟨g, k * 3 + 1, none⟩ = some (.string x.v) ∧ w.cell? ⟨g, k * 3 + 2, none⟩ = some (.bool x.i)) := by
  rcases h.2 with ⟨hv, hn⟩ | ⟨g, cap, cur, hv, _, hg, hm, hc, hs, _⟩
  · exact ⟨none, 0, by rw [hv, hn], by omega, by omega, fun h => by omega⟩
  · refine ⟨_, _, hv, hm, ?_, fun _ => ⟨g, rfl, fun k x hk => ?_⟩⟩
    · unfold maxLen at hc
      omega
    · have key : ∀ j u, j < 3 → (lgC x)[j]? = some u → w.cell? ⟨g, k * 3 + j, none⟩ = some u := fun j u hj hu => by
        have := World.ownsRow.cells h (g := g) (by rw [hv]; rfl) (k * 3 + j) u (by rw [flat3 l k j x hk hj, hu])
        rw [Addr.add_mid, Nat.zero_add] at this
        exact this
      exact ⟨key 0 _ (by omega) rfl, key 1 _ (by omega) rfl, key 2 _ (by omega) rfl⟩
/-- values of a text, in a declaration: what it is expanded to. -/
theorem exp_ok {s name : ByteArray} {imp : Bool} {R : List Lg} (h : okS s = true) (hR : expO name (valsS s) imp = R) {W : World} {v : Value} (hv : VsAt (fun _ => True) W v (valsS s)) (hok : Okk W) :
    Calls Tryz.prog 11 #[.agg #[.string name, v, .bool imp]] W fun e w' => ∃ a n c, e = .returned (.slice a n c) ∧ n = R.length ∧ LgAt 43 w' (.slice a n c) R ∧ Below W.heap.size W w' := by
  rw [← hR]
  exact expand_any name imp hv (okS_out h).2.2.1 (okS_out h).2.2.2 hok.ok hok.sid
def tA : ByteArray := ⟨#[49, 112, 120, 32, 50, 112, 120]⟩
def nM : ByteArray := ⟨#[109, 97, 114, 103, 105, 110]⟩
def v1 : ByteArray := ⟨#[49, 112, 120]⟩
def v2 : ByteArray := ⟨#[50, 112, 120]⟩
def nT : ByteArray := ⟨#[109, 97, 114, 103, 105, 110, 45, 116, 111, 112]⟩
def nL : ByteArray := ⟨#[109, 97, 114, 103, 105, 110, 45, 108, 101, 102, 116]⟩
def nR : ByteArray := ⟨#[109, 97, 114, 103, 105, 110, 45, 114, 105, 103, 104, 116]⟩
def nB : ByteArray := ⟨#[109, 97, 114, 103, 105, 110, 45, 98, 111, 116, 116, 111, 109]⟩
theorem okA : okS tA = true := by kernel_rfl
theorem exA0 : expO nM (valsS tA) false = [⟨nT, v1, false⟩, ⟨nR, v2, false⟩, ⟨nB, v1, false⟩, ⟨nL, v2, false⟩] := by kernel_rfl
theorem exA : ∃ y z, expO nM (valsS tA) false = [⟨nT, v1, false⟩, y, z, ⟨nL, v2, false⟩] := ⟨_, _, exA0⟩
theorem jnA : joinO nM [v1, v2, v1, v2] = some tA := by kernel_rfl
set_option maxHeartbeats 2000000 in
theorem lives_any (w : World) (hok : Okk w) : Calls Tryz.prog 8 #[] w fun e w' => e = .returned (.bool true) ∧ Below w.heap.size w w' := by
  have hva := vals_ok okA w
  obtain ⟨y, z, hex⟩ := exA
  have HX : Hid (∀ W v, VsAt (fun _ => True) W v (valsS tA) → Below w.heap.size w W → Calls Tryz.prog 11 #[.agg #[.string nM, v, .bool false]] W fun e w' => ∃ a n c, e = .returned (.slice a n c) ∧ n = 4 ∧ LgAt 43 w' (.slice a n c) [⟨nT, v1, false⟩, y, z, ⟨nL, v2, false⟩] ∧ Below W.heap.size W w') := fun W v hv hb => exp_ok okA hex hv (hok.keep hb)
  have HJN : Hid (∀ W, Below w.heap.size w W → Calls Tryz.prog 15 #[.string nM, .slice (some ⟨W.heap.size, 0, none⟩) 4 4] (W.alloc (.cells #[.string v1, .string v2, .string v1, .string v2] 9)) fun e w' => e = .returned (.tuple #[.string tA, .bool true]) ∧ Below W.heap.size W w') := fun W hb => by
    have hs : StrAt (W.alloc (.cells #[.string v1, .string v2, .string v1, .string v2] 9)) (.slice (some ⟨W.heap.size, 0, none⟩) 4 4) [v1, v2, v1, v2] := StrAt.lit W [v1, v2, v1, v2] (by simp)
    have hba : Below W.heap.size W (W.alloc (.cells #[.string v1, .string v2, .string v1, .string v2] 9)) := (Below.refl _ W).alloc (Nat.le_refl _) _
    have := join_any nM (SsAt.of hs) (by decide) (hok.keep (hb.trans (hba.mono hb.size))).sid
    rw [jnA] at this
    exact this.mono fun e w' h => ⟨h.1, hba.trans (h.2.mono hba.size)⟩
  have HTA : Hid (tA = ⟨#[49, 112, 120, 32, 50, 112, 120]⟩) := rfl
  unfold tA nM at *
  go_enter Tryz.func8, Tryz.ntmps8
  go_wp2_with (go_at_call 21; fail)
  refine hva.mono ?_
  rintro e w1 ⟨u, rfl, hvu, hb1⟩
  have HB1 := hid_mk hb1
  have hx := HX.out w1 u hvu hb1
  obtain ⟨ua, uc, rfl, _, _⟩ := hvu.slice
  generalize (valsS { data := #[49, 112, 120, 32, 50, 112, 120] }).length = un at *
  clear hva HX hvu hb1
  go_wp2_with (go_at_call 11; fail)
  refine hx.mono ?_
  rintro e w2 ⟨a, n, c, rfl, rfl, hlg, hb2⟩
  have HB2 : Hid (Below w.heap.size w w2) := HB1.out.trans (hb2.mono HB1.out.size)
  have hj := HJN.out w2 HB2.out
  have HLG := hid_mk hlg
  clear hx hb2 HJN hlg HB1
  go_wp2_with (go_at_call 15; fail)
  refine hj.mono ?_
  rintro e w3 ⟨rfl, hb3⟩
  have HB3 : Hid (Below w.heap.size w w3) := HB2.out.trans (hb3.mono HB2.out.size)
  have hl3 := HLG.out.keep hb3
  obtain ⟨a', c', ea, h1, h2, h3⟩ := hl3.form
  cases ea
  obtain ⟨g, rfl, hcell⟩ := h3 (by simp)
  obtain ⟨k0, k1, k2⟩ := hcell 0 _ rfl
  obtain ⟨m0, m1, m2⟩ := hcell 3 _ rfl
  clear hj hb3 HLG hl3 hcell h3 HB2
  simp only [Nat.zero_mul, Nat.zero_add] at k0 k1 k2
  unfold nT v1 v2 nL at *
  go_wp2
  go_ret
  exact ⟨rfl, HB3.out⟩
end Go.Proofs.YtlhdapckenjigaaGreatDoor.S
