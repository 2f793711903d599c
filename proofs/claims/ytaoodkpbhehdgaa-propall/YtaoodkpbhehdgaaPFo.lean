/- prop.found: a longhand behind its place. -/
import Derived.Test.YtaoodkpbhehdgaaPEa
import Derived.RangeFuncBox
namespace Go.Proofs.Ytaoodkpbhehdgaa
open Go.RowKit Go.Shelf
set_option maxRecDepth 100000
attribute [local go_sem] Oper.semAt_some

def isN (name : ByteArray) (x : Nat × Pr) : Bool := x.2.n.toList == name.toList
def fnd (name : ByteArray) : Option (Nat × Pr) := TZ.find? (isN name)
def plc (name : ByteArray) : Int := match fnd name with
  | some x => x.1
  | none => -1
def prc (name : ByteArray) : Pr := match fnd name with
  | some x => x.2
  | none => z0
abbrev c4 (p : Pr) : Array Value := #[.string p.n, .string p.i, .bool p.h, .string p.f]

/-- A block of cells. -/
def Bx (W : World) (B : Nat) (t : TypeId) (cs : Array Value) : Prop := W.heap[B]? = some (.cells cs t (0, 0))
theorem Bx.lt {W : World} {B : Nat} {t : TypeId} {cs : Array Value} (h : Bx W B t cs) : B < W.heap.size := (Array.getElem?_eq_some_iff.1 h).1
theorem Bx.cell {W : World} {B : Nat} {t : TypeId} {cs : Array Value} (h : Bx W B t cs) (k : Nat) (v : Value) (hv : cs[k]? = some v) : W.cell? ⟨B, k, none⟩ = some v := by
  simp [World.cell?, show W.heap[B]? = _ from h, hv]
theorem Bx.frozen {W : World} {B : Nat} {t : TypeId} {cs : Array Value} (h : Bx W B t cs) (k : Nat) : W.frozen? ⟨B, k, none⟩ = false := by simp [World.frozen?, show W.heap[B]? = _ from h]
theorem Bx.new (W : World) (t : TypeId) (cs : Array Value) : Bx (W.alloc (.cells cs t)) W.heap.size t cs := World.alloc_heap_new W _
theorem Bx.kept {W W' : World} {row : Option Nat} {B : Nat} {t : TypeId} {cs : Array Value} (h : Bx W B t cs) (hg : W.grownBy W' row) (hne : some B ≠ row) : Bx W' B t cs := (hg.block B h.lt hne).trans h
theorem Bx.alloc {W : World} {B : Nat} {t : TypeId} {cs : Array Value} (h : Bx W B t cs) (o : Obj) : Bx (W.alloc o) B t cs := h.kept (World.grownBy_alloc W o none) (by simp)
theorem bx_own {β : Type} (B : Nat) (t : TypeId) (cs : β → Array Value) : Own (fun s W => Bx W B t (cs s)) := fun s W W' row h hg hr => h.kept hg fun e => by
  obtain ⟨o, ho, hc⟩ := hr B e.symm
  rw [show W.heap[B]? = _ from h] at ho
  cases ho
  cases hc
theorem Bx.other {W : World} {B : Nat} {t : TypeId} {cs : Array Value} (h : Bx W B t cs) (a : Addr) (u : Value) (hne : B ≠ a.block) : Bx (W.setCell a u) B t cs := (Below.heap_setCell W a u B hne).trans h
theorem Bx.set {W : World} {B : Nat} {t : TypeId} {cs : Array Value} (h : Bx W B t cs) (k : Nat) (u : Value) : Bx (W.setCell ⟨B, k, none⟩ u) B t (cs.setIfInBounds k u) := by
  obtain ⟨hlt, hk⟩ := Array.getElem?_eq_some_iff.1 h
  show (W.heap.modify B _)[B]? = _
  rw [Array.getElem?_eq_getElem (by rw [Array.size_modify]; exact hlt), Array.getElem_modify_self, hk]
  rfl

/-- Between two rounds; where a round has left. -/
def FI (name : ByteArray) (b : Nat) (w : World) (pre : List (Nat × Pr)) (W : World) : Prop :=
  ((pre.find? (isN name) = none ∧ Bx W b 9 #[.string name]) ∧ (Bx W (b + 1) 3 #[.int .i64 0] ∧ Bx W (b + 1 + 1) 28 (c4 z0))) ∧ Below b w W
def FX (name : ByteArray) (b : Nat) (w : World) (c : Code) (pre : List (Nat × Pr)) (W : World) : Prop :=
  c = .ret ∧ ∃ x, pre.find? (isN name) = some x ∧ Bx W (b + 1) 3 #[.int .i64 (x.1 : Int)] ∧ Bx W (b + 1 + 1) 28 (c4 x.2) ∧ Below b w W
theorem FI.own {name : ByteArray} {b B : Nat} {w : World} (h1 : b ≤ w.heap.size) (h2 : b ≤ B) : OwnFrom B (FI name b w) :=
  OwnFrom.and (OwnFrom.and (OwnFrom.and (ownFrom_pure _ _) (Own.from (bx_own _ _ _) _)) (OwnFrom.and (Own.from (bx_own _ _ _) _) (Own.from (bx_own _ _ _) _))) (ownFrom_below h1 h2)
theorem FX.own {name : ByteArray} {b B : Nat} {w : World} (h1 : b ≤ w.heap.size) (h2 : b ≤ B) (c : Code) : OwnFrom B (FX name b w c) := fun s W W' row hs hg hr => by
  obtain ⟨e, x, hx, a1, a2, a3⟩ := hs
  refine ⟨e, x, hx, ?_, ?_, ownFrom_below (β := Unit) h1 h2 () W W' row a3 hg hr⟩
  · exact bx_own (b + 1) 3 (fun _ : Unit => #[.int .i64 (x.1 : Int)]) () W W' row a1 hg fun r e => (hr r e).2
  · exact bx_own (b + 1 + 1) 28 (fun _ : Unit => c4 x.2) () W W' row a2 hg fun r e => (hr r e).2
def FA (name : ByteArray) (b : Nat) (x : Nat × Pr) (a' : Act) (W : World) : Prop :=
  ∃ B, b + 1 + 1 < B ∧ Bx W B 28 (c4 x.2) ∧ a' = { tmps := #[.string name, .pointer (some ⟨b, 0, none⟩), .pointer (some ⟨b + 1, 0, none⟩), .pointer (some ⟨b + 1 + 1, 0, none⟩), .int .i64 (x.1 : Int), .pointer (some ⟨B, 0, none⟩), .int .i64 (x.1 : Int), .agg (c4 x.2), undef, undef, undef, undef, undef, undef, undef], defers := [] }
theorem FA.own {name : ByteArray} {b B : Nat} (x : Nat × Pr) (a' : Act) : OwnFrom B (fun (_ : Unit) W => FA name b x a' W) := fun _ X Y row hs hg hr => by
  obtain ⟨B', e1, e2, e3⟩ := hs
  exact ⟨B', e1, bx_own B' 28 (fun (_ : Unit) => c4 x.2) () X Y row e2 hg (fun r e => (hr r e).2), e3⟩

theorem Bx.dr {W : World} {B : Nat} {t : TypeId} {cs : Array Value} (h : Bx W B t cs) : Bx W.drew B t cs := h
theorem ko_drew (W : World) : KeepsOthers W W.drew := ⟨Nat.le_refl _, fun _ _ h _ => h⟩
theorem st0 {W w : World} {b : Nat} {p : Pr} (v0 v1 v2 v3 v4 : Value) (h3 : Bx W (b + 1) 3 #[.int .i64 0]) (h4 : Bx W (b + 1 + 1) 28 (c4 p)) (h5 : Below b w W) (W' : World)
    (hW : W' = ((((W.setCell ⟨b + 1, 0, none⟩ v0).setCell ⟨b + 1 + 1, 0, none⟩ v1).setCell ⟨b + 1 + 1, 1, none⟩ v2).setCell ⟨b + 1 + 1, 2, none⟩ v3).setCell ⟨b + 1 + 1, 3, none⟩ v4) :
    Bx W' (b + 1) 3 #[v0] ∧ Bx W' (b + 1 + 1) 28 #[v1, v2, v3, v4] ∧ Below b w W' ∧ KeepsOthers W W' := by
  subst hW
  refine ⟨?_, ?_, ?_, ?_⟩
  · exact (((((h3.set 0 v0).other _ _ (by simp)).other _ _ (by simp)).other _ _ (by simp)).other _ _ (by simp))
  · exact (((((h4.other _ _ (by simp)).set 0 v1).set 1 v2).set 2 v3).set 3 v4)
  · exact (((((h5.setCell (p := ⟨b + 1, 0, none⟩) (by simp) v0).setCell (p := ⟨b + 1 + 1, 0, none⟩) (by simp; omega) v1).setCell (p := ⟨b + 1 + 1, 1, none⟩) (by simp; omega) v2).setCell (p := ⟨b + 1 + 1, 2, none⟩) (by simp; omega) v3).setCell (p := ⟨b + 1 + 1, 3, none⟩) (by simp; omega) v4)
  · exact (((((KeepsOthers.setCell _ _ _).trans (KeepsOthers.setCell _ _ _)).trans (KeepsOthers.setCell _ _ _)).trans (KeepsOthers.setCell _ _ _)).trans (KeepsOthers.setCell _ _ _))
theorem st1 {W w : World} {b : Nat} {p : Pr} (v0 v1 v2 v3 v4 : Value) (h3 : Bx W (b + 1) 3 #[.int .i64 0]) (h4 : Bx W (b + 1 + 1) 28 (c4 p)) (h5 : Below b w W) (W' : World)
    (hW : W' = (((((W.setCell ⟨b + 1, 0, none⟩ v0).setCell ⟨b + 1 + 1, 0, none⟩ v1).setCell ⟨b + 1 + 1, 1, none⟩ v2).setCell ⟨b + 1 + 1, 2, none⟩ v3).setCell ⟨b + 1 + 1, 3, none⟩ v4).drew) :
    Bx W' (b + 1) 3 #[v0] ∧ Bx W' (b + 1 + 1) 28 #[v1, v2, v3, v4] ∧ Below b w W' ∧ KeepsOthers W W' := by
  subst hW
  obtain ⟨g1, g2, g3, g4⟩ := st0 v0 v1 v2 v3 v4 h3 h4 h5 _ rfl
  exact ⟨g1.dr, g2.dr, g3.drew, g4.trans (ko_drew _)⟩
theorem st2 {W w : World} {b : Nat} {p : Pr} (v0 v1 v2 v3 v4 : Value) (h3 : Bx W (b + 1) 3 #[.int .i64 0]) (h4 : Bx W (b + 1 + 1) 28 (c4 p)) (h5 : Below b w W) (W' : World)
    (hW : W' = (((((W.setCell ⟨b + 1 + 1, 0, none⟩ v1).setCell ⟨b + 1 + 1, 1, none⟩ v2).setCell ⟨b + 1 + 1, 2, none⟩ v3).setCell ⟨b + 1 + 1, 3, none⟩ v4).setCell ⟨b + 1, 0, none⟩ v0).drew) :
    Bx W' (b + 1) 3 #[v0] ∧ Bx W' (b + 1 + 1) 28 #[v1, v2, v3, v4] ∧ Below b w W' ∧ KeepsOthers W W' := by
  subst hW
  refine ⟨?_, ?_, ?_, ?_⟩
  · exact Bx.dr (((((h3.other _ _ (by simp)).other _ _ (by simp)).other _ _ (by simp)).other _ _ (by simp)).set 0 v0)
  · exact Bx.dr (((((h4.set 0 v1).set 1 v2).set 2 v3).set 3 v4).other _ _ (by simp))
  · exact (((((h5.setCell (p := ⟨b + 1 + 1, 0, none⟩) (by simp; omega) v1).setCell (p := ⟨b + 1 + 1, 1, none⟩) (by simp; omega) v2).setCell (p := ⟨b + 1 + 1, 2, none⟩) (by simp; omega) v3).setCell (p := ⟨b + 1 + 1, 3, none⟩) (by simp; omega) v4).setCell (p := ⟨b + 1, 0, none⟩) (by simp) v0).drew
  · exact (((((KeepsOthers.setCell _ _ _).trans (KeepsOthers.setCell _ _ _)).trans (KeepsOthers.setCell _ _ _)).trans (KeepsOthers.setCell _ _ _)).trans (KeepsOthers.setCell _ _ _)).trans (ko_drew _)
theorem find_pre {name : ByteArray} {pre l : List (Nat × Pr)} {x : Nat × Pr} (h : pre <+: l) (hx : pre.find? (isN name) = some x) : l.find? (isN name) = some x := by
  obtain ⟨r, rfl⟩ := h
  rw [List.find?_append, hx]
  rfl
theorem results20 (tmps : Array Value) (w : World) (b : Nat) (i : Int) (p : Pr) (h2 : tmps[2]? = some (.pointer (some ⟨b + 1, 0, none⟩))) (h3 : tmps[3]? = some (.pointer (some ⟨b + 1 + 1, 0, none⟩)))
    (r0 : w.cell? ⟨b + 1, 0, none⟩ = some (.int .i64 i)) (r1 : w.cell? ⟨b + 1 + 1, 0, none⟩ = some (.string p.n)) (r2 : w.cell? ⟨b + 1 + 1, 1, none⟩ = some (.string p.i)) (r3 : w.cell? ⟨b + 1 + 1, 2, none⟩ = some (.bool p.h)) (r4 : w.cell? ⟨b + 1 + 1, 3, none⟩ = some (.string p.f)) :
    (results Try.f11 tmps).run Try.prog w = .ok (.tuple #[.int .i64 i, .agg (c4 p)]) w := by
  simp [results, Try.f11, go_sem, h2, h3, r0, r1, r2, r3, r4]

set_option maxHeartbeats 4000000 in
theorem found_in (n : Nat) (hn : 6 ≤ n) (name : ByteArray) (w : World) : CallsIn Fence.wide n Try.prog 11 #[.string name] w fun e W' => e = .returned (.tuple #[.int .i64 (plc name), .agg (c4 (prc name))]) ∧ Below w.heap.size w W' := by
  have h1 : 1 ≤ n := by omega
  refine callsIn_of_wp_marks Try.func11 rfl trivial ?_ rfl
  simp only [Try.ntmps11, List.size_toArray, List.length_cons, List.length_nil, Nat.reduceAdd, Nat.reduceSub, Array.replicate_succ, Array.replicate_zero, List.push_toArray, List.append_toArray, List.nil_append, List.cons_append]
  gi_wp2
  have bA := ((Bx.new w 9 #[.string name]).alloc (.cells #[.int .i64 0] 3)).alloc (.cells (c4 z0) 28)
  have bB := (Bx.new (w.alloc (.cells #[.string name] 9)) 3 #[.int .i64 0]).alloc (.cells (c4 z0) 28)
  have bC := Bx.new ((w.alloc (.cells #[.string name] 9)).alloc (.cells #[.int .i64 0] 3)) 28 (c4 z0)
  simp only [World.size_alloc] at bB bC
  have hB0 : Below w.heap.size w (((w.alloc (.cells #[.string name] 9)).alloc (.cells #[.int .i64 0] 3)).alloc (.cells (c4 z0) 28)) := (((Below.refl _ w).alloc (Nat.le_refl _) _).alloc (by simp) _).alloc (by simp; omega) _
  have hsz : (((w.alloc (.cells #[.string name] 9)).alloc (.cells #[.int .i64 0] 3)).alloc (.cells (c4 z0) 28)).heap.size = w.heap.size + 3 := by simp
  show Code.wpIn _ _ _ _ _ _ (((w.alloc (.cells #[.string name] 9)).alloc (.cells #[.int .i64 0] 3)).alloc (.cells (c4 z0) 28))
  obtain ⟨W0, hW0⟩ : ∃ W0, ((w.alloc (.cells #[.string name] 9)).alloc (.cells #[.int .i64 0] 3)).alloc (.cells (c4 z0) 28) = W0 := ⟨_, rfl⟩
  rw [hW0] at bA bB bC hB0 hsz ⊢
  clear hW0
  obtain ⟨b, hb⟩ : ∃ b, b = w.heap.size := ⟨_, rfl⟩
  rw [← hb] at bA bB bC hB0 hsz ⊢
  have hbw : b ≤ w.heap.size := by omega
  have HBW := hid_mk hbw
  have HBE := hid_mk hb
  have HSZ := hid_mk hsz
  clear hb hbw
  refine wpIn_rangeFunc_ownH rfl h1 (gf := 15) (lb := #[]) rfl trivial (enters_of Try.func15 (by kernel_rfl) rfl)
    (each_stops (n - 1) (by omega) W0) walksK_t (walksK_b (w := W0)) (Below.refl _ _) (fun _ => rfl)
    (FI name b w) (FX name b w) (FI.own HBW.out (by rw [HSZ.out]; omega)) (FX.own HBW.out (by rw [HSZ.out]; omega)) ⟨⟨⟨rfl, bA⟩, bB, bC⟩, hB0⟩
    (FA name b) FA.own ?assign ?body ?done ?stop
  case assign =>
    rintro l pre x W K ⟨⟨⟨i1, i2⟩, i3, i4⟩, i5⟩ hK
    gi_wp2
    have hlt2 : b + 1 + 1 < W.heap.size := i4.lt
    exact hK _ _ ((KeepsOthers.alloc _ _).from _) (KeepsOthers.alloc _ _).walks ⟨⟨⟨i1, i2.alloc _⟩, i3.alloc _, i4.alloc _⟩, i5.alloc (by omega) _⟩ ⟨W.heap.size, hlt2, Bx.new W 28 _, rfl⟩
  case body =>
    rintro l pre x a' W hl ⟨r, hr⟩ ⟨⟨⟨i1, i2⟩, i3, i4⟩, i5⟩ ⟨B, hB, bX, rfl⟩ hlt
    obtain ⟨xi, xn, xt, xh, xf⟩ := x
    have q1 : W.cell? ⟨B, 0, none⟩ = some (.string xn) := bX.cell 0 _ rfl
    have q2 : W.cell? ⟨B, 1, none⟩ = some (.string xt) := bX.cell 1 _ rfl
    have q3 : W.cell? ⟨B, 2, none⟩ = some (.bool xh) := bX.cell 2 _ rfl
    have q4 : W.cell? ⟨B, 3, none⟩ = some (.string xf) := bX.cell 3 _ rfl
    have q0 : W.cell? ⟨b, 0, none⟩ = some (.string name) := i2.cell 0 _ rfl
    have r0 : W.cell? ⟨b + 1, 0, none⟩ = some (.int .i64 0) := i3.cell 0 _ rfl
    have f0 := i3.frozen 0
    have r1 : W.cell? ⟨b + 1 + 1, 0, none⟩ = some (.string ⟨#[]⟩) := i4.cell 0 _ rfl
    have r2 : W.cell? ⟨b + 1 + 1, 1, none⟩ = some (.string ⟨#[]⟩) := i4.cell 1 _ rfl
    have r3 : W.cell? ⟨b + 1 + 1, 2, none⟩ = some (.bool false) := i4.cell 2 _ rfl
    have r4 : W.cell? ⟨b + 1 + 1, 3, none⟩ = some (.string ⟨#[]⟩) := i4.cell 3 _ rfl
    have f1 := i4.frozen 0
    have f2 := i4.frozen 1
    have f3 := i4.frozen 2
    have f4 := i4.frozen 3
    have hne : B ≠ b + 1 := by omega
    have hne2 : B ≠ b + 1 + 1 := by omega
    cases hnm : (xn.toList == name.toList) with
    | true =>
      have hmix : Try.prog.follows .mixedOrders = true := by kernel_rfl
      have hfn : (pre ++ [(xi, (⟨xn, xt, xh, xf⟩ : Pr))]).find? (isN name) = some (xi, ⟨xn, xt, xh, xf⟩) := by
        rw [List.find?_append, i1]
        have : isN name (xi, ⟨xn, xt, xh, xf⟩) = true := hnm
        simp [this]
      have HFN := hid_mk hfn
      clear hfn
      gi_wp2
      have fin : ∀ (W' : World) (a' : Act), (Bx W' (b + 1) 3 #[.int .i64 (xi : Int)] ∧ Bx W' (b + 1 + 1) 28 #[.string xn, .string xt, .bool xh, .string xf] ∧ Below b w W' ∧ KeepsOthers W W') → ownPostG W0.heap.size KeepsWalks (FI name b w) (FX name b w) (pre ++ [(xi, (⟨xn, xt, xh, xf⟩ : Pr))]) W .ret a' W' := fun W' a' h => ⟨h.2.2.2.from _, rfl, _, HFN.out, h.1, h.2.1, h.2.2.1⟩
      gi_region_with_o (fail)
      all_goals gi_wp2
      all_goals first
        | (refine fin _ _ (st1 (.int .i64 (xi : Int)) (.string xn) (.string xt) (.bool xh) (.string xf) i3 i4 i5 _ ?_); with_reducible rfl)
        | (refine fin _ _ (st2 (.int .i64 (xi : Int)) (.string xn) (.string xt) (.bool xh) (.string xf) i3 i4 i5 _ ?_); with_reducible rfl)
    | false =>
      gi_wp2
      refine ⟨(KeepsOthers.refl _).from _, (KeepsOthers.refl _).walks, ⟨⟨?_, i2⟩, i3, i4⟩, i5⟩
      rw [List.find?_append, i1]
      have : isN name (xi, ⟨xn, xt, xh, xf⟩) = false := hnm
      simp [this]
  case done =>
    rintro D ys W hD rfl ⟨⟨⟨i1, i2⟩, i3, i4⟩, i5⟩ hK
    have r0 : W.cell? ⟨b + 1, 0, none⟩ = some (.int .i64 0) := i3.cell 0 _ rfl
    have f0 := i3.frozen 0
    have r1 : W.cell? ⟨b + 1 + 1, 0, none⟩ = some (.string ⟨#[]⟩) := i4.cell 0 _ rfl
    have r2 : W.cell? ⟨b + 1 + 1, 1, none⟩ = some (.string ⟨#[]⟩) := i4.cell 1 _ rfl
    have r3 : W.cell? ⟨b + 1 + 1, 2, none⟩ = some (.bool false) := i4.cell 2 _ rfl
    have r4 : W.cell? ⟨b + 1 + 1, 3, none⟩ = some (.string ⟨#[]⟩) := i4.cell 3 _ rfl
    have f1 := i4.frozen 0
    have f2 := i4.frozen 1
    have f3 := i4.frozen 2
    have f4 := i4.frozen 3
    gi_wp2
    obtain ⟨W', hW'⟩ : ∃ W', W' = ((((W.setCell ⟨b + 1, 0, none⟩ (.int .i64 (-1))).setCell ⟨b + 1 + 1, 0, none⟩ (.string ⟨#[]⟩)).setCell ⟨b + 1 + 1, 1, none⟩ (.string ⟨#[]⟩)).setCell ⟨b + 1 + 1, 2, none⟩ (.bool false)).setCell ⟨b + 1 + 1, 3, none⟩ (.string ⟨#[]⟩) := ⟨_, rfl⟩
    obtain ⟨g1, g2, g3, g4⟩ := st0 (.int .i64 (-1)) (.string ⟨#[]⟩) (.string ⟨#[]⟩) (.bool false) (.string ⟨#[]⟩) i3 i4 i5 _ hW'
    rw [← hW']
    have hK' := g4.same D _ hK rfl
    have hg := grownBy_putObj' W' D (.deferred none)
    have hneD : ∀ k, k < b + 3 → some k ≠ some D := fun k hk e => by
      injection e with e
      have := HSZ.out
      omega
    have k1 := g1.kept hg (hneD _ (by omega))
    have k2 := g2.kept hg (hneD _ (by omega))
    refine ⟨by simp, .inl ⟨_, _, rfl, run_takeDeferred hK', ?_⟩⟩
    refine ⟨_, results20 _ _ b (-1) z0 rfl rfl (k1.cell 0 _ rfl) (k2.cell 0 _ rfl) (k2.cell 1 _ rfl) (k2.cell 2 _ rfl) (k2.cell 3 _ rfl), ?_, ?_⟩
    · unfold plc prc fnd
      rw [i1]
    · exact HBE.out ▸ g3.trans (belowK_b (w := W0) (by rw [HSZ.out]; omega) W' D _ _ hD hK' rfl rfl)
  case stop =>
    rintro D c pre W hD hSp ⟨rfl, x, hx, x1, x2, x3⟩ hK
    gi_wp2
    have hg := grownBy_putObj' W D (.deferred none)
    have hneD : ∀ k, k < b + 3 → some k ≠ some D := fun k hk e => by
      injection e with e
      have := HSZ.out
      omega
    have k1 := x1.kept hg (hneD _ (by omega))
    have k2 := x2.kept hg (hneD _ (by omega))
    refine ⟨by simp, .inl ⟨_, _, rfl, run_takeDeferred hK, ?_⟩⟩
    refine ⟨_, results20 _ _ b x.1 x.2 rfl rfl (k1.cell 0 _ rfl) (k2.cell 0 _ rfl) (k2.cell 1 _ rfl) (k2.cell 2 _ rfl) (k2.cell 3 _ rfl), ?_, ?_⟩
    · have hxx : fnd name = some x := find_pre hSp hx
      unfold plc prc
      rw [hxx]
    · exact HBE.out ▸ x3.trans (belowK_b (w := W0) (by rw [HSZ.out]; omega) W D _ _ hD hK rfl rfl)
theorem found_any (name : ByteArray) (w : World) : Calls Try.prog 11 #[.string name] w fun e W' => e = .returned (.tuple #[.int .i64 (plc name), .agg (c4 (prc name))]) ∧ Below w.heap.size w W' := (callsIn_wide (n := 6)).1 (found_in 6 (by omega) name w)
end Go.Proofs.Ytaoodkpbhehdgaa
