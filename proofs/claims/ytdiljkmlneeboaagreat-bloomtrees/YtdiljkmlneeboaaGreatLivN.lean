/- The document's example. -/
import Derived.Test.YtdiljkmlneeboaaGreatPakN
namespace Go.Proofs.YtdiljkmlneeboaaGreat.N
open Go.RowKit
set_option maxRecDepth 100000

def sA : ByteArray := ⟨#[97]⟩
def sB : ByteArray := ⟨#[98]⟩
def sC : ByteArray := ⟨#[99]⟩
theorem name_a : nameZ sA = true := by decide +kernel
theorem name_b : nameZ sB = true := by decide +kernel
theorem name_c : nameZ sC = true := by decide +kernel
def mA : M := mset (fun _ => none) 1 ⟨1, sA, 0, [], []⟩
def mB : M := insM mA 2 1 0 sB
def mC : M := insM mB 3 1 0 sC
theorem mA1 : mA 1 = some ⟨1, sA, 0, [], []⟩ := mset_same _ _ _
theorem mB1 : mB 1 = some ⟨1, sA, 0, [2], []⟩ := rfl
theorem mC1 : mC 1 = some ⟨1, sA, 0, [3, 2], []⟩ := rfl
theorem mC2 : mC 2 = some ⟨2, sB, 1, [], []⟩ := rfl
theorem mC3 : mC 3 = some ⟨3, sC, 1, [], []⟩ := rfl
def mD : M := mvM mC 3 2 0
theorem mD1 : mD 1 = some ⟨1, sA, 0, [2], []⟩ := rfl
theorem mD3 : mD 3 = some ⟨3, sC, 2, [], []⟩ := rfl
theorem mD2 : mD 2 = some ⟨2, sB, 1, [3], []⟩ := rfl
theorem upsA : (ups mA 1).length < 512 := by simp [ups, upL, mA, mset]
theorem upsB : (ups mB 1).length < 512 := by
  unfold ups
  rw [upL_some mB1, upL_none (by rfl)]
  decide
theorem insA : insErr mA 1 ((0 : Nat) : Int) sB = 0 := insErr_ok mA1 (Nat.zero_le _) name_b upsA
theorem insB : insErr mB 1 ((0 : Nat) : Int) sC = 0 := insErr_ok mB1 (Nat.zero_le _) name_c upsB
theorem fullC : Full mC 3 1 := ⟨Nat.le_refl _, rfl, fun k hk => by
  obtain rfl : k = 0 := by omega
  simp [lev]⟩
theorem upsC2 : ups mC 2 = [2, 1] := by
  unfold ups
  rw [upL_some mC2, upL_some mC1, upL_none (by rfl)]
theorem movC : movErr mC 3 2 ((0 : Nat) : Int) 1 = 0 := by
  unfold movErr
  rw [mC3, mC2, upsC2]
  decide
theorem upsD3 : ups mD 3 = [3, 2, 1] := by
  unfold ups
  rw [upL_some mD3, upL_some mD2, upL_some mD1, upL_none (by rfl)]
theorem movD (k : Nat) : movErr mD 2 3 ((0 : Nat) : Int) k = 2 := by
  unfold movErr
  rw [mD2, mD3, upsD3]
  simp
theorem cntD : Cnt mD 3 := by
  have h1 : Cnt mA 1 := Cnt.zero.set 1 _
  have h2 : Cnt mB 2 := (h1.set 2 ⟨2, sB, 1, [], []⟩).set 1 _
  have h3 : Cnt mC 3 := (h2.set 3 ⟨3, sC, 1, [], []⟩).set 1 _
  exact h3.mv 3 2 0
/-- What of a Doc Len and Next look at. -/
def HeadAt (w : World) (dp : Value) (sz : Nat) (nx : Int) : Prop := ∃ b tb r c, dp = .pointer (some ⟨b, 0, none⟩) ∧ w.heap[b]? = some (.cells #[.pointer (some ⟨tb, 0, none⟩), .int .i64 nx] 88 (0, 0)) ∧ w.heap[tb]? = some (.cells #[r, .int .i64 sz, c] 153 (0, 0))
theorem Tree.head {w : World} {dp : Value} {m : M} {nx : Int} (h : Tree w dp m nx) {k : Nat} (hk : Cnt m k) : HeadAt w dp k nx := by
  obtain ⟨⟨b, tp, rfl, h1, t, hA, ⟨b', kk, rfl⟩, h3, h4⟩, _⟩ := h
  rcases hA.lies with ⟨_, h⟩ | ⟨tb, rfl, ht⟩
  · cases h
  · rw [hk.uniq h4]
    exact ⟨b, tb, _, _, rfl, h1, ht⟩
theorem HeadAt.keep {w w' : World} {dp : Value} {sz : Nat} {nx : Int} (h : HeadAt w dp sz nx) (hb : Below w.heap.size w w') : HeadAt w' dp sz nx := by
  obtain ⟨b, tb, r, c, e, h1, h2⟩ := h
  exact ⟨b, tb, r, c, e, (hb.block _ (Array.getElem?_eq_some_iff.1 h1).1).trans h1, (hb.block _ (Array.getElem?_eq_some_iff.1 h2).1).trans h2⟩
/-- A store into an element that lies by itself leaves it. -/
theorem HeadAt.set {w : World} {dp : Value} {sz g o : Nat} {nx : Int} {s : N5} (h : HeadAt w dp sz nx) (hg : NodeAt w g s) (v : Value) : HeadAt (w.setCell ⟨g, o, none⟩ v) dp sz nx := by
  obtain ⟨b, tb, r, c, e, h1, h2⟩ := h
  unfold NodeAt at hg
  refine ⟨b, tb, r, c, e, (Below.heap_setCell w ⟨g, o, none⟩ v b (fun h => ?_)).trans h1, (Below.heap_setCell w ⟨g, o, none⟩ v tb (fun h => ?_)).trans h2⟩
  · dsimp only at h
    rw [h, hg] at h1
    cases h1
  · dsimp only at h
    rw [h, hg] at h2
    cases h2
theorem HeadAt.set5 {w : World} {dp : Value} {sz g : Nat} {nx : Int} {s : N5} (h : HeadAt w dp sz nx) (hg : NodeAt w g s) (s' : N5) : HeadAt (((((w.setCell ⟨g, 0, none⟩ (.int .i64 s'.id)).setCell ⟨g, 1, none⟩ (.string s'.tag)).setCell ⟨g, 2, none⟩ (.int .i64 s'.par)).setCell ⟨g, 3, none⟩ (.slice s'.ka s'.kn s'.kc)).setCell ⟨g, 4, none⟩ (.slice s'.aa s'.an s'.ac)) dp sz nx := by
  obtain ⟨b, tb, r, c, e, h1, h2⟩ := h
  unfold NodeAt at hg
  have hb : b ≠ g := by
    rintro rfl
    rw [hg] at h1
    cases h1
  have ht : tb ≠ g := by
    rintro rfl
    rw [hg] at h2
    cases h2
  refine ⟨b, tb, r, c, e, ?_, ?_⟩
  · rw [Below.heap_setCell _ _ _ b hb, Below.heap_setCell _ _ _ b hb, Below.heap_setCell _ _ _ b hb, Below.heap_setCell _ _ _ b hb, Below.heap_setCell _ _ _ b hb]
    exact h1
  · rw [Below.heap_setCell _ _ _ tb ht, Below.heap_setCell _ _ _ tb ht, Below.heap_setCell _ _ _ tb ht, Below.heap_setCell _ _ _ tb ht, Below.heap_setCell _ _ _ tb ht]
    exact h2
theorem RowAt.two {w : World} {a : Option Addr} {c : Nat} {x y : Value} {n : Nat} (h : RowAt w 1 a n c [x, y]) : n = 2 ∧ ∃ b off, a = some ⟨b, off, none⟩ ∧ b < w.heap.size ∧ w.cell? ⟨b, off, none⟩ = some x ∧ w.cell? ⟨b, off + 1, none⟩ = some y := by
  have h1 := h.1
  simp at h1
  refine ⟨h1.symm, ?_⟩
  rcases h.2.2.2.2 with ⟨_, h2⟩ | ⟨b, off, e, hl, hc⟩
  · have := h.2.1
    omega
  · exact ⟨b, off, e, hl, hc 0 x rfl, hc 1 y rfl⟩
end Go.Proofs.YtdiljkmlneeboaaGreat.N
