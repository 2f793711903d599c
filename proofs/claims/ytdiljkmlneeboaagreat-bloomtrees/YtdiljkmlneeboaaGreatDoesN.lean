/- Elements by their lists; what each change does to one. -/
import Derived.Test.YtdiljkmlneeboaaGreatMkN
import Derived.Test.YtdiljkmlneeboaaGreatElI
namespace Go.Proofs.YtdiljkmlneeboaaGreat.N
open Go.RowKit
set_option maxRecDepth 100000

def attrsV (us : List (ByteArray × ByteArray)) : List Value := us.flatMap fun p => [.string p.1, .string p.2]
def ElAt (w : World) (s : N5) (e : El) : Prop := s.id = e.id ∧ s.tag = e.tag ∧ s.par = e.par ∧ RowAt w 1 s.ka s.kn s.kc (intsV e.ks) ∧ RowAt w 2 s.aa s.an s.ac (attrsV e.us)
theorem ElAt.keep {w w' : World} {s : N5} {e : El} (h : ElAt w s e) (hb : Below w.heap.size w w') : ElAt w' s e :=
  ⟨h.1, h.2.1, h.2.2.1, h.2.2.2.1.keep hb, h.2.2.2.2.keep hb⟩
theorem ElAt.kn {w : World} {s : N5} {e : El} (h : ElAt w s e) : s.kn = e.ks.length := by
  have := h.2.2.2.1.1
  simpa [intsV] using this.symm
/-- The row lies in older blocks than g. -/
def OldAt (g : Nat) (a : Option Addr) : Prop := ∀ x, a = some x → x.block < g
theorem RowAt.keepOld {w w' : World} {sz n c g : Nat} {a : Option Addr} {xs : List Value} (h : RowAt w sz a n c xs) (ho : OldAt g a) (hb : Below g w w') : RowAt w' sz a n c xs := by
  obtain ⟨h1, h2, h3, h4, h5⟩ := h
  refine ⟨h1, h2, h3, h4, ?_⟩
  rcases h5 with h | ⟨b, off, rfl, hl, hc⟩
  · exact .inl h
  · exact .inr ⟨b, off, rfl, Nat.lt_of_lt_of_le hl hb.size, fun j u hu => (hb.cell (p := ⟨b, off + j, none⟩) (ho ⟨b, off, none⟩ rfl)).trans (hc j u hu)⟩
/-- A call of the closure turns the element that lies in the block g, whose rows are older. -/
def Does (w0 : World) (fn : Nat) (caps : List Value) (e e' : El) : Prop := ∀ w g s, Below w0.heap.size w0 w → w0.heap.size ≤ g → NodeAt w g s → ElAt w s e → OldAt g s.ka → OldAt g s.aa →
  Calls Tryz.prog fn ((.pointer (some ⟨g, 0, none⟩) :: caps).toArray) w fun x w' => x = .returned (.tuple #[]) ∧ ∃ s', NodeAt w' g s' ∧ ElAt w' s' e' ∧ Below g w w'
theorem does_stands {w0 : World} {b : Nat} {p : Int} (hb : w0.cell? ⟨b, 0, none⟩ = some (.int .i64 p)) (hl : b < w0.heap.size) (e : El) : Does w0 95 [.pointer (some ⟨b, 0, none⟩)] e { e with par := p } := by
  intro w g s hW hg hN hE h1 h2
  refine (stands1 hN ((hW.cell (p := ⟨b, 0, none⟩) hl).trans hb)).mono ?_
  rintro x w' ⟨rfl, q1, q2⟩
  exact ⟨rfl, _, q1, ⟨hE.1, hE.2.1, rfl, hE.2.2.2.1.keepOld h1 q2, hE.2.2.2.2.keepOld h2 q2⟩, q2⟩
theorem does_begins {w0 : World} {b1 b2 b3 : Nat} {id p : Int} {tag : ByteArray} (h1 : w0.cell? ⟨b1, 0, none⟩ = some (.int .i64 id)) (h2 : w0.cell? ⟨b2, 0, none⟩ = some (.string tag)) (h3 : w0.cell? ⟨b3, 0, none⟩ = some (.int .i64 p)) (l1 : b1 < w0.heap.size) (l2 : b2 < w0.heap.size) (l3 : b3 < w0.heap.size) (e : El) :
    Does w0 85 [.pointer (some ⟨b1, 0, none⟩), .pointer (some ⟨b2, 0, none⟩), .pointer (some ⟨b3, 0, none⟩)] e ⟨id, tag, p, [], []⟩ := by
  intro w g s hW hg hN hE _ _
  refine (begins1 hN ((hW.cell (p := ⟨b1, 0, none⟩) l1).trans h1) ((hW.cell (p := ⟨b2, 0, none⟩) l2).trans h2) ((hW.cell (p := ⟨b3, 0, none⟩) l3).trans h3)).mono ?_
  rintro x w' ⟨rfl, q1, q2⟩
  exact ⟨rfl, _, q1, ⟨rfl, rfl, rfl, RowAt.nil w' 1, RowAt.nil w' 2⟩, q2⟩
theorem does_takes {w0 : World} {b1 b2 : Nat} {kid : Int} {i : Nat} (h1 : w0.cell? ⟨b1, 0, none⟩ = some (.int .i64 i)) (h2 : w0.cell? ⟨b2, 0, none⟩ = some (.int .i64 kid)) (l1 : b1 < w0.heap.size) (l2 : b2 < w0.heap.size) (e : El) (hi : i ≤ e.ks.length) (hn : e.ks.length ≤ 300000) :
    Does w0 87 [.pointer (some ⟨b1, 0, none⟩), .pointer (some ⟨b2, 0, none⟩)] e { e with ks := e.ks.take i ++ [kid] ++ e.ks.drop i } := by
  intro w g s hW hg hN hE o1 o2
  have hk := hE.kn
  refine (takes1 hN ((hW.cell (p := ⟨b1, 0, none⟩) l1).trans h1) ((hW.cell (p := ⟨b2, 0, none⟩) l2).trans h2) hE.2.2.2.1 (by omega) (by omega) (by omega) (by omega)).mono ?_
  rintro x w' ⟨a', c', rfl, q1, q3, q2⟩
  refine ⟨rfl, _, q1, ⟨hE.1, hE.2.1, hE.2.2.1, ?_, hE.2.2.2.2.keepOld o2 q2⟩, q2⟩
  have e1 : intsV (e.ks.take i ++ [kid] ++ e.ks.drop i) = (intsV e.ks).take (i * 1) ++ [.int .i64 kid] ++ (intsV e.ks).drop (i * 1) := by
    rw [Nat.mul_one]
    simp [intsV, List.map_take, List.map_drop]
  show RowAt w' 1 a' _ c' (intsV (e.ks.take i ++ [kid] ++ e.ks.drop i))
  rw [e1]
  exact q3
theorem does_gives {w0 : World} {b1 : Nat} {kid : Int} {k : Nat} (h1 : w0.cell? ⟨b1, 0, none⟩ = some (.int .i64 kid)) (l1 : b1 < w0.heap.size) (e : El) (hk : Lib.idxOf e.ks kid = (k : Int)) (hi : k < e.ks.length) (hn : e.ks.length ≤ 300000) :
    Does w0 89 [.pointer (some ⟨b1, 0, none⟩)] e { e with ks := e.ks.take k ++ e.ks.drop (k + 1) } := by
  intro w g s hW hg hN hE o1 o2
  have hkn := hE.kn
  refine (gives1 hN ((hW.cell (p := ⟨b1, 0, none⟩) l1).trans h1) hE.2.2.2.1 hk (by omega) (by omega)).mono ?_
  rintro x w' ⟨a', c', rfl, q1, q3, q2⟩
  refine ⟨rfl, _, q1, ⟨hE.1, hE.2.1, hE.2.2.1, ?_, hE.2.2.2.2.keepOld o2 q2⟩, q2⟩
  have e1 : intsV (e.ks.take k ++ e.ks.drop (k + 1)) = (intsV e.ks).take (k * 1) ++ [] ++ (intsV e.ks).drop ((k + 1) * 1) := by
    rw [Nat.mul_one, Nat.mul_one]
    simp [intsV, List.map_take, List.map_drop]
  show RowAt w' 1 a' _ c' (intsV (e.ks.take k ++ e.ks.drop (k + 1)))
  rw [e1]
  exact q3

end Go.Proofs.YtdiljkmlneeboaaGreat.N
