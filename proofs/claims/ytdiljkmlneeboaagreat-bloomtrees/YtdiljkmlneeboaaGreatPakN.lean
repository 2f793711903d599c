/- Docs that calls made: what each call makes of one. -/
import Derived.Test.YtdiljkmlneeboaaGreatMovN
import Derived.Test.YtdiljkmlneeboaaGreatNodN
import Derived.Lib.Bytealg
namespace Go.Proofs.YtdiljkmlneeboaaGreat.N
open Go.RowKit
set_option maxRecDepth 100000

/-- Attributes as an element may have them: not too many, by names, of names, no value too long. -/
def uOk (us : List (ByteArray × ByteArray)) : Prop := us.length ≤ 16 ∧ us.Pairwise (fun a b => Lib.compareBytes a.1.data.toList b.1.data.toList < 0) ∧ ∀ p ∈ us, nameZ p.1 = true ∧ p.2.size ≤ 1000
theorem uOk_nil : uOk [] := ⟨by simp, List.Pairwise.nil, fun p hp => by cases hp⟩
/-- A Doc that calls made. -/
def Tree (w : World) (dp : Value) (m : M) (nx : Int) : Prop := Dom w dp m nx ∧ ∃ d, Inv uOk m nx d
theorem Tree.keep {w w' : World} {dp : Value} {m : M} {nx : Int} (h : Tree w dp m nx) (hb : Below w.heap.size w w') : Tree w' dp m nx := ⟨h.1.keep hb, h.2⟩
theorem attrsV_len (us : List (ByteArray × ByteArray)) : (attrsV us).length = us.length * 2 := by
  induction us with
  | nil => rfl
  | cons a r ih => simp only [attrsV, List.flatMap_cons, List.length_append] at ih ⊢; rw [ih]; simp; omega
theorem ElAt.an {w : World} {s : N5} {e : El} (h : ElAt w s e) : s.an = e.us.length := by
  have := h.2.2.2.2.1
  rw [attrsV_len] at this
  omega
/-- Node: the element's fields in new memory, or zeros. -/
theorem tree_node {w : World} {dp : Value} {m : M} {nx : Int} (h : Tree w dp m nx) (n : Int) : Calls Tryz.prog 44 #[dp, .int .i64 n] w fun x w' => ∃ s : N5, x = .returned (.tuple #[.agg #[.int .i64 s.id, .string s.tag, .int .i64 s.par, .slice s.ka s.kn s.kc, .slice s.aa s.an s.ac], .bool (m n).isSome]) ∧ ElAt w' s ((m n).getD zeroEl) ∧ Below w.heap.size w w' := by
  obtain ⟨hD, d, I⟩ := h
  obtain ⟨t, h1, h2, _⟩ := hD.doc
  rcases h2 n with ⟨e1, e2⟩ | ⟨e, s, e1, e2, hE⟩
  · rw [e1]
    refine (node_1 n zeroS (fun _ hW => find_none (h1.keep hW) n e2) (zero_el w).2.2.2.1 (zero_el w).2.2.2.2 (by decide) (by decide)).mono ?_
    rintro x w' ⟨a', c', b', d', rfl, q1, q2, hB⟩
    exact ⟨⟨0, ⟨#[]⟩, 0, a', 0, c', b', 0, d'⟩, rfl, ⟨rfl, rfl, rfl, q1, q2⟩, hB⟩
  · rw [e1]
    have hk := hE.kn
    have ha := hE.an
    have := I.ksLen e1
    have := I.nxb
    have := (I.us e1).1
    refine (node_some h1 n s e2 hE.2.2.2.1 hE.2.2.2.2 (by omega) (by omega)).mono ?_
    rintro x w' ⟨a', c', b', d', rfl, q1, q2, hB⟩
    exact ⟨⟨s.id, s.tag, s.par, a', s.kn, c', b', s.an, d'⟩, rfl, ⟨hE.1, hE.2.1, hE.2.2.1, q1, q2⟩, hB⟩
theorem tree_new (tag : ByteArray) (w : World) (hs : tag.size ≤ maxLen) (hn : nameZ tag = true) : Calls Tryz.prog 23 #[.string tag] w fun e w' => ∃ b, e = .returned (.tuple #[.pointer (some ⟨b, 0, none⟩), .int .i64 0]) ∧ Tree w' (.pointer (some ⟨b, 0, none⟩)) (mset (fun _ => none) 1 ⟨1, tag, 0, [], []⟩) 2 ∧ Below w.heap.size w w' := by
  refine (new_yes tag w hs hn).mono ?_
  rintro e w' ⟨dp, rfl, hD, hB⟩
  have hD' := hD
  obtain ⟨b, _, rfl, _⟩ := hD
  exact ⟨b, rfl, ⟨hD', _, Inv.new uOk_nil tag⟩, hB⟩
def insM (m : M) (nx p : Int) (i : Nat) (tag : ByteArray) : M := match m p with
  | none => m
  | some e => mset (mset m nx ⟨nx, tag, p, [], []⟩) p { e with ks := ins e.ks i nx }
theorem ok_insErr {m : M} {p i : Int} {tag : ByteArray} (h : insErr m p i tag = 0) : ∃ (j : Nat) (e : El), i = j ∧ m p = some e ∧ j ≤ e.ks.length ∧ nameZ tag = true ∧ (ups m p).length < 512 := by
  unfold insErr at h
  cases hp : m p with
  | none => rw [hp] at h; cases h
  | some e =>
    rw [hp] at h
    dsimp only at h
    split at h
    · cases h
    · split at h
      · cases h
      · split at h
        · cases h
        · rename_i h1 h2 h3
          exact ⟨i.toNat, e, by omega, rfl, by omega, by simpa using h2, by omega⟩
theorem insErr_ok {m : M} {p : Int} {i : Nat} {tag : ByteArray} {e : El} (hp : m p = some e) (hi : i ≤ e.ks.length) (ht : nameZ tag = true) (hu : (ups m p).length < 512) : insErr m p i tag = 0 := by
  unfold insErr
  rw [hp]
  dsimp only
  rw [if_neg (by omega), if_neg (by rw [ht]; simp), if_neg (by omega)]
theorem tree_insert {w : World} {dp : Value} {m : M} {nx : Int} (h : Tree w dp m nx) (hnx : nx < 100000) (p : Int) (i : Nat) (tag : ByteArray) (hs : tag.size ≤ maxLen) (he : insErr m p i tag = 0) : Calls Tryz.prog 24 #[dp, .int .i64 p, .int .i64 i, .string tag] w fun x w' => ∃ b, x = .returned (.tuple #[.pointer (some ⟨b, 0, none⟩), .int .i64 nx, .int .i64 0]) ∧ Tree w' (.pointer (some ⟨b, 0, none⟩)) (insM m nx p i tag) (nx + 1) ∧ Below w.heap.size w w' := by
  obtain ⟨hD, d, I⟩ := h
  obtain ⟨j, e, hj, hp, hi, ht, hu⟩ := ok_insErr he
  refine (insert_ok hD I p i tag hs hp he).mono ?_
  rintro x w' ⟨dp', rfl, hD', hB⟩
  have hD2 := hD'
  obtain ⟨b, _, rfl, _⟩ := hD'
  refine ⟨b, rfl, ?_, hB⟩
  unfold insM
  rw [hp]
  exact ⟨hD2, _, I.insert hp (by rw [ups_len I hp] at hu; exact hu) hnx i tag uOk_nil⟩
theorem tree_insert_err {w : World} {dp : Value} {m : M} {nx : Int} (h : Tree w dp m nx) (p i : Int) (tag : ByteArray) (hs : tag.size ≤ maxLen) (he : insErr m p i tag ≠ 0) : Calls Tryz.prog 24 #[dp, .int .i64 p, .int .i64 i, .string tag] w fun x w' => x = .returned (.tuple #[dp, .int .i64 0, .int .i64 (insErr m p i tag)]) ∧ Below w.heap.size w w' := by
  obtain ⟨hD, d, I⟩ := h
  exact insert_err hD I p i tag hs he
theorem Tree.full {w : World} {dp : Value} {m : M} {nx : Int} (h : Tree w dp m nx) (id : Int) : ∃ k, m id ≠ none → Full m id k := by
  obtain ⟨_, d, I⟩ := h
  cases e : m id with
  | none => exact ⟨0, fun h => absurd rfl h⟩
  | some x =>
    obtain ⟨k, hk⟩ := full_ex I e
    exact ⟨k, fun _ => hk⟩
theorem tree_move {w : World} {dp : Value} {m : M} {nx : Int} (h : Tree w dp m nx) (id tg : Int) (i : Nat) {k : Nat} (F : m id ≠ none → Full m id k) (he : movErr m id tg i k = 0) : Calls Tryz.prog 26 #[dp, .int .i64 id, .int .i64 tg, .int .i64 i] w fun x w' => ∃ b, x = .returned (.tuple #[.pointer (some ⟨b, 0, none⟩), .int .i64 0]) ∧ Tree w' (.pointer (some ⟨b, 0, none⟩)) (mvM m id tg i) nx ∧ Below w.heap.size w w' := by
  obtain ⟨hD, d, I⟩ := h
  obtain ⟨j, e, q, hj, O⟩ := ok_movErr (uok := uOk) (nx := nx) (d := d) F he
  obtain rfl : i = j := by omega
  refine (move_ok hD I O).mono ?_
  rintro x w' ⟨dp', rfl, hD', hB⟩
  have hD2 := hD'
  obtain ⟨b, _, rfl, _⟩ := hD'
  exact ⟨b, rfl, ⟨hD2, _, O.inv I⟩, hB⟩
theorem tree_move_err {w : World} {dp : Value} {m : M} {nx : Int} (h : Tree w dp m nx) (id tg i : Int) {k : Nat} (F : m id ≠ none → Full m id k) (he : movErr m id tg i k ≠ 0) : Calls Tryz.prog 26 #[dp, .int .i64 id, .int .i64 tg, .int .i64 i] w fun x w' => x = .returned (.tuple #[dp, .int .i64 (movErr m id tg i k)]) ∧ Below w.heap.size w w' := by
  obtain ⟨hD, d, I⟩ := h
  exact move_err hD I id tg i F he
theorem Cnt.mv {m : M} {k : Nat} (h : Cnt m k) (id tg : Int) (i : Nat) : Cnt (mvM m id tg i) k := by
  obtain ⟨l, h1, h2, h3⟩ := h
  refine ⟨l, h1, h2, fun n => ?_⟩
  rw [h3, mvM]
  cases m n <;> simp

end Go.Proofs.YtdiljkmlneeboaaGreat.N
