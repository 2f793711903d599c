/- act on a Doc that calls made. The same act on the document's tree: like. -/
import Derived.Test.YtoncgmnccgegmaaGreatSatO
import Derived.Test.YtoncgmnccgegmaaGreatRemN
import Derived.Test.YtoncgmnccgegmaaGreatRchN
import Derived.Test.YtoncgmnccgegmaaGreatRfH
namespace Go.Proofs.YtoncgmnccgegmaaGreat.N
open Go.RowKit
set_option maxRecDepth 100000

variable {m : M} {nx : Int}
theorem tree_remove {w : World} {dp : Value} (h : Tree w dp m nx) (id : Int) {k : Nat} (F : Full m id k) (he : remErr m id = 0) : Calls Tryz.prog 30 #[dp, .int .i64 id] w fun x w' => ∃ b, x = .returned (.tuple #[.pointer (some ⟨b, 0, none⟩), .int .i64 0]) ∧ Tree w' (.pointer (some ⟨b, 0, none⟩)) (cutM m id (levs m id k)) nx ∧ Below w.heap.size w w' := by
  obtain ⟨hD, d, I⟩ := h
  unfold remErr at he
  cases hn : m id with
  | none => rw [hn, if_pos rfl] at he; cases he
  | some e =>
    rw [hn, if_neg (by simp)] at he
    split at he
    · cases he
    · rename_i h1
      refine (remove_ok hD I hn h1 F).mono ?_
      rintro x w' ⟨dp', rfl, hD', hB⟩
      have hD2 := hD'
      obtain ⟨b, _, rfl, _⟩ := hD'
      exact ⟨b, rfl, ⟨hD2, d, I.remove hn h1 F⟩, hB⟩
/-- What an act does to a tree: what is there, the next number, the number told, the error. -/
def ActR (m : M) (nx : Int) (a : Act6) (m' : M) (nx' rid err : Int) : Prop :=
  (a.k = 0 ∧ ((insErr m a.x a.y a.nm = 0 ∧ (∃ i : Nat, a.y = i ∧ m' = insM m nx a.x i a.nm) ∧ nx' = nx + 1 ∧ rid = nx ∧ err = 0) ∨ (insErr m a.x a.y a.nm ≠ 0 ∧ m' = m ∧ nx' = nx ∧ rid = 0 ∧ err = insErr m a.x a.y a.nm))) ∨
  (a.k = 1 ∧ nx' = nx ∧ rid = 0 ∧ ((remErr m a.x = 0 ∧ (∃ h, Full m a.x h ∧ m' = cutM m a.x (levs m a.x h)) ∧ err = 0) ∨ (remErr m a.x ≠ 0 ∧ m' = m ∧ err = remErr m a.x))) ∨
  (a.k = 2 ∧ nx' = nx ∧ rid = 0 ∧ ∃ h, (m a.x ≠ none → Full m a.x h) ∧ ((movErr m a.x a.y a.z h = 0 ∧ (∃ i : Nat, a.z = i ∧ m' = mvM m a.x a.y i) ∧ err = 0) ∨ (movErr m a.x a.y a.z h ≠ 0 ∧ m' = m ∧ err = movErr m a.x a.y a.z h))) ∨
  (a.k = 3 ∧ nx' = nx ∧ rid = 0 ∧ ((setErr m a.x a.nm a.v = 0 ∧ m' = satM m a.x a.nm a.v ∧ err = 0) ∨ (setErr m a.x a.nm a.v ≠ 0 ∧ m' = m ∧ err = setErr m a.x a.nm a.v))) ∨
  (a.k = 4 ∧ nx' = nx ∧ rid = 0 ∧ ((drpErr m a.x a.nm = 0 ∧ m' = datM m a.x a.nm ∧ err = 0) ∨ (drpErr m a.x a.nm ≠ 0 ∧ m' = m ∧ err = drpErr m a.x a.nm))) ∨
  (¬ (0 ≤ a.k ∧ a.k ≤ 4) ∧ m' = m ∧ nx' = nx ∧ rid = 0 ∧ err = 0)
/-- What act's call answers. -/
def ActP (w : World) (dp : Value) (m : M) (nx : Int) (a : Act6) (x : Ending) (w' : World) : Prop := ∃ b m' nx' rid err, x = .returned (.tuple #[.pointer (some ⟨b, 0, none⟩), .int .i64 rid, .int .i64 err]) ∧ ActR m nx a m' nx' rid err ∧ Tree w' (.pointer (some ⟨b, 0, none⟩)) m' nx' ∧ (err ≠ 0 → .pointer (some ⟨b, 0, none⟩) = dp) ∧ nx ≤ nx' ∧ nx' ≤ nx + 1 ∧ Below w.heap.size w w'
theorem ActBoxN {w : World} (z : Act6) : (w.alloc (.cells #[.int .i64 z.k, .int .i64 z.x, .int .i64 z.y, .int .i64 z.z, .string z.nm, .string z.v] 52)).heap[w.heap.size]? = some (.cells #[.int .i64 z.k, .int .i64 z.x, .int .i64 z.y, .int .i64 z.z, .string z.nm, .string z.v] 52 (0, 0)) := heap_alloc_last w _
theorem act_lift {w W w1 : World} {b : Nat} {dp : Value} {a : Act6} {m' : M} {nx' rid err : Int} (hW : Below w.heap.size w W) (hB : Below W.heap.size W w1) (hT : Tree w1 (.pointer (some ⟨b, 0, none⟩)) m' nx') (hR : ActR m nx a m' nx' rid err) (hd : err ≠ 0 → .pointer (some ⟨b, 0, none⟩) = dp) (h1 : nx ≤ nx') (h2 : nx' ≤ nx + 1) : ActP w dp m nx a (.returned (.tuple #[.pointer (some ⟨b, 0, none⟩), .int .i64 rid, .int .i64 err])) w1 :=
  ⟨b, m', nx', rid, err, rfl, hR, hT, hd, h1, h2, hW.trans (hB.mono hW.size)⟩
end Go.Proofs.YtoncgmnccgegmaaGreat.N
namespace Go.Proofs.YtoncgmnccgegmaaGreat.N
open Go.RowKit
set_option maxRecDepth 100000

variable {m : M} {nx : Int}
theorem movErr_none {m : M} {id tg i : Int} {h : Nat} (h0 : m id = none) : movErr m id tg i h = 1 := by unfold movErr; rw [h0]
theorem movErr_full {m : M} {id tg i : Int} {h k : Nat} (F : m id ≠ none → Full m id h) (G : m id ≠ none → Full m id k) : movErr m id tg i h = movErr m id tg i k := by
  by_cases h0 : m id = none
  · rw [movErr_none h0, movErr_none h0]
  · rw [(F h0).uniq (G h0)]
/-- What an act does is one thing alone. -/
theorem ActR.uniq {a : Act6} {m1 m2 : M} {n1 n2 r1 r2 e1 e2 : Int} (h : ActR m nx a m1 n1 r1 e1) (h' : ActR m nx a m2 n2 r2 e2) : m1 = m2 ∧ n1 = n2 ∧ r1 = r2 ∧ e1 = e2 := by
  rcases h with ⟨k, h⟩ | ⟨k, rfl, rfl, h⟩ | ⟨k, rfl, rfl, h⟩ | ⟨k, rfl, rfl, h⟩ | ⟨k, rfl, rfl, h⟩ | ⟨k, rfl, rfl, rfl, rfl⟩
  · rcases h' with ⟨k', h'⟩ | ⟨k', _⟩ | ⟨k', _⟩ | ⟨k', _⟩ | ⟨k', _⟩ | ⟨k', _⟩
    · rcases h with ⟨c, ⟨i, hi, rfl⟩, rfl, rfl, rfl⟩ | ⟨c, rfl, rfl, rfl, rfl⟩ <;> rcases h' with ⟨c', ⟨i', hi', rfl⟩, rfl, rfl, rfl⟩ | ⟨c', rfl, rfl, rfl, rfl⟩
      · have : i = i' := by omega
        subst this
        exact ⟨rfl, rfl, rfl, rfl⟩
      · exact absurd c c'
      · exact absurd c' c
      · exact ⟨rfl, rfl, rfl, rfl⟩
    all_goals (exfalso; omega)
  · rcases h' with ⟨k', _⟩ | ⟨k', rfl, rfl, h'⟩ | ⟨k', _⟩ | ⟨k', _⟩ | ⟨k', _⟩ | ⟨k', _⟩
    case inr.inl =>
      rcases h with ⟨c, ⟨i, hi, rfl⟩, rfl⟩ | ⟨c, rfl, rfl⟩ <;> rcases h' with ⟨c', ⟨i', hi', rfl⟩, rfl⟩ | ⟨c', rfl, rfl⟩
      · rw [hi.uniq hi']
        exact ⟨rfl, rfl, rfl, rfl⟩
      · exact absurd c c'
      · exact absurd c' c
      · exact ⟨rfl, rfl, rfl, rfl⟩
    all_goals (exfalso; omega)
  · rcases h' with ⟨k', _⟩ | ⟨k', _⟩ | ⟨k', rfl, rfl, h'⟩ | ⟨k', _⟩ | ⟨k', _⟩ | ⟨k', _⟩
    case inr.inr.inl =>
      obtain ⟨f, F, h⟩ := h
      obtain ⟨g, G, h'⟩ := h'
      rw [movErr_full G F] at h'
      rcases h with ⟨c, ⟨i, hi, rfl⟩, rfl⟩ | ⟨c, rfl, rfl⟩ <;> rcases h' with ⟨c', ⟨i', hi', rfl⟩, rfl⟩ | ⟨c', rfl, rfl⟩
      · have : i = i' := by omega
        subst this
        exact ⟨rfl, rfl, rfl, rfl⟩
      · exact absurd c c'
      · exact absurd c' c
      · exact ⟨rfl, rfl, rfl, rfl⟩
    all_goals (exfalso; omega)
  · rcases h' with ⟨k', _⟩ | ⟨k', _⟩ | ⟨k', _⟩ | ⟨k', rfl, rfl, h'⟩ | ⟨k', _⟩ | ⟨k', _⟩
    case inr.inr.inr.inl =>
      rcases h with ⟨c, rfl, rfl⟩ | ⟨c, rfl, rfl⟩ <;> rcases h' with ⟨c', rfl, rfl⟩ | ⟨c', rfl, rfl⟩
      · exact ⟨rfl, rfl, rfl, rfl⟩
      · exact absurd c c'
      · exact absurd c' c
      · exact ⟨rfl, rfl, rfl, rfl⟩
    all_goals (exfalso; omega)
  · rcases h' with ⟨k', _⟩ | ⟨k', _⟩ | ⟨k', _⟩ | ⟨k', _⟩ | ⟨k', rfl, rfl, h'⟩ | ⟨k', _⟩
    case inr.inr.inr.inr.inl =>
      rcases h with ⟨c, rfl, rfl⟩ | ⟨c, rfl, rfl⟩ <;> rcases h' with ⟨c', rfl, rfl⟩ | ⟨c', rfl, rfl⟩
      · exact ⟨rfl, rfl, rfl, rfl⟩
      · exact absurd c c'
      · exact absurd c' c
      · exact ⟨rfl, rfl, rfl, rfl⟩
    all_goals (exfalso; omega)
  · rcases h' with ⟨k', _⟩ | ⟨k', _⟩ | ⟨k', _⟩ | ⟨k', _⟩ | ⟨k', _⟩ | ⟨k', rfl, rfl, rfl, rfl⟩
    case inr.inr.inr.inr.inr => exact ⟨rfl, rfl, rfl, rfl⟩
    all_goals (exfalso; omega)
theorem RTree.full {w : World} {rp : Value} {L : List El} (h : RTree w rp L m nx) (id : Int) : ∃ k, m id ≠ none → Full m id k := by
  obtain ⟨_, _, _, d, I⟩ := h
  cases e : m id with
  | none => exact ⟨0, fun h => absurd rfl h⟩
  | some x =>
    obtain ⟨k, hk⟩ := full_ex I e
    exact ⟨k, fun _ => hk⟩
/-- What like's call answers. -/
def LikP (w : World) (m : M) (nx : Int) (a : Act6) (x : Ending) (w' : World) : Prop := ∃ b L' m' nx' rid err, x = .returned (.tuple #[.pointer (some ⟨b, 0, none⟩), .int .i64 rid, .int .i64 err]) ∧ ActR m nx a m' nx' rid err ∧ RTree w' (.pointer (some ⟨b, 0, none⟩)) L' m' nx' ∧ nx ≤ nx' ∧ nx' ≤ nx + 1 ∧ Below w.heap.size w w'
theorem lik_lift {w W w1 : World} {b : Nat} {L' : List El} {a : Act6} {m' : M} {nx' rid err : Int} (hW : Below w.heap.size w W) (hB : Below W.heap.size W w1) (hT : RTree w1 (.pointer (some ⟨b, 0, none⟩)) L' m' nx') (hR : ActR m nx a m' nx' rid err) (h1 : nx ≤ nx') (h2 : nx' ≤ nx + 1) : LikP w m nx a (.returned (.tuple #[.pointer (some ⟨b, 0, none⟩), .int .i64 rid, .int .i64 err])) w1 :=
  ⟨b, L', m', nx', rid, err, rfl, hR, hT, h1, h2, hW.trans (hB.mono hW.size)⟩
end Go.Proofs.YtoncgmnccgegmaaGreat.N
