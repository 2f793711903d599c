/- Are there not more acts than are looked at? act on a Doc that calls made. The same act on the document's tree: like. -/
import Derived.Test.YtdiljkmlneeboaaGreatRchN
import Derived.Test.YtdiljkmlneeboaaGreatSatO
import Derived.Test.YtdiljkmlneeboaaGreatRemN
import Derived.Test.YtdiljkmlneeboaaGreatRfH
namespace Go.Proofs.YtdiljkmlneeboaaGreat.N
open Go.RowKit
set_option maxRecDepth 100000

set_option maxHeartbeats 1000000 in
theorem rlight_any {W : World} {v : Value} {xs : List Act6} (hp : ActsIn W v xs) (most : Nat) (hm : most ≤ 1000) : Calls Tryz.prog 5 #[v, .int .i64 most] W fun e w' => ∃ b, e = .returned (.bool b) ∧ (b = true → xs.length ≤ most) ∧ Below W.heap.size W w' := by
  obtain ⟨hA, hsz⟩ := hp
  have HC : Hid (∀ i (hi : i < xs.length), _) := fun i hi => hA.cells hi
  obtain ⟨a, cap, rfl, hcap, hmax, hx⟩ := hA
  have HZ := hid_mk hsz
  clear hx hsz
  go_enter Tryz.func5, Tryz.ntmps5
  go_wp2
  go_loopw [5, 10] (fun a5 a10 wr => ∃ (i n : Nat), i ≤ xs.length ∧ i ≤ n ∧ n ≤ most ∧ a5 = .int .i64 (n : Int) ∧ a10 = .int .i64 (i : Int) ∧ Hid (Below W.heap.size W wr)) (fun _ a10 _ => xs.length + 1 - (intOf a10).toNat)
  case atStart => exact ⟨0, 0, Nat.zero_le _, Nat.zero_le _, Nat.zero_le _, rfl, rfl, hid_mk (Below.refl _ _)⟩
  case round =>
    obtain ⟨i, n, hi, hin, hnm, rfl, rfl, HB⟩ := hrel
    by_cases hlt : i < xs.length
    · obtain ⟨b, off, cap', e, _, hbl, q0, q1, q2, q3, q4, q5⟩ := HC.out i hlt
      cases e
      obtain ⟨z1, z2⟩ := HZ.out xs[i] (List.getElem_mem hlt)
      have c0 := (HB.out.cell (p := ⟨b, off + i * 6, none⟩) hbl).trans q0
      have c1 := (HB.out.cell (p := ⟨b, off + i * 6 + 1, none⟩) hbl).trans q1
      have c2 := (HB.out.cell (p := ⟨b, off + i * 6 + 2, none⟩) hbl).trans q2
      have c3 := (HB.out.cell (p := ⟨b, off + i * 6 + 3, none⟩) hbl).trans q3
      have c4 := (HB.out.cell (p := ⟨b, off + i * 6 + 4, none⟩) hbl).trans q4
      have c5 := (HB.out.cell (p := ⟨b, off + i * 6 + 5, none⟩) hbl).trans q5
      have HA : Hid (∀ o, Below W.heap.size W (wr.alloc o)) := fun o => HB.out.alloc HB.out.size o
      generalize xs[i].k = k at *
      generalize xs[i].x = x at *
      generalize xs[i].y = y at *
      generalize xs[i].z = z at *
      generalize xs[i].nm = nm at *
      generalize xs[i].v = v at *
      have hq : ((nm.size : Int) + (v.size : Int)).tdiv 100 = (((nm.size + v.size) / 100 : Nat) : Int) := by
        rw [Int.tdiv_eq_ediv_of_nonneg (by omega)]
        omega
      clear q0 q1 q2 q3 q4 q5 HC HZ
      by_cases hgt : most < n + (1 + (nm.size + v.size) / 100)
      · go_wp2
        go_ret
        exact ⟨false, rfl, fun h => (by cases h), HA.out _⟩
      · go_wp2
        exact ⟨⟨i + 1, n + (1 + (nm.size + v.size) / 100), hlt, by omega, by omega, by
          congr 1, by go_num, hid_mk (HA.out _)⟩, by simp only [intOf]; omega⟩
    · go_wp2
      go_ret
      exact ⟨true, rfl, fun _ => by omega, HB.out⟩

end Go.Proofs.YtdiljkmlneeboaaGreat.N
namespace Go.Proofs.YtdiljkmlneeboaaGreat.N
open Go.RowKit
set_option maxRecDepth 100000

variable {m : M} {nx : Int}
theorem tree_remove {w : World} {dp : Value} (h : Tree w dp m nx) (id : Int) {k : Nat} (F : Full m id k) (he : remErr m id = 0) : Calls Tryz.prog 25 #[dp, .int .i64 id] w fun x w' => ∃ b, x = .returned (.tuple #[.pointer (some ⟨b, 0, none⟩), .int .i64 0]) ∧ Tree w' (.pointer (some ⟨b, 0, none⟩)) (cutM m id (levs m id k)) nx ∧ Below w.heap.size w w' := by
  obtain ⟨hD, d, I⟩ := h
  unfold remErr at he
  cases hn : m id with
  | none => rw [hn, if_pos rfl] at he; cases he
  | some e =>
    rw [hn, if_neg (by simp)] at he
    split at he
    · cases he
    · rename_i h1
      refine (remove_ok hD I hn h1 F).mono ?_
      rintro x w' ⟨dp', rfl, hD', hB⟩
      have hD2 := hD'
      obtain ⟨b, _, rfl, _⟩ := hD'
      exact ⟨b, rfl, ⟨hD2, d, I.remove hn h1 F⟩, hB⟩
/-- What an act does to a tree: what is there, the next number, the number told, the error. -/
def ActR (m : M) (nx : Int) (a : Act6) (m' : M) (nx' rid err : Int) : Prop :=
  (a.k = 0 ∧ ((insErr m a.x a.y a.nm = 0 ∧ (∃ i : Nat, a.y = i ∧ m' = insM m nx a.x i a.nm) ∧ nx' = nx + 1 ∧ rid = nx ∧ err = 0) ∨ (insErr m a.x a.y a.nm ≠ 0 ∧ m' = m ∧ nx' = nx ∧ rid = 0 ∧ err = insErr m a.x a.y a.nm))) ∨
  (a.k = 1 ∧ nx' = nx ∧ rid = 0 ∧ ((remErr m a.x = 0 ∧ (∃ h, Full m a.x h ∧ m' = cutM m a.x (levs m a.x h)) ∧ err = 0) ∨ (remErr m a.x ≠ 0 ∧ m' = m ∧ err = remErr m a.x))) ∨
  (a.k = 2 ∧ nx' = nx ∧ rid = 0 ∧ ∃ h, (m a.x ≠ none → Full m a.x h) ∧ ((movErr m a.x a.y a.z h = 0 ∧ (∃ i : Nat, a.z = i ∧ m' = mvM m a.x a.y i) ∧ err = 0) ∨ (movErr m a.x a.y a.z h ≠ 0 ∧ m' = m ∧ err = movErr m a.x a.y a.z h))) ∨
  (a.k = 3 ∧ nx' = nx ∧ rid = 0 ∧ ((setErr m a.x a.nm a.v = 0 ∧ m' = satM m a.x a.nm a.v ∧ err = 0) ∨ (setErr m a.x a.nm a.v ≠ 0 ∧ m' = m ∧ err = setErr m a.x a.nm a.v))) ∨
  (a.k = 4 ∧ nx' = nx ∧ rid = 0 ∧ ((drpErr m a.x a.nm = 0 ∧ m' = datM m a.x a.nm ∧ err = 0) ∨ (drpErr m a.x a.nm ≠ 0 ∧ m' = m ∧ err = drpErr m a.x a.nm))) ∨
  (¬ (0 ≤ a.k ∧ a.k ≤ 4) ∧ m' = m ∧ nx' = nx ∧ rid = 0 ∧ err = 0)
/-- What act's call answers. -/
def ActP (w : World) (dp : Value) (m : M) (nx : Int) (a : Act6) (x : Ending) (w' : World) : Prop := ∃ b m' nx' rid err, x = .returned (.tuple #[.pointer (some ⟨b, 0, none⟩), .int .i64 rid, .int .i64 err]) ∧ ActR m nx a m' nx' rid err ∧ Tree w' (.pointer (some ⟨b, 0, none⟩)) m' nx' ∧ (err ≠ 0 → .pointer (some ⟨b, 0, none⟩) = dp) ∧ nx ≤ nx' ∧ nx' ≤ nx + 1 ∧ Below w.heap.size w w'
theorem ActBoxN {w : World} (z : Act6) : (w.alloc (.cells #[.int .i64 z.k, .int .i64 z.x, .int .i64 z.y, .int .i64 z.z, .string z.nm, .string z.v] 53)).heap[w.heap.size]? = some (.cells #[.int .i64 z.k, .int .i64 z.x, .int .i64 z.y, .int .i64 z.z, .string z.nm, .string z.v] 53 (0, 0)) := heap_alloc_last w _
theorem act_lift {w W w1 : World} {b : Nat} {dp : Value} {a : Act6} {m' : M} {nx' rid err : Int} (hW : Below w.heap.size w W) (hB : Below W.heap.size W w1) (hT : Tree w1 (.pointer (some ⟨b, 0, none⟩)) m' nx') (hR : ActR m nx a m' nx' rid err) (hd : err ≠ 0 → .pointer (some ⟨b, 0, none⟩) = dp) (h1 : nx ≤ nx') (h2 : nx' ≤ nx + 1) : ActP w dp m nx a (.returned (.tuple #[.pointer (some ⟨b, 0, none⟩), .int .i64 rid, .int .i64 err])) w1 :=
  ⟨b, m', nx', rid, err, rfl, hR, hT, hd, h1, h2, hW.trans (hB.mono hW.size)⟩
end Go.Proofs.YtdiljkmlneeboaaGreat.N
namespace Go.Proofs.YtdiljkmlneeboaaGreat.N
open Go.RowKit
set_option maxRecDepth 100000

variable {m : M} {nx : Int}
theorem movErr_none {m : M} {id tg i : Int} {h : Nat} (h0 : m id = none) : movErr m id tg i h = 1 := by unfold movErr; rw [h0]
theorem movErr_full {m : M} {id tg i : Int} {h k : Nat} (F : m id ≠ none → Full m id h) (G : m id ≠ none → Full m id k) : movErr m id tg i h = movErr m id tg i k := by
  by_cases h0 : m id = none
  · rw [movErr_none h0, movErr_none h0]
  · rw [(F h0).uniq (G h0)]
/-- What an act does is one thing alone. -/
theorem ActR.uniq {a : Act6} {m1 m2 : M} {n1 n2 r1 r2 e1 e2 : Int} (h : ActR m nx a m1 n1 r1 e1) (h' : ActR m nx a m2 n2 r2 e2) : m1 = m2 ∧ n1 = n2 ∧ r1 = r2 ∧ e1 = e2 := by
  rcases h with ⟨k, h⟩ | ⟨k, rfl, rfl, h⟩ | ⟨k, rfl, rfl, h⟩ | ⟨k, rfl, rfl, h⟩ | ⟨k, rfl, rfl, h⟩ | ⟨k, rfl, rfl, rfl, rfl⟩
  · rcases h' with ⟨k', h'⟩ | ⟨k', _⟩ | ⟨k', _⟩ | ⟨k', _⟩ | ⟨k', _⟩ | ⟨k', _⟩
    · rcases h with ⟨c, ⟨i, hi, rfl⟩, rfl, rfl, rfl⟩ | ⟨c, rfl, rfl, rfl, rfl⟩ <;> rcases h' with ⟨c', ⟨i', hi', rfl⟩, rfl, rfl, rfl⟩ | ⟨c', rfl, rfl, rfl, rfl⟩
      · have : i = i' := by omega
        subst this
        exact ⟨rfl, rfl, rfl, rfl⟩
      · exact absurd c c'
      · exact absurd c' c
      · exact ⟨rfl, rfl, rfl, rfl⟩
    all_goals (exfalso; omega)
  · rcases h' with ⟨k', _⟩ | ⟨k', rfl, rfl, h'⟩ | ⟨k', _⟩ | ⟨k', _⟩ | ⟨k', _⟩ | ⟨k', _⟩
    case inr.inl =>
      rcases h with ⟨c, ⟨i, hi, rfl⟩, rfl⟩ | ⟨c, rfl, rfl⟩ <;> rcases h' with ⟨c', ⟨i', hi', rfl⟩, rfl⟩ | ⟨c', rfl, rfl⟩
      · rw [hi.uniq hi']
        exact ⟨rfl, rfl, rfl, rfl⟩
      · exact absurd c c'
      · exact absurd c' c
      · exact ⟨rfl, rfl, rfl, rfl⟩
    all_goals (exfalso; omega)
  · rcases h' with ⟨k', _⟩ | ⟨k', _⟩ | ⟨k', rfl, rfl, h'⟩ | ⟨k', _⟩ | ⟨k', _⟩ | ⟨k', _⟩
    case inr.inr.inl =>
      obtain ⟨f, F, h⟩ := h
      obtain ⟨g, G, h'⟩ := h'
      rw [movErr_full G F] at h'
      rcases h with ⟨c, ⟨i, hi, rfl⟩, rfl⟩ | ⟨c, rfl, rfl⟩ <;> rcases h' with ⟨c', ⟨i', hi', rfl⟩, rfl⟩ | ⟨c', rfl, rfl⟩
      · have : i = i' := by omega
        subst this
        exact ⟨rfl, rfl, rfl, rfl⟩
      · exact absurd c c'
      · exact absurd c' c
      · exact ⟨rfl, rfl, rfl, rfl⟩
    all_goals (exfalso; omega)
  · rcases h' with ⟨k', _⟩ | ⟨k', _⟩ | ⟨k', _⟩ | ⟨k', rfl, rfl, h'⟩ | ⟨k', _⟩ | ⟨k', _⟩
    case inr.inr.inr.inl =>
      rcases h with ⟨c, rfl, rfl⟩ | ⟨c, rfl, rfl⟩ <;> rcases h' with ⟨c', rfl, rfl⟩ | ⟨c', rfl, rfl⟩
      · exact ⟨rfl, rfl, rfl, rfl⟩
      · exact absurd c c'
      · exact absurd c' c
      · exact ⟨rfl, rfl, rfl, rfl⟩
    all_goals (exfalso; omega)
  · rcases h' with ⟨k', _⟩ | ⟨k', _⟩ | ⟨k', _⟩ | ⟨k', _⟩ | ⟨k', rfl, rfl, h'⟩ | ⟨k', _⟩
    case inr.inr.inr.inr.inl =>
      rcases h with ⟨c, rfl, rfl⟩ | ⟨c, rfl, rfl⟩ <;> rcases h' with ⟨c', rfl, rfl⟩ | ⟨c', rfl, rfl⟩
      · exact ⟨rfl, rfl, rfl, rfl⟩
      · exact absurd c c'
      · exact absurd c' c
      · exact ⟨rfl, rfl, rfl, rfl⟩
    all_goals (exfalso; omega)
  · rcases h' with ⟨k', _⟩ | ⟨k', _⟩ | ⟨k', _⟩ | ⟨k', _⟩ | ⟨k', _⟩ | ⟨k', rfl, rfl, rfl, rfl⟩
    case inr.inr.inr.inr.inr => exact ⟨rfl, rfl, rfl, rfl⟩
    all_goals (exfalso; omega)
theorem RTree.full {w : World} {rp : Value} {L : List El} (h : RTree w rp L m nx) (id : Int) : ∃ k, m id ≠ none → Full m id k := by
  obtain ⟨_, _, _, d, I⟩ := h
  cases e : m id with
  | none => exact ⟨0, fun h => absurd rfl h⟩
  | some x =>
    obtain ⟨k, hk⟩ := full_ex I e
    exact ⟨k, fun _ => hk⟩
/-- What like's call answers. -/
def LikP (w : World) (m : M) (nx : Int) (a : Act6) (x : Ending) (w' : World) : Prop := ∃ b L' m' nx' rid err, x = .returned (.tuple #[.pointer (some ⟨b, 0, none⟩), .int .i64 rid, .int .i64 err]) ∧ ActR m nx a m' nx' rid err ∧ RTree w' (.pointer (some ⟨b, 0, none⟩)) L' m' nx' ∧ nx ≤ nx' ∧ nx' ≤ nx + 1 ∧ Below w.heap.size w w'
theorem lik_lift {w W w1 : World} {b : Nat} {L' : List El} {a : Act6} {m' : M} {nx' rid err : Int} (hW : Below w.heap.size w W) (hB : Below W.heap.size W w1) (hT : RTree w1 (.pointer (some ⟨b, 0, none⟩)) L' m' nx') (hR : ActR m nx a m' nx' rid err) (h1 : nx ≤ nx') (h2 : nx' ≤ nx + 1) : LikP w m nx a (.returned (.tuple #[.pointer (some ⟨b, 0, none⟩), .int .i64 rid, .int .i64 err])) w1 :=
  ⟨b, L', m', nx', rid, err, rfl, hR, hT, h1, h2, hW.trans (hB.mono hW.size)⟩
end Go.Proofs.YtdiljkmlneeboaaGreat.N
