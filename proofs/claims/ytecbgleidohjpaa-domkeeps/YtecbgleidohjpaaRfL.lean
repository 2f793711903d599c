/- The same act on the document's tree: like. -/
import Derived.Test.YtecbgleidohjpaaRfH
import Derived.Test.YtecbgleidohjpaaTacN
namespace Go.Proofs.Ytecbgleidohjpaa.N
open Go.RowKit
set_option maxRecDepth 100000

variable {m : M} {nx : Int}
theorem movErr_none {m : M} {id tg i : Int} {h : Nat} (h0 : m id = none) : movErr m id tg i h = 1 := by unfold movErr; rw [h0]
theorem movErr_full {m : M} {id tg i : Int} {h k : Nat} (F : m id ≠ none → Full m id h) (G : m id ≠ none → Full m id k) : movErr m id tg i h = movErr m id tg i k := by
  by_cases h0 : m id = none
  · rw [movErr_none h0, movErr_none h0]
  · rw [(F h0).uniq (G h0)]
/-- What an act does is one thing alone. -/
theorem ActR.uniq {a : Act6} {m1 m2 : M} {n1 n2 r1 r2 e1 e2 : Int} (h : ActR m nx a m1 n1 r1 e1) (h' : ActR m nx a m2 n2 r2 e2) : m1 = m2 ∧ n1 = n2 ∧ r1 = r2 ∧ e1 = e2 := by
  rcases h with ⟨k, h⟩ | ⟨k, rfl, rfl, h⟩ | ⟨k, rfl, rfl, h⟩ | ⟨k, rfl, rfl, h⟩ | ⟨k, rfl, rfl, h⟩ | ⟨k, rfl, rfl, rfl, rfl⟩
  · rcases h' with ⟨k', h'⟩ | ⟨k', _⟩ | ⟨k', _⟩ | ⟨k', _⟩ | ⟨k', _⟩ | ⟨k', _⟩
    · rcases h with ⟨c, ⟨i, hi, rfl⟩, rfl, rfl, rfl⟩ | ⟨c, rfl, rfl, rfl, rfl⟩ <;> rcases h' with ⟨c', ⟨i', hi', rfl⟩, rfl, rfl, rfl⟩ | ⟨c', rfl, rfl, rfl, rfl⟩
      · have : i = i' := by omega
        subst this
        exact ⟨rfl, rfl, rfl, rfl⟩
      · exact absurd c c'
      · exact absurd c' c
      · exact ⟨rfl, rfl, rfl, rfl⟩
    all_goals (exfalso; omega)
  · rcases h' with ⟨k', _⟩ | ⟨k', rfl, rfl, h'⟩ | ⟨k', _⟩ | ⟨k', _⟩ | ⟨k', _⟩ | ⟨k', _⟩
    case inr.inl =>
      rcases h with ⟨c, ⟨i, hi, rfl⟩, rfl⟩ | ⟨c, rfl, rfl⟩ <;> rcases h' with ⟨c', ⟨i', hi', rfl⟩, rfl⟩ | ⟨c', rfl, rfl⟩
      · rw [hi.uniq hi']
        exact ⟨rfl, rfl, rfl, rfl⟩
      · exact absurd c c'
      · exact absurd c' c
      · exact ⟨rfl, rfl, rfl, rfl⟩
    all_goals (exfalso; omega)
  · rcases h' with ⟨k', _⟩ | ⟨k', _⟩ | ⟨k', rfl, rfl, h'⟩ | ⟨k', _⟩ | ⟨k', _⟩ | ⟨k', _⟩
    case inr.inr.inl =>
      obtain ⟨f, F, h⟩ := h
      obtain ⟨g, G, h'⟩ := h'
      rw [movErr_full G F] at h'
      rcases h with ⟨c, ⟨i, hi, rfl⟩, rfl⟩ | ⟨c, rfl, rfl⟩ <;> rcases h' with ⟨c', ⟨i', hi', rfl⟩, rfl⟩ | ⟨c', rfl, rfl⟩
      · have : i = i' := by omega
        subst this
        exact ⟨rfl, rfl, rfl, rfl⟩
      · exact absurd c c'
      · exact absurd c' c
      · exact ⟨rfl, rfl, rfl, rfl⟩
    all_goals (exfalso; omega)
  · rcases h' with ⟨k', _⟩ | ⟨k', _⟩ | ⟨k', _⟩ | ⟨k', rfl, rfl, h'⟩ | ⟨k', _⟩ | ⟨k', _⟩
    case inr.inr.inr.inl =>
      rcases h with ⟨c, rfl, rfl⟩ | ⟨c, rfl, rfl⟩ <;> rcases h' with ⟨c', rfl, rfl⟩ | ⟨c', rfl, rfl⟩
      · exact ⟨rfl, rfl, rfl, rfl⟩
      · exact absurd c c'
      · exact absurd c' c
      · exact ⟨rfl, rfl, rfl, rfl⟩
    all_goals (exfalso; omega)
  · rcases h' with ⟨k', _⟩ | ⟨k', _⟩ | ⟨k', _⟩ | ⟨k', _⟩ | ⟨k', rfl, rfl, h'⟩ | ⟨k', _⟩
    case inr.inr.inr.inr.inl =>
      rcases h with ⟨c, rfl, rfl⟩ | ⟨c, rfl, rfl⟩ <;> rcases h' with ⟨c', rfl, rfl⟩ | ⟨c', rfl, rfl⟩
      · exact ⟨rfl, rfl, rfl, rfl⟩
      · exact absurd c c'
      · exact absurd c' c
      · exact ⟨rfl, rfl, rfl, rfl⟩
    all_goals (exfalso; omega)
  · rcases h' with ⟨k', _⟩ | ⟨k', _⟩ | ⟨k', _⟩ | ⟨k', _⟩ | ⟨k', _⟩ | ⟨k', rfl, rfl, rfl, rfl⟩
    case inr.inr.inr.inr.inr => exact ⟨rfl, rfl, rfl, rfl⟩
    all_goals (exfalso; omega)
theorem RTree.full {w : World} {rp : Value} {L : List El} (h : RTree w rp L m nx) (id : Int) : ∃ k, m id ≠ none → Full m id k := by
  obtain ⟨_, _, _, d, I⟩ := h
  cases e : m id with
  | none => exact ⟨0, fun h => absurd rfl h⟩
  | some x =>
    obtain ⟨k, hk⟩ := full_ex I e
    exact ⟨k, fun _ => hk⟩
/-- What like's call answers. -/
def LikP (w : World) (m : M) (nx : Int) (a : Act6) (x : Ending) (w' : World) : Prop := ∃ b L' m' nx' rid err, x = .returned (.tuple #[.pointer (some ⟨b, 0, none⟩), .int .i64 rid, .int .i64 err]) ∧ ActR m nx a m' nx' rid err ∧ RTree w' (.pointer (some ⟨b, 0, none⟩)) L' m' nx' ∧ nx ≤ nx' ∧ nx' ≤ nx + 1 ∧ Below w.heap.size w w'
theorem lik_lift {w W w1 : World} {b : Nat} {L' : List El} {a : Act6} {m' : M} {nx' rid err : Int} (hW : Below w.heap.size w W) (hB : Below W.heap.size W w1) (hT : RTree w1 (.pointer (some ⟨b, 0, none⟩)) L' m' nx') (hR : ActR m nx a m' nx' rid err) (h1 : nx ≤ nx') (h2 : nx' ≤ nx + 1) : LikP w m nx a (.returned (.tuple #[.pointer (some ⟨b, 0, none⟩), .int .i64 rid, .int .i64 err])) w1 :=
  ⟨b, L', m', nx', rid, err, rfl, hR, hT, h1, h2, hW.trans (hB.mono hW.size)⟩
set_option maxHeartbeats 1000000 in
theorem like_0 {w : World} {b : Nat} {L : List El} (h : RTree w (.pointer (some ⟨b, 0, none⟩)) L m nx) (_hnx : nx < 100000) (z : Act6) (hk : z.k = 0) (hs : z.nm.size ≤ 281474976710656) (hv : z.v.size ≤ 281474976710656) : Calls Try.prog 14 #[.pointer (some ⟨b, 0, none⟩), .agg z.cells.toArray] w (LikP w m nx z) := by
  have _hsv := And.intro hs hv
  have hW : Below w.heap.size w (w.alloc (.cells #[.int .i64 0, .int .i64 z.x, .int .i64 z.y, .int .i64 z.z, .string z.nm, .string z.v] 33)) := (Below.refl _ w).alloc (Nat.le_refl _) _
  have hT := h.keep hW
  have HC : Hid (Calls Try.prog 35 #[.pointer (some ⟨b, 0, none⟩), .int .i64 z.x, .int .i64 z.y, .string z.nm] (w.alloc (.cells #[.int .i64 0, .int .i64 z.x, .int .i64 z.y, .int .i64 z.z, .string z.nm, .string z.v] 33)) fun x w1 => ∃ (b1 : Nat) (rid err : Int), x = .returned (.tuple #[.pointer (some ⟨b1, 0, none⟩), .int .i64 rid, .int .i64 err]) ∧ LikP w m nx z (.returned (.tuple #[.pointer (some ⟨b1, 0, none⟩), .int .i64 rid, .int .i64 err])) w1) := by
    by_cases he : insErr m z.x z.y z.nm = 0
    · refine (rinsert_ok hT _hnx z.x z.y z.nm hs he).mono ?_
      rintro x w1 ⟨b1, i, L', hi, rfl, hT1, hB1⟩
      exact ⟨b1, nx, 0, rfl, lik_lift hW hB1 hT1 (.inl ⟨hk, .inl ⟨he, ⟨i, hi, rfl⟩, rfl, rfl, rfl⟩⟩) (by omega) (by omega)⟩
    · refine (rinsert_err hT z.x z.y z.nm hs he).mono ?_
      rintro x w1 ⟨rfl, hB1⟩
      exact ⟨b, 0, _, rfl, lik_lift hW hB1 (hT.keep hB1) (.inl ⟨hk, .inr ⟨he, rfl, rfl, rfl, rfl⟩⟩) (by omega) (by omega)⟩
  rw [show z.cells.toArray = #[.int .i64 z.k, .int .i64 z.x, .int .i64 z.y, .int .i64 z.z, .string z.nm, .string z.v] from rfl, hk]
  have HW := hid_mk hW
  clear hT h hW hs hv _hsv
  go_enter Try.func14, Try.ntmps14
  go_wp2_with (go_at_call 35; fail)
  refine HC.out.mono ?_
  rintro e w1 ⟨b1, rid, err, rfl, hP⟩
  have HP := hid_mk hP
  clear HC hP
  go_wp2
  refine bodyPost_ret (v := .tuple #[.pointer (some ⟨b1, 0, none⟩), .int .i64 rid, .int .i64 err]) (by simp [results, Try.results14, go_sem]) rfl HP.out
set_option maxHeartbeats 1000000 in
theorem like_1 {w : World} {b : Nat} {L : List El} (h : RTree w (.pointer (some ⟨b, 0, none⟩)) L m nx) (_hnx : nx < 100000) (z : Act6) (hk : z.k = 1) (hs : z.nm.size ≤ 281474976710656) (hv : z.v.size ≤ 281474976710656) : Calls Try.prog 14 #[.pointer (some ⟨b, 0, none⟩), .agg z.cells.toArray] w (LikP w m nx z) := by
  have _hsv := And.intro hs hv
  have hW : Below w.heap.size w (w.alloc (.cells #[.int .i64 1, .int .i64 z.x, .int .i64 z.y, .int .i64 z.z, .string z.nm, .string z.v] 33)) := (Below.refl _ w).alloc (Nat.le_refl _) _
  have hT := h.keep hW
  have HC : Hid (Calls Try.prog 36 #[.pointer (some ⟨b, 0, none⟩), .int .i64 z.x] (w.alloc (.cells #[.int .i64 1, .int .i64 z.x, .int .i64 z.y, .int .i64 z.z, .string z.nm, .string z.v] 33)) fun x w1 => ∃ (b1 : Nat) (err : Int), x = .returned (.tuple #[.pointer (some ⟨b1, 0, none⟩), .int .i64 err]) ∧ LikP w m nx z (.returned (.tuple #[.pointer (some ⟨b1, 0, none⟩), .int .i64 0, .int .i64 err])) w1) := by
    by_cases he : remErr m z.x = 0
    · obtain ⟨k, hF⟩ := hT.full z.x
      have hne : m z.x ≠ none := fun h0 => by
        unfold remErr at he
        rw [if_pos h0] at he
        cases he
      refine (rremove_ok hT z.x (hF hne) he).mono ?_
      rintro x w1 ⟨b1, L', rfl, hT1, hB1⟩
      exact ⟨b1, 0, rfl, lik_lift hW hB1 hT1 (.inr (.inl ⟨hk, rfl, rfl, .inl ⟨he, ⟨k, hF hne, rfl⟩, rfl⟩⟩)) (by omega) (by omega)⟩
    · refine (rremove_err hT z.x he).mono ?_
      rintro x w1 ⟨rfl, hB1⟩
      exact ⟨b, _, rfl, lik_lift hW hB1 (hT.keep hB1) (.inr (.inl ⟨hk, rfl, rfl, .inr ⟨he, rfl, rfl⟩⟩)) (by omega) (by omega)⟩
  rw [show z.cells.toArray = #[.int .i64 z.k, .int .i64 z.x, .int .i64 z.y, .int .i64 z.z, .string z.nm, .string z.v] from rfl, hk]
  have HW := hid_mk hW
  clear hT h hW hs hv _hsv
  go_enter Try.func14, Try.ntmps14
  go_wp2_with (go_at_call 36; fail)
  refine HC.out.mono ?_
  rintro e w1 ⟨b1, err, rfl, hP⟩
  have HP := hid_mk hP
  clear HC hP
  go_wp2
  refine bodyPost_ret (v := .tuple #[.pointer (some ⟨b1, 0, none⟩), .int .i64 0, .int .i64 err]) (by simp [results, Try.results14, go_sem]) rfl HP.out
set_option maxHeartbeats 1000000 in
theorem like_2 {w : World} {b : Nat} {L : List El} (h : RTree w (.pointer (some ⟨b, 0, none⟩)) L m nx) (_hnx : nx < 100000) (z : Act6) (hk : z.k = 2) (hs : z.nm.size ≤ 281474976710656) (hv : z.v.size ≤ 281474976710656) : Calls Try.prog 14 #[.pointer (some ⟨b, 0, none⟩), .agg z.cells.toArray] w (LikP w m nx z) := by
  have _hsv := And.intro hs hv
  have hW : Below w.heap.size w (w.alloc (.cells #[.int .i64 2, .int .i64 z.x, .int .i64 z.y, .int .i64 z.z, .string z.nm, .string z.v] 33)) := (Below.refl _ w).alloc (Nat.le_refl _) _
  have hT := h.keep hW
  have HC : Hid (Calls Try.prog 37 #[.pointer (some ⟨b, 0, none⟩), .int .i64 z.x, .int .i64 z.y, .int .i64 z.z] (w.alloc (.cells #[.int .i64 2, .int .i64 z.x, .int .i64 z.y, .int .i64 z.z, .string z.nm, .string z.v] 33)) fun x w1 => ∃ (b1 : Nat) (err : Int), x = .returned (.tuple #[.pointer (some ⟨b1, 0, none⟩), .int .i64 err]) ∧ LikP w m nx z (.returned (.tuple #[.pointer (some ⟨b1, 0, none⟩), .int .i64 0, .int .i64 err])) w1) := by
    obtain ⟨k, hF⟩ := hT.full z.x
    by_cases he : movErr m z.x z.y z.z k = 0
    · refine (rmove_ok hT z.x z.y z.z hF he).mono ?_
      rintro x w1 ⟨b1, i, L', hi, rfl, hT1, hB1⟩
      exact ⟨b1, 0, rfl, lik_lift hW hB1 hT1 (.inr (.inr (.inl ⟨hk, rfl, rfl, k, hF, .inl ⟨he, ⟨i, hi, rfl⟩, rfl⟩⟩))) (by omega) (by omega)⟩
    · refine (rmove_err hT z.x z.y z.z hF he).mono ?_
      rintro x w1 ⟨rfl, hB1⟩
      exact ⟨b, _, rfl, lik_lift hW hB1 (hT.keep hB1) (.inr (.inr (.inl ⟨hk, rfl, rfl, k, hF, .inr ⟨he, rfl, rfl⟩⟩))) (by omega) (by omega)⟩
  rw [show z.cells.toArray = #[.int .i64 z.k, .int .i64 z.x, .int .i64 z.y, .int .i64 z.z, .string z.nm, .string z.v] from rfl, hk]
  have HW := hid_mk hW
  clear hT h hW hs hv _hsv
  go_enter Try.func14, Try.ntmps14
  go_wp2_with (go_at_call 37; fail)
  refine HC.out.mono ?_
  rintro e w1 ⟨b1, err, rfl, hP⟩
  have HP := hid_mk hP
  clear HC hP
  go_wp2
  refine bodyPost_ret (v := .tuple #[.pointer (some ⟨b1, 0, none⟩), .int .i64 0, .int .i64 err]) (by simp [results, Try.results14, go_sem]) rfl HP.out
set_option maxHeartbeats 1000000 in
theorem like_3 {w : World} {b : Nat} {L : List El} (h : RTree w (.pointer (some ⟨b, 0, none⟩)) L m nx) (_hnx : nx < 100000) (z : Act6) (hk : z.k = 3) (hs : z.nm.size ≤ 281474976710656) (hv : z.v.size ≤ 281474976710656) : Calls Try.prog 14 #[.pointer (some ⟨b, 0, none⟩), .agg z.cells.toArray] w (LikP w m nx z) := by
  have _hsv := And.intro hs hv
  have hW : Below w.heap.size w (w.alloc (.cells #[.int .i64 3, .int .i64 z.x, .int .i64 z.y, .int .i64 z.z, .string z.nm, .string z.v] 33)) := (Below.refl _ w).alloc (Nat.le_refl _) _
  have hT := h.keep hW
  have HC : Hid (Calls Try.prog 38 #[.pointer (some ⟨b, 0, none⟩), .int .i64 z.x, .string z.nm, .string z.v] (w.alloc (.cells #[.int .i64 3, .int .i64 z.x, .int .i64 z.y, .int .i64 z.z, .string z.nm, .string z.v] 33)) fun x w1 => ∃ (b1 : Nat) (err : Int), x = .returned (.tuple #[.pointer (some ⟨b1, 0, none⟩), .int .i64 err]) ∧ LikP w m nx z (.returned (.tuple #[.pointer (some ⟨b1, 0, none⟩), .int .i64 0, .int .i64 err])) w1) := by
    by_cases he : setErr m z.x z.nm z.v = 0
    · refine (rset_ok hT z.x z.nm z.v hs he).mono ?_
      rintro x w1 ⟨b1, L', rfl, hT1, hB1⟩
      exact ⟨b1, 0, rfl, lik_lift hW hB1 hT1 (.inr (.inr (.inr (.inl ⟨hk, rfl, rfl, .inl ⟨he, rfl, rfl⟩⟩)))) (by omega) (by omega)⟩
    · refine (rset_err hT z.x z.nm z.v hs hv he).mono ?_
      rintro x w1 ⟨rfl, hB1⟩
      exact ⟨b, _, rfl, lik_lift hW hB1 (hT.keep hB1) (.inr (.inr (.inr (.inl ⟨hk, rfl, rfl, .inr ⟨he, rfl, rfl⟩⟩)))) (by omega) (by omega)⟩
  rw [show z.cells.toArray = #[.int .i64 z.k, .int .i64 z.x, .int .i64 z.y, .int .i64 z.z, .string z.nm, .string z.v] from rfl, hk]
  have HW := hid_mk hW
  clear hT h hW hs hv _hsv
  go_enter Try.func14, Try.ntmps14
  go_wp2_with (go_at_call 38; fail)
  refine HC.out.mono ?_
  rintro e w1 ⟨b1, err, rfl, hP⟩
  have HP := hid_mk hP
  clear HC hP
  go_wp2
  refine bodyPost_ret (v := .tuple #[.pointer (some ⟨b1, 0, none⟩), .int .i64 0, .int .i64 err]) (by simp [results, Try.results14, go_sem]) rfl HP.out
set_option maxHeartbeats 1000000 in
theorem like_4 {w : World} {b : Nat} {L : List El} (h : RTree w (.pointer (some ⟨b, 0, none⟩)) L m nx) (_hnx : nx < 100000) (z : Act6) (hk : z.k = 4) (hs : z.nm.size ≤ 281474976710656) (hv : z.v.size ≤ 281474976710656) : Calls Try.prog 14 #[.pointer (some ⟨b, 0, none⟩), .agg z.cells.toArray] w (LikP w m nx z) := by
  have _hsv := And.intro hs hv
  have hW : Below w.heap.size w (w.alloc (.cells #[.int .i64 4, .int .i64 z.x, .int .i64 z.y, .int .i64 z.z, .string z.nm, .string z.v] 33)) := (Below.refl _ w).alloc (Nat.le_refl _) _
  have hT := h.keep hW
  have HC : Hid (Calls Try.prog 39 #[.pointer (some ⟨b, 0, none⟩), .int .i64 z.x, .string z.nm] (w.alloc (.cells #[.int .i64 4, .int .i64 z.x, .int .i64 z.y, .int .i64 z.z, .string z.nm, .string z.v] 33)) fun x w1 => ∃ (b1 : Nat) (err : Int), x = .returned (.tuple #[.pointer (some ⟨b1, 0, none⟩), .int .i64 err]) ∧ LikP w m nx z (.returned (.tuple #[.pointer (some ⟨b1, 0, none⟩), .int .i64 0, .int .i64 err])) w1) := by
    by_cases he : drpErr m z.x z.nm = 0
    · refine (rdrop_ok hT z.x z.nm he).mono ?_
      rintro x w1 ⟨b1, L', rfl, hT1, hB1⟩
      exact ⟨b1, 0, rfl, lik_lift hW hB1 hT1 (.inr (.inr (.inr (.inr (.inl ⟨hk, rfl, rfl, .inl ⟨he, rfl, rfl⟩⟩))))) (by omega) (by omega)⟩
    · refine (rdrop_err hT z.x z.nm he).mono ?_
      rintro x w1 ⟨rfl, hB1⟩
      exact ⟨b, _, rfl, lik_lift hW hB1 (hT.keep hB1) (.inr (.inr (.inr (.inr (.inl ⟨hk, rfl, rfl, .inr ⟨he, rfl, rfl⟩⟩))))) (by omega) (by omega)⟩
  rw [show z.cells.toArray = #[.int .i64 z.k, .int .i64 z.x, .int .i64 z.y, .int .i64 z.z, .string z.nm, .string z.v] from rfl, hk]
  have HW := hid_mk hW
  clear hT h hW hs hv _hsv
  go_enter Try.func14, Try.ntmps14
  go_wp2_with (go_at_call 39; fail)
  refine HC.out.mono ?_
  rintro e w1 ⟨b1, err, rfl, hP⟩
  have HP := hid_mk hP
  clear HC hP
  go_wp2
  refine bodyPost_ret (v := .tuple #[.pointer (some ⟨b1, 0, none⟩), .int .i64 0, .int .i64 err]) (by simp [results, Try.results14, go_sem]) rfl HP.out
set_option maxHeartbeats 1000000 in
theorem like_other {w : World} {b : Nat} {L : List El} (h : RTree w (.pointer (some ⟨b, 0, none⟩)) L m nx) (z : Act6) (hk : ¬ (0 ≤ z.k ∧ z.k ≤ 4)) : Calls Try.prog 14 #[.pointer (some ⟨b, 0, none⟩), .agg z.cells.toArray] w (LikP w m nx z) := by
  have hW : Below w.heap.size w (w.alloc (.cells #[.int .i64 z.k, .int .i64 z.x, .int .i64 z.y, .int .i64 z.z, .string z.nm, .string z.v] 33)) := (Below.refl _ w).alloc (Nat.le_refl _) _
  have HP : Hid (LikP w m nx z (.returned (.tuple #[.pointer (some ⟨b, 0, none⟩), .int .i64 0, .int .i64 0])) (w.alloc (.cells #[.int .i64 z.k, .int .i64 z.x, .int .i64 z.y, .int .i64 z.z, .string z.nm, .string z.v] 33))) := lik_lift hW (Below.refl _ _) (h.keep hW) (.inr (.inr (.inr (.inr (.inr ⟨hk, rfl, rfl, rfl, rfl⟩))))) (by omega) (by omega)
  rw [show z.cells.toArray = #[.int .i64 z.k, .int .i64 z.x, .int .i64 z.y, .int .i64 z.z, .string z.nm, .string z.v] from rfl]
  have h0 : (z.k == 0) = false := by simp; omega
  have h1 : (z.k == 1) = false := by simp; omega
  have h2 : (z.k == 2) = false := by simp; omega
  have h3 : (z.k == 3) = false := by simp; omega
  have h4 : (z.k == 4) = false := by simp; omega
  clear h hW hk
  go_enter Try.func14, Try.ntmps14
  go_wp2
  refine bodyPost_ret (v := .tuple #[.pointer (some ⟨b, 0, none⟩), .int .i64 0, .int .i64 0]) (by simp [results, Try.results14, go_sem]) rfl HP.out
theorem like_any {w : World} {b : Nat} {L : List El} (h : RTree w (.pointer (some ⟨b, 0, none⟩)) L m nx) (hnx : nx < 100000) (z : Act6) (hs : z.nm.size ≤ 281474976710656) (hv : z.v.size ≤ 281474976710656) : Calls Try.prog 14 #[.pointer (some ⟨b, 0, none⟩), .agg z.cells.toArray] w (LikP w m nx z) := by
  by_cases hk : 0 ≤ z.k ∧ z.k ≤ 4
  · have : z.k = 0 ∨ z.k = 1 ∨ z.k = 2 ∨ z.k = 3 ∨ z.k = 4 := by omega
    rcases this with hk | hk | hk | hk | hk
    · exact like_0 h hnx z hk hs hv
    · exact like_1 h hnx z hk hs hv
    · exact like_2 h hnx z hk hs hv
    · exact like_3 h hnx z hk hs hv
    · exact like_4 h hnx z hk hs hv
  · exact like_other h z hk

end Go.Proofs.Ytecbgleidohjpaa.N
