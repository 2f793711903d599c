/- act on a Doc that calls made. -/
import Derived.Test.YtecbgleidohjpaaSatO
import Derived.Test.YtecbgleidohjpaaRemN
import Derived.Test.YtecbgleidohjpaaRchN
namespace Go.Proofs.Ytecbgleidohjpaa.N
open Go.RowKit
set_option maxRecDepth 100000

variable {m : M} {nx : Int}
theorem tree_remove {w : World} {dp : Value} (h : Tree w dp m nx) (id : Int) {k : Nat} (F : Full m id k) (he : remErr m id = 0) : Calls Try.prog 32 #[dp, .int .i64 id] w fun x w' => ∃ b, x = .returned (.tuple #[.pointer (some ⟨b, 0, none⟩), .int .i64 0]) ∧ Tree w' (.pointer (some ⟨b, 0, none⟩)) (cutM m id (levs m id k)) nx ∧ Below w.heap.size w w' := by
  obtain ⟨hD, d, I⟩ := h
  unfold remErr at he
  cases hn : m id with
  | none => rw [hn, if_pos rfl] at he; cases he
  | some e =>
    rw [hn, if_neg (by simp)] at he
    split at he
    · cases he
    · rename_i h1
      refine (remove_ok hD I hn h1 F).mono ?_
      rintro x w' ⟨dp', rfl, hD', hB⟩
      have hD2 := hD'
      obtain ⟨b, _, rfl, _⟩ := hD'
      exact ⟨b, rfl, ⟨hD2, d, I.remove hn h1 F⟩, hB⟩
/-- What an act does to a tree: what is there, the next number, the number told, the error. -/
def ActR (m : M) (nx : Int) (a : Act6) (m' : M) (nx' rid err : Int) : Prop :=
  (a.k = 0 ∧ ((insErr m a.x a.y a.nm = 0 ∧ (∃ i : Nat, a.y = i ∧ m' = insM m nx a.x i a.nm) ∧ nx' = nx + 1 ∧ rid = nx ∧ err = 0) ∨ (insErr m a.x a.y a.nm ≠ 0 ∧ m' = m ∧ nx' = nx ∧ rid = 0 ∧ err = insErr m a.x a.y a.nm))) ∨
  (a.k = 1 ∧ nx' = nx ∧ rid = 0 ∧ ((remErr m a.x = 0 ∧ (∃ h, Full m a.x h ∧ m' = cutM m a.x (levs m a.x h)) ∧ err = 0) ∨ (remErr m a.x ≠ 0 ∧ m' = m ∧ err = remErr m a.x))) ∨
  (a.k = 2 ∧ nx' = nx ∧ rid = 0 ∧ ∃ h, (m a.x ≠ none → Full m a.x h) ∧ ((movErr m a.x a.y a.z h = 0 ∧ (∃ i : Nat, a.z = i ∧ m' = mvM m a.x a.y i) ∧ err = 0) ∨ (movErr m a.x a.y a.z h ≠ 0 ∧ m' = m ∧ err = movErr m a.x a.y a.z h))) ∨
  (a.k = 3 ∧ nx' = nx ∧ rid = 0 ∧ ((setErr m a.x a.nm a.v = 0 ∧ m' = satM m a.x a.nm a.v ∧ err = 0) ∨ (setErr m a.x a.nm a.v ≠ 0 ∧ m' = m ∧ err = setErr m a.x a.nm a.v))) ∨
  (a.k = 4 ∧ nx' = nx ∧ rid = 0 ∧ ((drpErr m a.x a.nm = 0 ∧ m' = datM m a.x a.nm ∧ err = 0) ∨ (drpErr m a.x a.nm ≠ 0 ∧ m' = m ∧ err = drpErr m a.x a.nm))) ∨
  (¬ (0 ≤ a.k ∧ a.k ≤ 4) ∧ m' = m ∧ nx' = nx ∧ rid = 0 ∧ err = 0)
/-- What act's call answers. -/
def ActP (w : World) (dp : Value) (m : M) (nx : Int) (a : Act6) (x : Ending) (w' : World) : Prop := ∃ b m' nx' rid err, x = .returned (.tuple #[.pointer (some ⟨b, 0, none⟩), .int .i64 rid, .int .i64 err]) ∧ ActR m nx a m' nx' rid err ∧ Tree w' (.pointer (some ⟨b, 0, none⟩)) m' nx' ∧ (err ≠ 0 → .pointer (some ⟨b, 0, none⟩) = dp) ∧ nx ≤ nx' ∧ nx' ≤ nx + 1 ∧ Below w.heap.size w w'
theorem ActBoxN {w : World} (z : Act6) : (w.alloc (.cells #[.int .i64 z.k, .int .i64 z.x, .int .i64 z.y, .int .i64 z.z, .string z.nm, .string z.v] 33)).heap[w.heap.size]? = some (.cells #[.int .i64 z.k, .int .i64 z.x, .int .i64 z.y, .int .i64 z.z, .string z.nm, .string z.v] 33 (0, 0)) := heap_alloc_last w _
theorem act_lift {w W w1 : World} {b : Nat} {dp : Value} {a : Act6} {m' : M} {nx' rid err : Int} (hW : Below w.heap.size w W) (hB : Below W.heap.size W w1) (hT : Tree w1 (.pointer (some ⟨b, 0, none⟩)) m' nx') (hR : ActR m nx a m' nx' rid err) (hd : err ≠ 0 → .pointer (some ⟨b, 0, none⟩) = dp) (h1 : nx ≤ nx') (h2 : nx' ≤ nx + 1) : ActP w dp m nx a (.returned (.tuple #[.pointer (some ⟨b, 0, none⟩), .int .i64 rid, .int .i64 err])) w1 :=
  ⟨b, m', nx', rid, err, rfl, hR, hT, hd, h1, h2, hW.trans (hB.mono hW.size)⟩
set_option maxHeartbeats 1000000 in
theorem act_0 {w : World} {b : Nat} (h : Tree w (.pointer (some ⟨b, 0, none⟩)) m nx) (hnx : nx < 100000) (z : Act6) (hk : z.k = 0) (hs : z.nm.size ≤ maxLen) (_hv : z.v.size ≤ maxLen) : Calls Try.prog 13 #[.pointer (some ⟨b, 0, none⟩), .agg z.cells.toArray] w (ActP w (.pointer (some ⟨b, 0, none⟩)) m nx z) := by
  have hW : Below w.heap.size w (w.alloc (.cells #[.int .i64 0, .int .i64 z.x, .int .i64 z.y, .int .i64 z.z, .string z.nm, .string z.v] 33)) := (Below.refl _ w).alloc (Nat.le_refl _) _
  have hT := h.keep hW
  have HC : Hid (Calls Try.prog 24 #[.pointer (some ⟨b, 0, none⟩), .int .i64 z.x, .int .i64 z.y, .string z.nm] (w.alloc (.cells #[.int .i64 0, .int .i64 z.x, .int .i64 z.y, .int .i64 z.z, .string z.nm, .string z.v] 33)) fun x w1 => ∃ (b1 : Nat) (rid err : Int), x = .returned (.tuple #[.pointer (some ⟨b1, 0, none⟩), .int .i64 rid, .int .i64 err]) ∧ ActP w (.pointer (some ⟨b, 0, none⟩)) m nx z (.returned (.tuple #[.pointer (some ⟨b1, 0, none⟩), .int .i64 rid, .int .i64 err])) w1) := by
    by_cases he : insErr m z.x z.y z.nm = 0
    · obtain ⟨i, e, hi, _⟩ := ok_insErr he
      have he2 := he
      rw [hi] at he2
      have hc := tree_insert hT hnx z.x i z.nm hs he2
      rw [← hi] at hc
      refine hc.mono ?_
      rintro x w1 ⟨b1, rfl, hT1, hB1⟩
      exact ⟨b1, nx, 0, rfl, act_lift hW hB1 hT1 (.inl ⟨hk, .inl ⟨he, ⟨i, hi, rfl⟩, rfl, rfl, rfl⟩⟩) (fun h => absurd rfl h) (by omega) (by omega)⟩
    · refine (tree_insert_err hT z.x z.y z.nm hs he).mono ?_
      rintro x w1 ⟨rfl, hB1⟩
      exact ⟨b, 0, _, rfl, act_lift hW hB1 (hT.keep hB1) (.inl ⟨hk, .inr ⟨he, rfl, rfl, rfl, rfl⟩⟩) (fun _ => rfl) (by omega) (by omega)⟩
  rw [show z.cells.toArray = #[.int .i64 z.k, .int .i64 z.x, .int .i64 z.y, .int .i64 z.z, .string z.nm, .string z.v] from rfl, hk]
  have HW := hid_mk hW
  clear hT h hW
  go_enter Try.func13, Try.ntmps13
  go_wp2_with (go_at_call 24; fail)
  refine HC.out.mono ?_
  rintro e w1 ⟨b1, rid, err, rfl, hP⟩
  have HP := hid_mk hP
  clear HC hP
  go_wp2
  refine bodyPost_ret (v := .tuple #[.pointer (some ⟨b1, 0, none⟩), .int .i64 rid, .int .i64 err]) (by simp [results, Try.results13, go_sem]) rfl HP.out
set_option maxHeartbeats 1000000 in
theorem act_1 {w : World} {b : Nat} (h : Tree w (.pointer (some ⟨b, 0, none⟩)) m nx) (_hnx : nx < 100000) (z : Act6) (hk : z.k = 1) (_hs : z.nm.size ≤ maxLen) (_hv : z.v.size ≤ maxLen) : Calls Try.prog 13 #[.pointer (some ⟨b, 0, none⟩), .agg z.cells.toArray] w (ActP w (.pointer (some ⟨b, 0, none⟩)) m nx z) := by
  have hW : Below w.heap.size w (w.alloc (.cells #[.int .i64 1, .int .i64 z.x, .int .i64 z.y, .int .i64 z.z, .string z.nm, .string z.v] 33)) := (Below.refl _ w).alloc (Nat.le_refl _) _
  have hT := h.keep hW
  have HC : Hid (Calls Try.prog 32 #[.pointer (some ⟨b, 0, none⟩), .int .i64 z.x] (w.alloc (.cells #[.int .i64 1, .int .i64 z.x, .int .i64 z.y, .int .i64 z.z, .string z.nm, .string z.v] 33)) fun x w1 => ∃ (b1 : Nat) (err : Int), x = .returned (.tuple #[.pointer (some ⟨b1, 0, none⟩), .int .i64 err]) ∧ ActP w (.pointer (some ⟨b, 0, none⟩)) m nx z (.returned (.tuple #[.pointer (some ⟨b1, 0, none⟩), .int .i64 0, .int .i64 err])) w1) := by
    by_cases he : remErr m z.x = 0
    · obtain ⟨k, hF⟩ := hT.full z.x
      have hne : m z.x ≠ none := fun h0 => by
        unfold remErr at he
        rw [if_pos h0] at he
        cases he
      refine (tree_remove hT z.x (hF hne) he).mono ?_
      rintro x w1 ⟨b1, rfl, hT1, hB1⟩
      exact ⟨b1, 0, rfl, act_lift hW hB1 hT1 (.inr (.inl ⟨hk, rfl, rfl, .inl ⟨he, ⟨k, hF hne, rfl⟩, rfl⟩⟩)) (fun h => absurd rfl h) (by omega) (by omega)⟩
    · refine (remove_err hT.1 z.x he).mono ?_
      rintro x w1 ⟨rfl, hB1⟩
      exact ⟨b, _, rfl, act_lift hW hB1 (hT.keep hB1) (.inr (.inl ⟨hk, rfl, rfl, .inr ⟨he, rfl, rfl⟩⟩)) (fun _ => rfl) (by omega) (by omega)⟩
  rw [show z.cells.toArray = #[.int .i64 z.k, .int .i64 z.x, .int .i64 z.y, .int .i64 z.z, .string z.nm, .string z.v] from rfl, hk]
  have HW := hid_mk hW
  clear hT h hW
  go_enter Try.func13, Try.ntmps13
  go_wp2_with (go_at_call 32; fail)
  refine HC.out.mono ?_
  rintro e w1 ⟨b1, err, rfl, hP⟩
  have HP := hid_mk hP
  clear HC hP
  go_wp2
  refine bodyPost_ret (v := .tuple #[.pointer (some ⟨b1, 0, none⟩), .int .i64 0, .int .i64 err]) (by simp [results, Try.results13, go_sem]) rfl HP.out
set_option maxHeartbeats 1000000 in
theorem act_2 {w : World} {b : Nat} (h : Tree w (.pointer (some ⟨b, 0, none⟩)) m nx) (_hnx : nx < 100000) (z : Act6) (hk : z.k = 2) (_hs : z.nm.size ≤ maxLen) (_hv : z.v.size ≤ maxLen) : Calls Try.prog 13 #[.pointer (some ⟨b, 0, none⟩), .agg z.cells.toArray] w (ActP w (.pointer (some ⟨b, 0, none⟩)) m nx z) := by
  have hW : Below w.heap.size w (w.alloc (.cells #[.int .i64 2, .int .i64 z.x, .int .i64 z.y, .int .i64 z.z, .string z.nm, .string z.v] 33)) := (Below.refl _ w).alloc (Nat.le_refl _) _
  have hT := h.keep hW
  have HC : Hid (Calls Try.prog 25 #[.pointer (some ⟨b, 0, none⟩), .int .i64 z.x, .int .i64 z.y, .int .i64 z.z] (w.alloc (.cells #[.int .i64 2, .int .i64 z.x, .int .i64 z.y, .int .i64 z.z, .string z.nm, .string z.v] 33)) fun x w1 => ∃ (b1 : Nat) (err : Int), x = .returned (.tuple #[.pointer (some ⟨b1, 0, none⟩), .int .i64 err]) ∧ ActP w (.pointer (some ⟨b, 0, none⟩)) m nx z (.returned (.tuple #[.pointer (some ⟨b1, 0, none⟩), .int .i64 0, .int .i64 err])) w1) := by
    obtain ⟨k, hF⟩ := hT.full z.x
    by_cases he : movErr m z.x z.y z.z k = 0
    · obtain ⟨i, e, q, hi, _⟩ := ok_movErr (uok := uOk) (nx := nx) (d := fun _ => 0) hF he
      have he2 := he
      rw [hi] at he2
      have hc := tree_move hT z.x z.y i hF he2
      rw [← hi] at hc
      refine hc.mono ?_
      rintro x w1 ⟨b1, rfl, hT1, hB1⟩
      exact ⟨b1, 0, rfl, act_lift hW hB1 hT1 (.inr (.inr (.inl ⟨hk, rfl, rfl, k, hF, .inl ⟨he, ⟨i, hi, rfl⟩, rfl⟩⟩))) (fun h => absurd rfl h) (by omega) (by omega)⟩
    · refine (tree_move_err hT z.x z.y z.z hF he).mono ?_
      rintro x w1 ⟨rfl, hB1⟩
      exact ⟨b, _, rfl, act_lift hW hB1 (hT.keep hB1) (.inr (.inr (.inl ⟨hk, rfl, rfl, k, hF, .inr ⟨he, rfl, rfl⟩⟩))) (fun _ => rfl) (by omega) (by omega)⟩
  rw [show z.cells.toArray = #[.int .i64 z.k, .int .i64 z.x, .int .i64 z.y, .int .i64 z.z, .string z.nm, .string z.v] from rfl, hk]
  have HW := hid_mk hW
  clear hT h hW
  go_enter Try.func13, Try.ntmps13
  go_wp2_with (go_at_call 25; fail)
  refine HC.out.mono ?_
  rintro e w1 ⟨b1, err, rfl, hP⟩
  have HP := hid_mk hP
  clear HC hP
  go_wp2
  refine bodyPost_ret (v := .tuple #[.pointer (some ⟨b1, 0, none⟩), .int .i64 0, .int .i64 err]) (by simp [results, Try.results13, go_sem]) rfl HP.out
set_option maxHeartbeats 1000000 in
theorem act_3 {w : World} {b : Nat} (h : Tree w (.pointer (some ⟨b, 0, none⟩)) m nx) (_hnx : nx < 100000) (z : Act6) (hk : z.k = 3) (hs : z.nm.size ≤ maxLen) (hv : z.v.size ≤ maxLen) : Calls Try.prog 13 #[.pointer (some ⟨b, 0, none⟩), .agg z.cells.toArray] w (ActP w (.pointer (some ⟨b, 0, none⟩)) m nx z) := by
  have hW : Below w.heap.size w (w.alloc (.cells #[.int .i64 3, .int .i64 z.x, .int .i64 z.y, .int .i64 z.z, .string z.nm, .string z.v] 33)) := (Below.refl _ w).alloc (Nat.le_refl _) _
  have hT := h.keep hW
  have HC : Hid (Calls Try.prog 33 #[.pointer (some ⟨b, 0, none⟩), .int .i64 z.x, .string z.nm, .string z.v] (w.alloc (.cells #[.int .i64 3, .int .i64 z.x, .int .i64 z.y, .int .i64 z.z, .string z.nm, .string z.v] 33)) fun x w1 => ∃ (b1 : Nat) (err : Int), x = .returned (.tuple #[.pointer (some ⟨b1, 0, none⟩), .int .i64 err]) ∧ ActP w (.pointer (some ⟨b, 0, none⟩)) m nx z (.returned (.tuple #[.pointer (some ⟨b1, 0, none⟩), .int .i64 0, .int .i64 err])) w1) := by
    by_cases he : setErr m z.x z.nm z.v = 0
    · refine (setAttr_ok hT z.x z.nm z.v hs he).mono ?_
      rintro x w1 ⟨b1, rfl, hT1, hB1⟩
      exact ⟨b1, 0, rfl, act_lift hW hB1 hT1 (.inr (.inr (.inr (.inl ⟨hk, rfl, rfl, .inl ⟨he, rfl, rfl⟩⟩)))) (fun h => absurd rfl h) (by omega) (by omega)⟩
    · refine (setAttr_err hT z.x z.nm z.v hs hv he).mono ?_
      rintro x w1 ⟨rfl, hB1⟩
      exact ⟨b, _, rfl, act_lift hW hB1 (hT.keep hB1) (.inr (.inr (.inr (.inl ⟨hk, rfl, rfl, .inr ⟨he, rfl, rfl⟩⟩)))) (fun _ => rfl) (by omega) (by omega)⟩
  rw [show z.cells.toArray = #[.int .i64 z.k, .int .i64 z.x, .int .i64 z.y, .int .i64 z.z, .string z.nm, .string z.v] from rfl, hk]
  have HW := hid_mk hW
  clear hT h hW
  go_enter Try.func13, Try.ntmps13
  go_wp2_with (go_at_call 33; fail)
  refine HC.out.mono ?_
  rintro e w1 ⟨b1, err, rfl, hP⟩
  have HP := hid_mk hP
  clear HC hP
  go_wp2
  refine bodyPost_ret (v := .tuple #[.pointer (some ⟨b1, 0, none⟩), .int .i64 0, .int .i64 err]) (by simp [results, Try.results13, go_sem]) rfl HP.out
set_option maxHeartbeats 1000000 in
theorem act_4 {w : World} {b : Nat} (h : Tree w (.pointer (some ⟨b, 0, none⟩)) m nx) (_hnx : nx < 100000) (z : Act6) (hk : z.k = 4) (_hs : z.nm.size ≤ maxLen) (_hv : z.v.size ≤ maxLen) : Calls Try.prog 13 #[.pointer (some ⟨b, 0, none⟩), .agg z.cells.toArray] w (ActP w (.pointer (some ⟨b, 0, none⟩)) m nx z) := by
  have hW : Below w.heap.size w (w.alloc (.cells #[.int .i64 4, .int .i64 z.x, .int .i64 z.y, .int .i64 z.z, .string z.nm, .string z.v] 33)) := (Below.refl _ w).alloc (Nat.le_refl _) _
  have hT := h.keep hW
  have HC : Hid (Calls Try.prog 34 #[.pointer (some ⟨b, 0, none⟩), .int .i64 z.x, .string z.nm] (w.alloc (.cells #[.int .i64 4, .int .i64 z.x, .int .i64 z.y, .int .i64 z.z, .string z.nm, .string z.v] 33)) fun x w1 => ∃ (b1 : Nat) (err : Int), x = .returned (.tuple #[.pointer (some ⟨b1, 0, none⟩), .int .i64 err]) ∧ ActP w (.pointer (some ⟨b, 0, none⟩)) m nx z (.returned (.tuple #[.pointer (some ⟨b1, 0, none⟩), .int .i64 0, .int .i64 err])) w1) := by
    by_cases he : drpErr m z.x z.nm = 0
    · refine (dropAttr_ok hT z.x z.nm he).mono ?_
      rintro x w1 ⟨b1, rfl, hT1, hB1⟩
      exact ⟨b1, 0, rfl, act_lift hW hB1 hT1 (.inr (.inr (.inr (.inr (.inl ⟨hk, rfl, rfl, .inl ⟨he, rfl, rfl⟩⟩))))) (fun h => absurd rfl h) (by omega) (by omega)⟩
    · refine (dropAttr_err hT z.x z.nm he).mono ?_
      rintro x w1 ⟨rfl, hB1⟩
      exact ⟨b, _, rfl, act_lift hW hB1 (hT.keep hB1) (.inr (.inr (.inr (.inr (.inl ⟨hk, rfl, rfl, .inr ⟨he, rfl, rfl⟩⟩))))) (fun _ => rfl) (by omega) (by omega)⟩
  rw [show z.cells.toArray = #[.int .i64 z.k, .int .i64 z.x, .int .i64 z.y, .int .i64 z.z, .string z.nm, .string z.v] from rfl, hk]
  have HW := hid_mk hW
  clear hT h hW
  go_enter Try.func13, Try.ntmps13
  go_wp2_with (go_at_call 34; fail)
  refine HC.out.mono ?_
  rintro e w1 ⟨b1, err, rfl, hP⟩
  have HP := hid_mk hP
  clear HC hP
  go_wp2
  refine bodyPost_ret (v := .tuple #[.pointer (some ⟨b1, 0, none⟩), .int .i64 0, .int .i64 err]) (by simp [results, Try.results13, go_sem]) rfl HP.out
set_option maxHeartbeats 1000000 in
theorem act_other {w : World} {b : Nat} (h : Tree w (.pointer (some ⟨b, 0, none⟩)) m nx) (z : Act6) (hk : ¬ (0 ≤ z.k ∧ z.k ≤ 4)) : Calls Try.prog 13 #[.pointer (some ⟨b, 0, none⟩), .agg z.cells.toArray] w (ActP w (.pointer (some ⟨b, 0, none⟩)) m nx z) := by
  have hW : Below w.heap.size w (w.alloc (.cells #[.int .i64 z.k, .int .i64 z.x, .int .i64 z.y, .int .i64 z.z, .string z.nm, .string z.v] 33)) := (Below.refl _ w).alloc (Nat.le_refl _) _
  have HP : Hid (ActP w (.pointer (some ⟨b, 0, none⟩)) m nx z (.returned (.tuple #[.pointer (some ⟨b, 0, none⟩), .int .i64 0, .int .i64 0])) (w.alloc (.cells #[.int .i64 z.k, .int .i64 z.x, .int .i64 z.y, .int .i64 z.z, .string z.nm, .string z.v] 33))) := act_lift hW (Below.refl _ _) (h.keep hW) (.inr (.inr (.inr (.inr (.inr ⟨hk, rfl, rfl, rfl, rfl⟩))))) (fun h => absurd rfl h) (by omega) (by omega)
  rw [show z.cells.toArray = #[.int .i64 z.k, .int .i64 z.x, .int .i64 z.y, .int .i64 z.z, .string z.nm, .string z.v] from rfl]
  have h0 : (z.k == 0) = false := by simp; omega
  have h1 : (z.k == 1) = false := by simp; omega
  have h2 : (z.k == 2) = false := by simp; omega
  have h3 : (z.k == 3) = false := by simp; omega
  have h4 : (z.k == 4) = false := by simp; omega
  clear h hW hk
  go_enter Try.func13, Try.ntmps13
  go_wp2
  refine bodyPost_ret (v := .tuple #[.pointer (some ⟨b, 0, none⟩), .int .i64 0, .int .i64 0]) (by simp [results, Try.results13, go_sem]) rfl HP.out
theorem act_any {w : World} {b : Nat} (h : Tree w (.pointer (some ⟨b, 0, none⟩)) m nx) (hnx : nx < 100000) (z : Act6) (hs : z.nm.size ≤ maxLen) (hv : z.v.size ≤ maxLen) : Calls Try.prog 13 #[.pointer (some ⟨b, 0, none⟩), .agg z.cells.toArray] w (ActP w (.pointer (some ⟨b, 0, none⟩)) m nx z) := by
  by_cases hk : 0 ≤ z.k ∧ z.k ≤ 4
  · have : z.k = 0 ∨ z.k = 1 ∨ z.k = 2 ∨ z.k = 3 ∨ z.k = 4 := by omega
    rcases this with hk | hk | hk | hk | hk
    · exact act_0 h hnx z hk hs hv
    · exact act_1 h hnx z hk hs hv
    · exact act_2 h hnx z hk hs hv
    · exact act_3 h hnx z hk hs hv
    · exact act_4 h hnx z hk hs hv
  · exact act_other h z hk

end Go.Proofs.Ytecbgleidohjpaa.N
