/- The tree of acts, the program's and the document's. -/
import Derived.Test.YtdiljkmlneeboaaGreatRfL
namespace Go.Proofs.YtdiljkmlneeboaaGreat.N
open Go.RowKit
set_option maxRecDepth 100000

variable {m : M} {nx : Int}
/-- What a list of acts makes of a tree. -/
def ActsR : M → Int → List Act6 → M → Int → Prop
  | m, nx, [], m', nx' => m' = m ∧ nx' = nx
  | m, nx, a :: r, m', nx' => ∃ m1 n1 rid err, ActR m nx a m1 n1 rid err ∧ ActsR m1 n1 r m' nx'
theorem ActsR.snoc : ∀ {xs : List Act6} {m : M} {nx : Int} {m1 m2 : M} {n1 n2 r e : Int} {a : Act6}, ActsR m nx xs m1 n1 → ActR m1 n1 a m2 n2 r e → ActsR m nx (xs ++ [a]) m2 n2
  | [], _, _, _, _, _, _, r, e, _, h, h2 => by
    obtain ⟨rfl, rfl⟩ := h
    exact ⟨_, _, r, e, h2, rfl, rfl⟩
  | _ :: _, _, _, _, _, _, _, _, _, _, h, h2 => by
    obtain ⟨m3, n3, r3, e3, h3, h4⟩ := h
    exact ⟨m3, n3, r3, e3, h3, h4.snoc h2⟩
theorem ActsR.uniq : ∀ {xs : List Act6} {m : M} {nx : Int} {m1 m2 : M} {n1 n2 : Int}, ActsR m nx xs m1 n1 → ActsR m nx xs m2 n2 → m1 = m2 ∧ n1 = n2
  | [], _, _, _, _, _, _, h, h2 => by
    obtain ⟨rfl, rfl⟩ := h
    obtain ⟨rfl, rfl⟩ := h2
    exact ⟨rfl, rfl⟩
  | _ :: _, _, _, _, _, _, _, h, h2 => by
    obtain ⟨m3, n3, r3, e3, h3, h4⟩ := h
    obtain ⟨m5, n5, r5, e5, h5, h6⟩ := h2
    obtain ⟨rfl, rfl, _, _⟩ := h3.uniq h5
    exact h4.uniq h6
def M0 : M := mset (fun _ => none) 1 ⟨1, sA, 0, [], []⟩
def StepD (w : World) (m : M) (nx : Int) (z : Act6) (b1 : Nat) (w1 : World) : Prop := ∃ m' nx' rid err, ActR m nx z m' nx' rid err ∧ Tree w1 (.pointer (some ⟨b1, 0, none⟩)) m' nx' ∧ nx ≤ nx' ∧ nx' ≤ nx + 1 ∧ Below w.heap.size w w1
def StepR (w : World) (m : M) (nx : Int) (z : Act6) (b1 : Nat) (w1 : World) : Prop := ∃ m' nx' rid err L', ActR m nx z m' nx' rid err ∧ RTree w1 (.pointer (some ⟨b1, 0, none⟩)) L' m' nx' ∧ nx ≤ nx' ∧ nx' ≤ nx + 1 ∧ Below w.heap.size w w1
theorem dom_0 {w : World} {b : Nat} (h : Tree w (.pointer (some ⟨b, 0, none⟩)) m nx) (_hnx : nx < 100000) (z : Act6) (hk : z.k = 0) (_hs : z.nm.size ≤ 281474976710656) (_hv : z.v.size ≤ 281474976710656) : Calls Tryz.prog 24 #[.pointer (some ⟨b, 0, none⟩), .int .i64 z.x, .int .i64 z.y, .string z.nm] w fun x w1 => ∃ (b1 : Nat) (rid err : Int), x = .returned (.tuple #[.pointer (some ⟨b1, 0, none⟩), .int .i64 rid, .int .i64 err]) ∧ StepD w m nx z b1 w1 := by
  by_cases he : insErr m z.x z.y z.nm = 0
  · obtain ⟨i, e, hi, _⟩ := ok_insErr he
    have he2 := he
    rw [hi] at he2
    have hc := tree_insert h _hnx z.x i z.nm (by unfold maxLen; omega) he2
    rw [← hi] at hc
    refine hc.mono ?_
    rintro x w1 ⟨b1, rfl, hT1, hB1⟩
    exact ⟨b1, nx, 0, rfl, _, _, nx, 0, .inl ⟨hk, .inl ⟨he, ⟨i, hi, rfl⟩, rfl, rfl, rfl⟩⟩, hT1, by omega, by omega, hB1⟩
  · refine (tree_insert_err h z.x z.y z.nm (by unfold maxLen; omega) he).mono ?_
    rintro x w1 ⟨rfl, hB1⟩
    exact ⟨b, 0, _, rfl, _, _, 0, _, .inl ⟨hk, .inr ⟨he, rfl, rfl, rfl, rfl⟩⟩, h.keep hB1, by omega, by omega, hB1⟩
theorem dom_1 {w : World} {b : Nat} (h : Tree w (.pointer (some ⟨b, 0, none⟩)) m nx) (_hnx : nx < 100000) (z : Act6) (hk : z.k = 1) (_hs : z.nm.size ≤ 281474976710656) (_hv : z.v.size ≤ 281474976710656) : Calls Tryz.prog 25 #[.pointer (some ⟨b, 0, none⟩), .int .i64 z.x] w fun x w1 => ∃ (b1 : Nat) (err : Int), x = .returned (.tuple #[.pointer (some ⟨b1, 0, none⟩), .int .i64 err]) ∧ StepD w m nx z b1 w1 := by
  obtain ⟨k, hF⟩ := h.full z.x
  by_cases he : remErr m z.x = 0
  · have hne : m z.x ≠ none := fun h0 => by
      unfold remErr at he
      rw [if_pos h0] at he
      cases he
    refine (tree_remove h z.x (hF hne) he).mono ?_
    rintro x w1 ⟨b1, rfl, hT1, hB1⟩
    exact ⟨b1, 0, rfl, _, _, 0, 0, .inr (.inl ⟨hk, rfl, rfl, .inl ⟨he, ⟨k, hF hne, rfl⟩, rfl⟩⟩), hT1, by omega, by omega, hB1⟩
  · refine (remove_err h.1 z.x he).mono ?_
    rintro x w1 ⟨rfl, hB1⟩
    exact ⟨b, _, rfl, _, _, 0, _, .inr (.inl ⟨hk, rfl, rfl, .inr ⟨he, rfl, rfl⟩⟩), h.keep hB1, by omega, by omega, hB1⟩
theorem dom_2 {w : World} {b : Nat} (h : Tree w (.pointer (some ⟨b, 0, none⟩)) m nx) (_hnx : nx < 100000) (z : Act6) (hk : z.k = 2) (_hs : z.nm.size ≤ 281474976710656) (_hv : z.v.size ≤ 281474976710656) : Calls Tryz.prog 26 #[.pointer (some ⟨b, 0, none⟩), .int .i64 z.x, .int .i64 z.y, .int .i64 z.z] w fun x w1 => ∃ (b1 : Nat) (err : Int), x = .returned (.tuple #[.pointer (some ⟨b1, 0, none⟩), .int .i64 err]) ∧ StepD w m nx z b1 w1 := by
  obtain ⟨k, hF⟩ := h.full z.x
  by_cases he : movErr m z.x z.y z.z k = 0
  · obtain ⟨i, e, q, hi, _⟩ := ok_movErr (uok := uOk) (nx := nx) (d := fun _ => 0) hF he
    have he2 := he
    rw [hi] at he2
    have hc := tree_move h z.x z.y i hF he2
    rw [← hi] at hc
    refine hc.mono ?_
    rintro x w1 ⟨b1, rfl, hT1, hB1⟩
    exact ⟨b1, 0, rfl, _, _, 0, 0, .inr (.inr (.inl ⟨hk, rfl, rfl, k, hF, .inl ⟨he, ⟨i, hi, rfl⟩, rfl⟩⟩)), hT1, by omega, by omega, hB1⟩
  · refine (tree_move_err h z.x z.y z.z hF he).mono ?_
    rintro x w1 ⟨rfl, hB1⟩
    exact ⟨b, _, rfl, _, _, 0, _, .inr (.inr (.inl ⟨hk, rfl, rfl, k, hF, .inr ⟨he, rfl, rfl⟩⟩)), h.keep hB1, by omega, by omega, hB1⟩
theorem dom_3 {w : World} {b : Nat} (h : Tree w (.pointer (some ⟨b, 0, none⟩)) m nx) (_hnx : nx < 100000) (z : Act6) (hk : z.k = 3) (_hs : z.nm.size ≤ 281474976710656) (_hv : z.v.size ≤ 281474976710656) : Calls Tryz.prog 27 #[.pointer (some ⟨b, 0, none⟩), .int .i64 z.x, .string z.nm, .string z.v] w fun x w1 => ∃ (b1 : Nat) (err : Int), x = .returned (.tuple #[.pointer (some ⟨b1, 0, none⟩), .int .i64 err]) ∧ StepD w m nx z b1 w1 := by
  by_cases he : setErr m z.x z.nm z.v = 0
  · refine (setAttr_ok h z.x z.nm z.v (by unfold maxLen; omega) he).mono ?_
    rintro x w1 ⟨b1, rfl, hT1, hB1⟩
    exact ⟨b1, 0, rfl, _, _, 0, 0, .inr (.inr (.inr (.inl ⟨hk, rfl, rfl, .inl ⟨he, rfl, rfl⟩⟩))), hT1, by omega, by omega, hB1⟩
  · refine (setAttr_err h z.x z.nm z.v (by unfold maxLen; omega) (by unfold maxLen; omega) he).mono ?_
    rintro x w1 ⟨rfl, hB1⟩
    exact ⟨b, _, rfl, _, _, 0, _, .inr (.inr (.inr (.inl ⟨hk, rfl, rfl, .inr ⟨he, rfl, rfl⟩⟩))), h.keep hB1, by omega, by omega, hB1⟩
theorem dom_4 {w : World} {b : Nat} (h : Tree w (.pointer (some ⟨b, 0, none⟩)) m nx) (_hnx : nx < 100000) (z : Act6) (hk : z.k = 4) (_hs : z.nm.size ≤ 281474976710656) (_hv : z.v.size ≤ 281474976710656) : Calls Tryz.prog 28 #[.pointer (some ⟨b, 0, none⟩), .int .i64 z.x, .string z.nm] w fun x w1 => ∃ (b1 : Nat) (err : Int), x = .returned (.tuple #[.pointer (some ⟨b1, 0, none⟩), .int .i64 err]) ∧ StepD w m nx z b1 w1 := by
  by_cases he : drpErr m z.x z.nm = 0
  · refine (dropAttr_ok h z.x z.nm he).mono ?_
    rintro x w1 ⟨b1, rfl, hT1, hB1⟩
    exact ⟨b1, 0, rfl, _, _, 0, 0, .inr (.inr (.inr (.inr (.inl ⟨hk, rfl, rfl, .inl ⟨he, rfl, rfl⟩⟩)))), hT1, by omega, by omega, hB1⟩
  · refine (dropAttr_err h z.x z.nm he).mono ?_
    rintro x w1 ⟨rfl, hB1⟩
    exact ⟨b, _, rfl, _, _, 0, _, .inr (.inr (.inr (.inr (.inl ⟨hk, rfl, rfl, .inr ⟨he, rfl, rfl⟩⟩)))), h.keep hB1, by omega, by omega, hB1⟩
theorem doc_0 {w : World} {b : Nat} {L : List El} (h : RTree w (.pointer (some ⟨b, 0, none⟩)) L m nx) (_hnx : nx < 100000) (z : Act6) (hk : z.k = 0) (_hs : z.nm.size ≤ 281474976710656) (_hv : z.v.size ≤ 281474976710656) : Calls Tryz.prog 64 #[.pointer (some ⟨b, 0, none⟩), .int .i64 z.x, .int .i64 z.y, .string z.nm] w fun x w1 => ∃ (b1 : Nat) (rid err : Int), x = .returned (.tuple #[.pointer (some ⟨b1, 0, none⟩), .int .i64 rid, .int .i64 err]) ∧ StepR w m nx z b1 w1 := by
  by_cases he : insErr m z.x z.y z.nm = 0
  · refine (rinsert_ok h _hnx z.x z.y z.nm _hs he).mono ?_
    rintro x w1 ⟨b1, i, L', hi, rfl, hT1, hB1⟩
    exact ⟨b1, nx, 0, rfl, _, _, nx, 0, L', .inl ⟨hk, .inl ⟨he, ⟨i, hi, rfl⟩, rfl, rfl, rfl⟩⟩, hT1, by omega, by omega, hB1⟩
  · refine (rinsert_err h z.x z.y z.nm _hs he).mono ?_
    rintro x w1 ⟨rfl, hB1⟩
    exact ⟨b, 0, _, rfl, _, _, 0, _, L, .inl ⟨hk, .inr ⟨he, rfl, rfl, rfl, rfl⟩⟩, h.keep hB1, by omega, by omega, hB1⟩
theorem doc_1 {w : World} {b : Nat} {L : List El} (h : RTree w (.pointer (some ⟨b, 0, none⟩)) L m nx) (_hnx : nx < 100000) (z : Act6) (hk : z.k = 1) (_hs : z.nm.size ≤ 281474976710656) (_hv : z.v.size ≤ 281474976710656) : Calls Tryz.prog 65 #[.pointer (some ⟨b, 0, none⟩), .int .i64 z.x] w fun x w1 => ∃ (b1 : Nat) (err : Int), x = .returned (.tuple #[.pointer (some ⟨b1, 0, none⟩), .int .i64 err]) ∧ StepR w m nx z b1 w1 := by
  obtain ⟨k, hF⟩ := h.full z.x
  by_cases he : remErr m z.x = 0
  · have hne : m z.x ≠ none := fun h0 => by
      unfold remErr at he
      rw [if_pos h0] at he
      cases he
    refine (rremove_ok h z.x (hF hne) he).mono ?_
    rintro x w1 ⟨b1, L', rfl, hT1, hB1⟩
    exact ⟨b1, 0, rfl, _, _, 0, 0, L', .inr (.inl ⟨hk, rfl, rfl, .inl ⟨he, ⟨k, hF hne, rfl⟩, rfl⟩⟩), hT1, by omega, by omega, hB1⟩
  · refine (rremove_err h z.x he).mono ?_
    rintro x w1 ⟨rfl, hB1⟩
    exact ⟨b, _, rfl, _, _, 0, _, L, .inr (.inl ⟨hk, rfl, rfl, .inr ⟨he, rfl, rfl⟩⟩), h.keep hB1, by omega, by omega, hB1⟩
theorem doc_2 {w : World} {b : Nat} {L : List El} (h : RTree w (.pointer (some ⟨b, 0, none⟩)) L m nx) (_hnx : nx < 100000) (z : Act6) (hk : z.k = 2) (_hs : z.nm.size ≤ 281474976710656) (_hv : z.v.size ≤ 281474976710656) : Calls Tryz.prog 66 #[.pointer (some ⟨b, 0, none⟩), .int .i64 z.x, .int .i64 z.y, .int .i64 z.z] w fun x w1 => ∃ (b1 : Nat) (err : Int), x = .returned (.tuple #[.pointer (some ⟨b1, 0, none⟩), .int .i64 err]) ∧ StepR w m nx z b1 w1 := by
  obtain ⟨k, hF⟩ := h.full z.x
  by_cases he : movErr m z.x z.y z.z k = 0
  · refine (rmove_ok h z.x z.y z.z hF he).mono ?_
    rintro x w1 ⟨b1, i, L', hi, rfl, hT1, hB1⟩
    exact ⟨b1, 0, rfl, _, _, 0, 0, L', .inr (.inr (.inl ⟨hk, rfl, rfl, k, hF, .inl ⟨he, ⟨i, hi, rfl⟩, rfl⟩⟩)), hT1, by omega, by omega, hB1⟩
  · refine (rmove_err h z.x z.y z.z hF he).mono ?_
    rintro x w1 ⟨rfl, hB1⟩
    exact ⟨b, _, rfl, _, _, 0, _, L, .inr (.inr (.inl ⟨hk, rfl, rfl, k, hF, .inr ⟨he, rfl, rfl⟩⟩)), h.keep hB1, by omega, by omega, hB1⟩
theorem doc_3 {w : World} {b : Nat} {L : List El} (h : RTree w (.pointer (some ⟨b, 0, none⟩)) L m nx) (_hnx : nx < 100000) (z : Act6) (hk : z.k = 3) (_hs : z.nm.size ≤ 281474976710656) (_hv : z.v.size ≤ 281474976710656) : Calls Tryz.prog 67 #[.pointer (some ⟨b, 0, none⟩), .int .i64 z.x, .string z.nm, .string z.v] w fun x w1 => ∃ (b1 : Nat) (err : Int), x = .returned (.tuple #[.pointer (some ⟨b1, 0, none⟩), .int .i64 err]) ∧ StepR w m nx z b1 w1 := by
  by_cases he : setErr m z.x z.nm z.v = 0
  · refine (rset_ok h z.x z.nm z.v _hs he).mono ?_
    rintro x w1 ⟨b1, L', rfl, hT1, hB1⟩
    exact ⟨b1, 0, rfl, _, _, 0, 0, L', .inr (.inr (.inr (.inl ⟨hk, rfl, rfl, .inl ⟨he, rfl, rfl⟩⟩))), hT1, by omega, by omega, hB1⟩
  · refine (rset_err h z.x z.nm z.v _hs _hv he).mono ?_
    rintro x w1 ⟨rfl, hB1⟩
    exact ⟨b, _, rfl, _, _, 0, _, L, .inr (.inr (.inr (.inl ⟨hk, rfl, rfl, .inr ⟨he, rfl, rfl⟩⟩))), h.keep hB1, by omega, by omega, hB1⟩
theorem doc_4 {w : World} {b : Nat} {L : List El} (h : RTree w (.pointer (some ⟨b, 0, none⟩)) L m nx) (_hnx : nx < 100000) (z : Act6) (hk : z.k = 4) (_hs : z.nm.size ≤ 281474976710656) (_hv : z.v.size ≤ 281474976710656) : Calls Tryz.prog 68 #[.pointer (some ⟨b, 0, none⟩), .int .i64 z.x, .string z.nm] w fun x w1 => ∃ (b1 : Nat) (err : Int), x = .returned (.tuple #[.pointer (some ⟨b1, 0, none⟩), .int .i64 err]) ∧ StepR w m nx z b1 w1 := by
  by_cases he : drpErr m z.x z.nm = 0
  · refine (rdrop_ok h z.x z.nm he).mono ?_
    rintro x w1 ⟨b1, L', rfl, hT1, hB1⟩
    exact ⟨b1, 0, rfl, _, _, 0, 0, L', .inr (.inr (.inr (.inr (.inl ⟨hk, rfl, rfl, .inl ⟨he, rfl, rfl⟩⟩)))), hT1, by omega, by omega, hB1⟩
  · refine (rdrop_err h z.x z.nm he).mono ?_
    rintro x w1 ⟨rfl, hB1⟩
    exact ⟨b, _, rfl, _, _, 0, _, L, .inr (.inr (.inr (.inr (.inl ⟨hk, rfl, rfl, .inr ⟨he, rfl, rfl⟩⟩)))), h.keep hB1, by omega, by omega, hB1⟩
set_option maxHeartbeats 4000000 in
theorem of_any {W : World} {v : Value} {xs : List Act6} (hp : ActsIn W v xs) (hx : xs.length ≤ 130) : Calls Tryz.prog 29 #[v] W fun e w' => ∃ b m nx L, e = .returned (.pointer (some ⟨b, 0, none⟩)) ∧ ActsR M0 2 xs m nx ∧ RTree w' (.pointer (some ⟨b, 0, none⟩)) L m nx ∧ Below W.heap.size W w' := by
  have HNEW : Hid (∀ w', _) := fun w' => rnew_yes sA w' (by decide) name_a
  obtain ⟨hA, hsz⟩ := hp
  have HZ : Hid (∀ z ∈ xs, z.nm.size ≤ 281474976710656 ∧ z.v.size ≤ 281474976710656) := fun z hz => by
    obtain ⟨h1, h2⟩ := hsz z hz
    omega
  have HC : Hid (∀ i (hi : i < xs.length), _) := fun i hi => hA.cells hi
  obtain ⟨a, cap, rfl, hcap, hmax, hx0⟩ := hA
  clear hx0 hsz
  go_enter Tryz.func29, Tryz.ntmps29
  go_wp2_with (go_at_call 63; fail)
  refine (HNEW.out _).mono ?_
  rintro e w2 ⟨b2, rfl, hT2, hB2⟩
  have HB2 := hid_mk hB2
  have HT2 := hid_mk hT2
  clear HNEW hT2 hB2
  go_wp2
  go_loopw [3, 13] (fun ad ai wr => ∃ (i b : Nat) (m : M) (nx : Int), i ≤ xs.length ∧ ad = .pointer (some ⟨b, 0, none⟩) ∧ ai = .int .i64 (i : Int) ∧ nx ≤ i + 2 ∧ Hid (ActsR M0 2 (xs.take i) m nx) ∧ Hid (∃ L, RTree wr (.pointer (some ⟨b, 0, none⟩)) L m nx) ∧ Hid (Below W.heap.size W wr)) (fun _ ai _ => xs.length + 1 - (intOf ai).toNat)
  case atStart => exact ⟨0, b2, M0, 2, Nat.zero_le _, rfl, rfl, by omega, hid_mk ⟨rfl, rfl⟩, hid_mk ⟨_, HT2.out⟩, HB2⟩
  case round =>
    clear HT2 HB2
    obtain ⟨i, b, m, nx, hi, rfl, rfl, hnx, HR, HT, HB⟩ := hrel
    by_cases hlt : i < xs.length
    · obtain ⟨bx, off, cap', e, _, hbl, q0, q1, q2, q3, q4, q5⟩ := HC.out i hlt
      cases e
      obtain ⟨z1, z2⟩ := HZ.out xs[i] (List.getElem_mem hlt)
      have c0 := (HB.out.cell (p := ⟨bx, off + i * 6, none⟩) hbl).trans q0
      have c1 := (HB.out.cell (p := ⟨bx, off + i * 6 + 1, none⟩) hbl).trans q1
      have c2 := (HB.out.cell (p := ⟨bx, off + i * 6 + 2, none⟩) hbl).trans q2
      have c3 := (HB.out.cell (p := ⟨bx, off + i * 6 + 3, none⟩) hbl).trans q3
      have c4 := (HB.out.cell (p := ⟨bx, off + i * 6 + 4, none⟩) hbl).trans q4
      have c5 := (HB.out.cell (p := ⟨bx, off + i * 6 + 5, none⟩) hbl).trans q5
      have HTK : Hid (xs.take (i + 1) = xs.take i ++ [xs[i]]) := by rw [Hid, List.take_add_one, List.getElem?_eq_getElem hlt]; rfl
      generalize xs[i] = z at *
      clear q0 q1 q2 q3 q4 q5
      have HSN : Hid (∀ m' nx' rid err, ActR m nx z m' nx' rid err → ActsR M0 2 (xs.take (i + 1)) m' nx') := fun m' nx' rid err h => by rw [HTK.out]; exact HR.out.snoc h
      have hn100 : nx < 100000 := by omega
      by_cases hk5 : 0 ≤ z.k ∧ z.k ≤ 4
      · have hk : z.k = 0 ∨ z.k = 1 ∨ z.k = 2 ∨ z.k = 3 ∨ z.k = 4 := by omega
        rcases hk with hk | hk | hk | hk | hk
        · have c0' := c0
          rw [hk] at c0'
          obtain ⟨L, hTr⟩ := HT.out
          obtain ⟨w5, hw5⟩ : ∃ w5, w5 = wr.alloc (.cells #[.int .i64 0, .int .i64 z.x, .int .i64 z.y, .int .i64 z.z, .string z.nm, .string z.v] 53) := ⟨_, rfl⟩
          have hA5 : Below wr.heap.size wr w5 := by rw [hw5]; exact (Below.refl _ _).alloc (Nat.le_refl _) _
          have hb5 : w5.heap[wr.heap.size]? = some (.cells #[.int .i64 0, .int .i64 z.x, .int .i64 z.y, .int .i64 z.z, .string z.nm, .string z.v] 53 (0, 0)) := by rw [hw5]; exact heap_alloc_last wr _
          have f0 : w5.cell? ⟨wr.heap.size, 0, none⟩ = some (.int .i64 0) := by simp [World.cell?, hb5]
          have f1 : w5.cell? ⟨wr.heap.size, 1, none⟩ = some (.int .i64 z.x) := by simp [World.cell?, hb5]
          have f2 : w5.cell? ⟨wr.heap.size, 2, none⟩ = some (.int .i64 z.y) := by simp [World.cell?, hb5]
          have f3 : w5.cell? ⟨wr.heap.size, 3, none⟩ = some (.int .i64 z.z) := by simp [World.cell?, hb5]
          have f4 : w5.cell? ⟨wr.heap.size, 4, none⟩ = some (.string z.nm) := by simp [World.cell?, hb5]
          have f5 : w5.cell? ⟨wr.heap.size, 5, none⟩ = some (.string z.v) := by simp [World.cell?, hb5]
          have hact := doc_0 (hTr.keep hA5) hn100 z hk z1 z2
          have HB5 : Hid (Below W.heap.size W w5) := HB.out.trans (hA5.mono HB.out.size)
          have HW5 := hid_mk hw5
          clear c0 hk hk5 hA5 hb5 hw5 HT HB HR HTK hTr
          go_upto_region 5 with (fail)
          rw [← HW5.out]
          go_wp2_with (go_at_call 64; fail)
          refine hact.mono ?_
          rintro x w6 ⟨b6, rid, err, rfl, ⟨m6, nx6, rid6, err6, L6, hR6, hT6, _, hn6, hB6⟩⟩
          have HT6 : Hid (∃ L, RTree w6 (.pointer (some ⟨b6, 0, none⟩)) L m6 nx6) := ⟨L6, hT6⟩
          have HR6 := hid_mk (HSN.out _ _ _ _ hR6)
          have HB6 := hid_mk (HB5.out.trans (hB6.mono HB5.out.size))
          clear hact hR6 hT6 hB6 HSN f0 f1 f2 f3 f4 f5 c0' c1 c2 c3 c4 c5
          go_wp2
          exact ⟨⟨i + 1, b6, m6, nx6, hlt, rfl, by go_num, by omega, HR6, HT6, HB6⟩, by simp only [intOf]; omega⟩
        · have c0' := c0
          rw [hk] at c0'
          obtain ⟨L, hTr⟩ := HT.out
          obtain ⟨w5, hw5⟩ : ∃ w5, w5 = wr.alloc (.cells #[.int .i64 1, .int .i64 z.x, .int .i64 z.y, .int .i64 z.z, .string z.nm, .string z.v] 53) := ⟨_, rfl⟩
          have hA5 : Below wr.heap.size wr w5 := by rw [hw5]; exact (Below.refl _ _).alloc (Nat.le_refl _) _
          have hb5 : w5.heap[wr.heap.size]? = some (.cells #[.int .i64 1, .int .i64 z.x, .int .i64 z.y, .int .i64 z.z, .string z.nm, .string z.v] 53 (0, 0)) := by rw [hw5]; exact heap_alloc_last wr _
          have f0 : w5.cell? ⟨wr.heap.size, 0, none⟩ = some (.int .i64 1) := by simp [World.cell?, hb5]
          have f1 : w5.cell? ⟨wr.heap.size, 1, none⟩ = some (.int .i64 z.x) := by simp [World.cell?, hb5]
          have f2 : w5.cell? ⟨wr.heap.size, 2, none⟩ = some (.int .i64 z.y) := by simp [World.cell?, hb5]
          have f3 : w5.cell? ⟨wr.heap.size, 3, none⟩ = some (.int .i64 z.z) := by simp [World.cell?, hb5]
          have f4 : w5.cell? ⟨wr.heap.size, 4, none⟩ = some (.string z.nm) := by simp [World.cell?, hb5]
          have f5 : w5.cell? ⟨wr.heap.size, 5, none⟩ = some (.string z.v) := by simp [World.cell?, hb5]
          have hact := doc_1 (hTr.keep hA5) hn100 z hk z1 z2
          have HB5 : Hid (Below W.heap.size W w5) := HB.out.trans (hA5.mono HB.out.size)
          have HW5 := hid_mk hw5
          clear c0 hk hk5 hA5 hb5 hw5 HT HB HR HTK hTr
          go_upto_region 5 with (fail)
          rw [← HW5.out]
          go_wp2_with (go_at_call 65; fail)
          refine hact.mono ?_
          rintro x w6 ⟨b6, err, rfl, ⟨m6, nx6, rid6, err6, L6, hR6, hT6, _, hn6, hB6⟩⟩
          have HT6 : Hid (∃ L, RTree w6 (.pointer (some ⟨b6, 0, none⟩)) L m6 nx6) := ⟨L6, hT6⟩
          have HR6 := hid_mk (HSN.out _ _ _ _ hR6)
          have HB6 := hid_mk (HB5.out.trans (hB6.mono HB5.out.size))
          clear hact hR6 hT6 hB6 HSN f0 f1 f2 f3 f4 f5 c0' c1 c2 c3 c4 c5
          go_wp2
          exact ⟨⟨i + 1, b6, m6, nx6, hlt, rfl, by go_num, by omega, HR6, HT6, HB6⟩, by simp only [intOf]; omega⟩
        · have c0' := c0
          rw [hk] at c0'
          obtain ⟨L, hTr⟩ := HT.out
          obtain ⟨w5, hw5⟩ : ∃ w5, w5 = wr.alloc (.cells #[.int .i64 2, .int .i64 z.x, .int .i64 z.y, .int .i64 z.z, .string z.nm, .string z.v] 53) := ⟨_, rfl⟩
          have hA5 : Below wr.heap.size wr w5 := by rw [hw5]; exact (Below.refl _ _).alloc (Nat.le_refl _) _
          have hb5 : w5.heap[wr.heap.size]? = some (.cells #[.int .i64 2, .int .i64 z.x, .int .i64 z.y, .int .i64 z.z, .string z.nm, .string z.v] 53 (0, 0)) := by rw [hw5]; exact heap_alloc_last wr _
          have f0 : w5.cell? ⟨wr.heap.size, 0, none⟩ = some (.int .i64 2) := by simp [World.cell?, hb5]
          have f1 : w5.cell? ⟨wr.heap.size, 1, none⟩ = some (.int .i64 z.x) := by simp [World.cell?, hb5]
          have f2 : w5.cell? ⟨wr.heap.size, 2, none⟩ = some (.int .i64 z.y) := by simp [World.cell?, hb5]
          have f3 : w5.cell? ⟨wr.heap.size, 3, none⟩ = some (.int .i64 z.z) := by simp [World.cell?, hb5]
          have f4 : w5.cell? ⟨wr.heap.size, 4, none⟩ = some (.string z.nm) := by simp [World.cell?, hb5]
          have f5 : w5.cell? ⟨wr.heap.size, 5, none⟩ = some (.string z.v) := by simp [World.cell?, hb5]
          have hact := doc_2 (hTr.keep hA5) hn100 z hk z1 z2
          have HB5 : Hid (Below W.heap.size W w5) := HB.out.trans (hA5.mono HB.out.size)
          have HW5 := hid_mk hw5
          clear c0 hk hk5 hA5 hb5 hw5 HT HB HR HTK hTr
          go_upto_region 5 with (fail)
          rw [← HW5.out]
          go_wp2_with (go_at_call 66; fail)
          refine hact.mono ?_
          rintro x w6 ⟨b6, err, rfl, ⟨m6, nx6, rid6, err6, L6, hR6, hT6, _, hn6, hB6⟩⟩
          have HT6 : Hid (∃ L, RTree w6 (.pointer (some ⟨b6, 0, none⟩)) L m6 nx6) := ⟨L6, hT6⟩
          have HR6 := hid_mk (HSN.out _ _ _ _ hR6)
          have HB6 := hid_mk (HB5.out.trans (hB6.mono HB5.out.size))
          clear hact hR6 hT6 hB6 HSN f0 f1 f2 f3 f4 f5 c0' c1 c2 c3 c4 c5
          go_wp2
          exact ⟨⟨i + 1, b6, m6, nx6, hlt, rfl, by go_num, by omega, HR6, HT6, HB6⟩, by simp only [intOf]; omega⟩
        · have c0' := c0
          rw [hk] at c0'
          obtain ⟨L, hTr⟩ := HT.out
          obtain ⟨w5, hw5⟩ : ∃ w5, w5 = wr.alloc (.cells #[.int .i64 3, .int .i64 z.x, .int .i64 z.y, .int .i64 z.z, .string z.nm, .string z.v] 53) := ⟨_, rfl⟩
          have hA5 : Below wr.heap.size wr w5 := by rw [hw5]; exact (Below.refl _ _).alloc (Nat.le_refl _) _
          have hb5 : w5.heap[wr.heap.size]? = some (.cells #[.int .i64 3, .int .i64 z.x, .int .i64 z.y, .int .i64 z.z, .string z.nm, .string z.v] 53 (0, 0)) := by rw [hw5]; exact heap_alloc_last wr _
          have f0 : w5.cell? ⟨wr.heap.size, 0, none⟩ = some (.int .i64 3) := by simp [World.cell?, hb5]
          have f1 : w5.cell? ⟨wr.heap.size, 1, none⟩ = some (.int .i64 z.x) := by simp [World.cell?, hb5]
          have f2 : w5.cell? ⟨wr.heap.size, 2, none⟩ = some (.int .i64 z.y) := by simp [World.cell?, hb5]
          have f3 : w5.cell? ⟨wr.heap.size, 3, none⟩ = some (.int .i64 z.z) := by simp [World.cell?, hb5]
          have f4 : w5.cell? ⟨wr.heap.size, 4, none⟩ = some (.string z.nm) := by simp [World.cell?, hb5]
          have f5 : w5.cell? ⟨wr.heap.size, 5, none⟩ = some (.string z.v) := by simp [World.cell?, hb5]
          have hact := doc_3 (hTr.keep hA5) hn100 z hk z1 z2
          have HB5 : Hid (Below W.heap.size W w5) := HB.out.trans (hA5.mono HB.out.size)
          have HW5 := hid_mk hw5
          clear c0 hk hk5 hA5 hb5 hw5 HT HB HR HTK hTr
          go_upto_region 5 with (fail)
          rw [← HW5.out]
          go_wp2_with (go_at_call 67; fail)
          refine hact.mono ?_
          rintro x w6 ⟨b6, err, rfl, ⟨m6, nx6, rid6, err6, L6, hR6, hT6, _, hn6, hB6⟩⟩
          have HT6 : Hid (∃ L, RTree w6 (.pointer (some ⟨b6, 0, none⟩)) L m6 nx6) := ⟨L6, hT6⟩
          have HR6 := hid_mk (HSN.out _ _ _ _ hR6)
          have HB6 := hid_mk (HB5.out.trans (hB6.mono HB5.out.size))
          clear hact hR6 hT6 hB6 HSN f0 f1 f2 f3 f4 f5 c0' c1 c2 c3 c4 c5
          go_wp2
          exact ⟨⟨i + 1, b6, m6, nx6, hlt, rfl, by go_num, by omega, HR6, HT6, HB6⟩, by simp only [intOf]; omega⟩
        · have c0' := c0
          rw [hk] at c0'
          obtain ⟨L, hTr⟩ := HT.out
          obtain ⟨w5, hw5⟩ : ∃ w5, w5 = wr.alloc (.cells #[.int .i64 4, .int .i64 z.x, .int .i64 z.y, .int .i64 z.z, .string z.nm, .string z.v] 53) := ⟨_, rfl⟩
          have hA5 : Below wr.heap.size wr w5 := by rw [hw5]; exact (Below.refl _ _).alloc (Nat.le_refl _) _
          have hb5 : w5.heap[wr.heap.size]? = some (.cells #[.int .i64 4, .int .i64 z.x, .int .i64 z.y, .int .i64 z.z, .string z.nm, .string z.v] 53 (0, 0)) := by rw [hw5]; exact heap_alloc_last wr _
          have f0 : w5.cell? ⟨wr.heap.size, 0, none⟩ = some (.int .i64 4) := by simp [World.cell?, hb5]
          have f1 : w5.cell? ⟨wr.heap.size, 1, none⟩ = some (.int .i64 z.x) := by simp [World.cell?, hb5]
          have f2 : w5.cell? ⟨wr.heap.size, 2, none⟩ = some (.int .i64 z.y) := by simp [World.cell?, hb5]
          have f3 : w5.cell? ⟨wr.heap.size, 3, none⟩ = some (.int .i64 z.z) := by simp [World.cell?, hb5]
          have f4 : w5.cell? ⟨wr.heap.size, 4, none⟩ = some (.string z.nm) := by simp [World.cell?, hb5]
          have f5 : w5.cell? ⟨wr.heap.size, 5, none⟩ = some (.string z.v) := by simp [World.cell?, hb5]
          have hact := doc_4 (hTr.keep hA5) hn100 z hk z1 z2
          have HB5 : Hid (Below W.heap.size W w5) := HB.out.trans (hA5.mono HB.out.size)
          have HW5 := hid_mk hw5
          clear c0 hk hk5 hA5 hb5 hw5 HT HB HR HTK hTr
          go_upto_region 5 with (fail)
          rw [← HW5.out]
          go_wp2_with (go_at_call 68; fail)
          refine hact.mono ?_
          rintro x w6 ⟨b6, err, rfl, ⟨m6, nx6, rid6, err6, L6, hR6, hT6, _, hn6, hB6⟩⟩
          have HT6 : Hid (∃ L, RTree w6 (.pointer (some ⟨b6, 0, none⟩)) L m6 nx6) := ⟨L6, hT6⟩
          have HR6 := hid_mk (HSN.out _ _ _ _ hR6)
          have HB6 := hid_mk (HB5.out.trans (hB6.mono HB5.out.size))
          clear hact hR6 hT6 hB6 HSN f0 f1 f2 f3 f4 f5 c0' c1 c2 c3 c4 c5
          go_wp2
          exact ⟨⟨i + 1, b6, m6, nx6, hlt, rfl, by go_num, by omega, HR6, HT6, HB6⟩, by simp only [intOf]; omega⟩
      · have k0 : (z.k == 0) = false := beq_false_of_ne (by omega)
        have k1 : (z.k == 1) = false := beq_false_of_ne (by omega)
        have k2 : (z.k == 2) = false := beq_false_of_ne (by omega)
        have k3 : (z.k == 3) = false := beq_false_of_ne (by omega)
        have k4 : (z.k == 4) = false := beq_false_of_ne (by omega)
        have hA5 : Below wr.heap.size wr (wr.alloc (.cells #[.int .i64 z.k, .int .i64 z.x, .int .i64 z.y, .int .i64 z.z, .string z.nm, .string z.v] 53)) := (Below.refl _ _).alloc (Nat.le_refl _) _
        have HB5 := hid_mk (HB.out.trans (hA5.mono HB.out.size))
        have HT5 : Hid (∃ L, RTree (wr.alloc (.cells #[.int .i64 z.k, .int .i64 z.x, .int .i64 z.y, .int .i64 z.z, .string z.nm, .string z.v] 53)) (.pointer (some ⟨b, 0, none⟩)) L m nx) := by obtain ⟨L, h⟩ := HT.out; exact ⟨L, h.keep hA5⟩
        have HR5 := hid_mk (HSN.out _ _ _ _ (.inr (.inr (.inr (.inr (.inr ⟨hk5, rfl, rfl, rfl, rfl⟩))))))
        clear hk5 hA5 HT HB HR HTK HSN
        go_wp2
        exact ⟨⟨i + 1, b, m, nx, hlt, rfl, by go_num, by omega, HR5, HT5, HB5⟩, by simp only [intOf]; omega⟩
    · have hie : i = xs.length := by omega
      have HR2 : Hid (ActsR M0 2 xs m nx) := by have := HR.out; rw [hie, List.take_length] at this; exact this
      clear HC HZ HR
      obtain ⟨L, hTr⟩ := HT.out
      have HTr := hid_mk hTr
      clear HT hTr
      go_wp2
      go_ret
      exact ⟨b, m, nx, L, rfl, HR2.out, HTr.out, HB.out⟩
set_option maxHeartbeats 4000000 in
theorem tree_any {W : World} {v : Value} {xs : List Act6} (hp : ActsIn W v xs) (hx : xs.length ≤ 130) : Calls Tryz.prog 7 #[v] W fun e w' => ∃ b c m nx L, e = .returned (.tuple #[.pointer (some ⟨b, 0, none⟩), .pointer (some ⟨c, 0, none⟩)]) ∧ ActsR M0 2 xs m nx ∧ nx ≤ xs.length + 2 ∧ Tree w' (.pointer (some ⟨b, 0, none⟩)) m nx ∧ RTree w' (.pointer (some ⟨c, 0, none⟩)) L m nx ∧ Below W.heap.size W w' := by
  have HOF : Hid (∀ w', Below W.heap.size W w' → _) := fun w' hw' => of_any (W := w') (v := v) (xs := xs) ⟨hp.1.keep hw', hp.2⟩ hx
  have HNEW : Hid (∀ w', _) := fun w' => tree_new sA w' (by decide) name_a
  obtain ⟨hA, hsz⟩ := hp
  have HZ : Hid (∀ z ∈ xs, z.nm.size ≤ 281474976710656 ∧ z.v.size ≤ 281474976710656) := fun z hz => by
    obtain ⟨h1, h2⟩ := hsz z hz
    omega
  have HC : Hid (∀ i (hi : i < xs.length), _) := fun i hi => hA.cells hi
  obtain ⟨a, cap, rfl, hcap, hmax, hx0⟩ := hA
  clear hx0 hsz
  go_enter Tryz.func7, Tryz.ntmps7
  go_wp2_with (go_at_call 23; fail)
  refine (HNEW.out _).mono ?_
  rintro e w2 ⟨b2, rfl, hT2, hB2⟩
  have HB2 := hid_mk hB2
  have HT2 := hid_mk hT2
  clear HNEW hT2 hB2
  go_wp2
  go_loopw [4, 14] (fun ad ai wr => ∃ (i b : Nat) (m : M) (nx : Int), i ≤ xs.length ∧ ad = .pointer (some ⟨b, 0, none⟩) ∧ ai = .int .i64 (i : Int) ∧ nx ≤ i + 2 ∧ Hid (ActsR M0 2 (xs.take i) m nx) ∧ Hid (Tree wr (.pointer (some ⟨b, 0, none⟩)) m nx) ∧ Hid (Below W.heap.size W wr)) (fun _ ai _ => xs.length + 1 - (intOf ai).toNat)
  case atStart => exact ⟨0, b2, M0, 2, Nat.zero_le _, rfl, rfl, by omega, hid_mk ⟨rfl, rfl⟩, HT2, HB2⟩
  case round =>
    clear HT2 HB2
    obtain ⟨i, b, m, nx, hi, rfl, rfl, hnx, HR, HT, HB⟩ := hrel
    by_cases hlt : i < xs.length
    · obtain ⟨bx, off, cap', e, _, hbl, q0, q1, q2, q3, q4, q5⟩ := HC.out i hlt
      cases e
      obtain ⟨z1, z2⟩ := HZ.out xs[i] (List.getElem_mem hlt)
      have c0 := (HB.out.cell (p := ⟨bx, off + i * 6, none⟩) hbl).trans q0
      have c1 := (HB.out.cell (p := ⟨bx, off + i * 6 + 1, none⟩) hbl).trans q1
      have c2 := (HB.out.cell (p := ⟨bx, off + i * 6 + 2, none⟩) hbl).trans q2
      have c3 := (HB.out.cell (p := ⟨bx, off + i * 6 + 3, none⟩) hbl).trans q3
      have c4 := (HB.out.cell (p := ⟨bx, off + i * 6 + 4, none⟩) hbl).trans q4
      have c5 := (HB.out.cell (p := ⟨bx, off + i * 6 + 5, none⟩) hbl).trans q5
      have HTK : Hid (xs.take (i + 1) = xs.take i ++ [xs[i]]) := by rw [Hid, List.take_add_one, List.getElem?_eq_getElem hlt]; rfl
      generalize xs[i] = z at *
      clear q0 q1 q2 q3 q4 q5
      have HSN : Hid (∀ m' nx' rid err, ActR m nx z m' nx' rid err → ActsR M0 2 (xs.take (i + 1)) m' nx') := fun m' nx' rid err h => by rw [HTK.out]; exact HR.out.snoc h
      have hn100 : nx < 100000 := by omega
      by_cases hk5 : 0 ≤ z.k ∧ z.k ≤ 4
      · have hk : z.k = 0 ∨ z.k = 1 ∨ z.k = 2 ∨ z.k = 3 ∨ z.k = 4 := by omega
        rcases hk with hk | hk | hk | hk | hk
        · have c0' := c0
          rw [hk] at c0'
          obtain ⟨w5, hw5⟩ : ∃ w5, w5 = wr.alloc (.cells #[.int .i64 0, .int .i64 z.x, .int .i64 z.y, .int .i64 z.z, .string z.nm, .string z.v] 53) := ⟨_, rfl⟩
          have hA5 : Below wr.heap.size wr w5 := by rw [hw5]; exact (Below.refl _ _).alloc (Nat.le_refl _) _
          have hb5 : w5.heap[wr.heap.size]? = some (.cells #[.int .i64 0, .int .i64 z.x, .int .i64 z.y, .int .i64 z.z, .string z.nm, .string z.v] 53 (0, 0)) := by rw [hw5]; exact heap_alloc_last wr _
          have f0 : w5.cell? ⟨wr.heap.size, 0, none⟩ = some (.int .i64 0) := by simp [World.cell?, hb5]
          have f1 : w5.cell? ⟨wr.heap.size, 1, none⟩ = some (.int .i64 z.x) := by simp [World.cell?, hb5]
          have f2 : w5.cell? ⟨wr.heap.size, 2, none⟩ = some (.int .i64 z.y) := by simp [World.cell?, hb5]
          have f3 : w5.cell? ⟨wr.heap.size, 3, none⟩ = some (.int .i64 z.z) := by simp [World.cell?, hb5]
          have f4 : w5.cell? ⟨wr.heap.size, 4, none⟩ = some (.string z.nm) := by simp [World.cell?, hb5]
          have f5 : w5.cell? ⟨wr.heap.size, 5, none⟩ = some (.string z.v) := by simp [World.cell?, hb5]
          have hact := dom_0 (HT.out.keep hA5) hn100 z hk z1 z2
          have HB5 : Hid (Below W.heap.size W w5) := HB.out.trans (hA5.mono HB.out.size)
          have HW5 := hid_mk hw5
          clear c0 hk hk5 hA5 hb5 hw5 HT HB HR HTK 
          go_upto_region 5 with (fail)
          rw [← HW5.out]
          go_wp2_with (go_at_call 24; fail)
          refine hact.mono ?_
          rintro x w6 ⟨b6, rid, err, rfl, ⟨m6, nx6, rid6, err6, hR6, hT6, _, hn6, hB6⟩⟩
          have HT6 := hid_mk hT6
          have HR6 := hid_mk (HSN.out _ _ _ _ hR6)
          have HB6 := hid_mk (HB5.out.trans (hB6.mono HB5.out.size))
          clear hact hR6 hT6 hB6 HSN f0 f1 f2 f3 f4 f5 c0' c1 c2 c3 c4 c5
          go_wp2
          exact ⟨⟨i + 1, b6, m6, nx6, hlt, rfl, by go_num, by omega, HR6, HT6, HB6⟩, by simp only [intOf]; omega⟩
        · have c0' := c0
          rw [hk] at c0'
          obtain ⟨w5, hw5⟩ : ∃ w5, w5 = wr.alloc (.cells #[.int .i64 1, .int .i64 z.x, .int .i64 z.y, .int .i64 z.z, .string z.nm, .string z.v] 53) := ⟨_, rfl⟩
          have hA5 : Below wr.heap.size wr w5 := by rw [hw5]; exact (Below.refl _ _).alloc (Nat.le_refl _) _
          have hb5 : w5.heap[wr.heap.size]? = some (.cells #[.int .i64 1, .int .i64 z.x, .int .i64 z.y, .int .i64 z.z, .string z.nm, .string z.v] 53 (0, 0)) := by rw [hw5]; exact heap_alloc_last wr _
          have f0 : w5.cell? ⟨wr.heap.size, 0, none⟩ = some (.int .i64 1) := by simp [World.cell?, hb5]
          have f1 : w5.cell? ⟨wr.heap.size, 1, none⟩ = some (.int .i64 z.x) := by simp [World.cell?, hb5]
          have f2 : w5.cell? ⟨wr.heap.size, 2, none⟩ = some (.int .i64 z.y) := by simp [World.cell?, hb5]
          have f3 : w5.cell? ⟨wr.heap.size, 3, none⟩ = some (.int .i64 z.z) := by simp [World.cell?, hb5]
          have f4 : w5.cell? ⟨wr.heap.size, 4, none⟩ = some (.string z.nm) := by simp [World.cell?, hb5]
          have f5 : w5.cell? ⟨wr.heap.size, 5, none⟩ = some (.string z.v) := by simp [World.cell?, hb5]
          have hact := dom_1 (HT.out.keep hA5) hn100 z hk z1 z2
          have HB5 : Hid (Below W.heap.size W w5) := HB.out.trans (hA5.mono HB.out.size)
          have HW5 := hid_mk hw5
          clear c0 hk hk5 hA5 hb5 hw5 HT HB HR HTK 
          go_upto_region 5 with (fail)
          rw [← HW5.out]
          go_wp2_with (go_at_call 25; fail)
          refine hact.mono ?_
          rintro x w6 ⟨b6, err, rfl, ⟨m6, nx6, rid6, err6, hR6, hT6, _, hn6, hB6⟩⟩
          have HT6 := hid_mk hT6
          have HR6 := hid_mk (HSN.out _ _ _ _ hR6)
          have HB6 := hid_mk (HB5.out.trans (hB6.mono HB5.out.size))
          clear hact hR6 hT6 hB6 HSN f0 f1 f2 f3 f4 f5 c0' c1 c2 c3 c4 c5
          go_wp2
          exact ⟨⟨i + 1, b6, m6, nx6, hlt, rfl, by go_num, by omega, HR6, HT6, HB6⟩, by simp only [intOf]; omega⟩
        · have c0' := c0
          rw [hk] at c0'
          obtain ⟨w5, hw5⟩ : ∃ w5, w5 = wr.alloc (.cells #[.int .i64 2, .int .i64 z.x, .int .i64 z.y, .int .i64 z.z, .string z.nm, .string z.v] 53) := ⟨_, rfl⟩
          have hA5 : Below wr.heap.size wr w5 := by rw [hw5]; exact (Below.refl _ _).alloc (Nat.le_refl _) _
          have hb5 : w5.heap[wr.heap.size]? = some (.cells #[.int .i64 2, .int .i64 z.x, .int .i64 z.y, .int .i64 z.z, .string z.nm, .string z.v] 53 (0, 0)) := by rw [hw5]; exact heap_alloc_last wr _
          have f0 : w5.cell? ⟨wr.heap.size, 0, none⟩ = some (.int .i64 2) := by simp [World.cell?, hb5]
          have f1 : w5.cell? ⟨wr.heap.size, 1, none⟩ = some (.int .i64 z.x) := by simp [World.cell?, hb5]
          have f2 : w5.cell? ⟨wr.heap.size, 2, none⟩ = some (.int .i64 z.y) := by simp [World.cell?, hb5]
          have f3 : w5.cell? ⟨wr.heap.size, 3, none⟩ = some (.int .i64 z.z) := by simp [World.cell?, hb5]
          have f4 : w5.cell? ⟨wr.heap.size, 4, none⟩ = some (.string z.nm) := by simp [World.cell?, hb5]
          have f5 : w5.cell? ⟨wr.heap.size, 5, none⟩ = some (.string z.v) := by simp [World.cell?, hb5]
          have hact := dom_2 (HT.out.keep hA5) hn100 z hk z1 z2
          have HB5 : Hid (Below W.heap.size W w5) := HB.out.trans (hA5.mono HB.out.size)
          have HW5 := hid_mk hw5
          clear c0 hk hk5 hA5 hb5 hw5 HT HB HR HTK 
          go_upto_region 5 with (fail)
          rw [← HW5.out]
          go_wp2_with (go_at_call 26; fail)
          refine hact.mono ?_
          rintro x w6 ⟨b6, err, rfl, ⟨m6, nx6, rid6, err6, hR6, hT6, _, hn6, hB6⟩⟩
          have HT6 := hid_mk hT6
          have HR6 := hid_mk (HSN.out _ _ _ _ hR6)
          have HB6 := hid_mk (HB5.out.trans (hB6.mono HB5.out.size))
          clear hact hR6 hT6 hB6 HSN f0 f1 f2 f3 f4 f5 c0' c1 c2 c3 c4 c5
          go_wp2
          exact ⟨⟨i + 1, b6, m6, nx6, hlt, rfl, by go_num, by omega, HR6, HT6, HB6⟩, by simp only [intOf]; omega⟩
        · have c0' := c0
          rw [hk] at c0'
          obtain ⟨w5, hw5⟩ : ∃ w5, w5 = wr.alloc (.cells #[.int .i64 3, .int .i64 z.x, .int .i64 z.y, .int .i64 z.z, .string z.nm, .string z.v] 53) := ⟨_, rfl⟩
          have hA5 : Below wr.heap.size wr w5 := by rw [hw5]; exact (Below.refl _ _).alloc (Nat.le_refl _) _
          have hb5 : w5.heap[wr.heap.size]? = some (.cells #[.int .i64 3, .int .i64 z.x, .int .i64 z.y, .int .i64 z.z, .string z.nm, .string z.v] 53 (0, 0)) := by rw [hw5]; exact heap_alloc_last wr _
          have f0 : w5.cell? ⟨wr.heap.size, 0, none⟩ = some (.int .i64 3) := by simp [World.cell?, hb5]
          have f1 : w5.cell? ⟨wr.heap.size, 1, none⟩ = some (.int .i64 z.x) := by simp [World.cell?, hb5]
          have f2 : w5.cell? ⟨wr.heap.size, 2, none⟩ = some (.int .i64 z.y) := by simp [World.cell?, hb5]
          have f3 : w5.cell? ⟨wr.heap.size, 3, none⟩ = some (.int .i64 z.z) := by simp [World.cell?, hb5]
          have f4 : w5.cell? ⟨wr.heap.size, 4, none⟩ = some (.string z.nm) := by simp [World.cell?, hb5]
          have f5 : w5.cell? ⟨wr.heap.size, 5, none⟩ = some (.string z.v) := by simp [World.cell?, hb5]
          have hact := dom_3 (HT.out.keep hA5) hn100 z hk z1 z2
          have HB5 : Hid (Below W.heap.size W w5) := HB.out.trans (hA5.mono HB.out.size)
          have HW5 := hid_mk hw5
          clear c0 hk hk5 hA5 hb5 hw5 HT HB HR HTK 
          go_upto_region 5 with (fail)
          rw [← HW5.out]
          go_wp2_with (go_at_call 27; fail)
          refine hact.mono ?_
          rintro x w6 ⟨b6, err, rfl, ⟨m6, nx6, rid6, err6, hR6, hT6, _, hn6, hB6⟩⟩
          have HT6 := hid_mk hT6
          have HR6 := hid_mk (HSN.out _ _ _ _ hR6)
          have HB6 := hid_mk (HB5.out.trans (hB6.mono HB5.out.size))
          clear hact hR6 hT6 hB6 HSN f0 f1 f2 f3 f4 f5 c0' c1 c2 c3 c4 c5
          go_wp2
          exact ⟨⟨i + 1, b6, m6, nx6, hlt, rfl, by go_num, by omega, HR6, HT6, HB6⟩, by simp only [intOf]; omega⟩
        · have c0' := c0
          rw [hk] at c0'
          obtain ⟨w5, hw5⟩ : ∃ w5, w5 = wr.alloc (.cells #[.int .i64 4, .int .i64 z.x, .int .i64 z.y, .int .i64 z.z, .string z.nm, .string z.v] 53) := ⟨_, rfl⟩
          have hA5 : Below wr.heap.size wr w5 := by rw [hw5]; exact (Below.refl _ _).alloc (Nat.le_refl _) _
          have hb5 : w5.heap[wr.heap.size]? = some (.cells #[.int .i64 4, .int .i64 z.x, .int .i64 z.y, .int .i64 z.z, .string z.nm, .string z.v] 53 (0, 0)) := by rw [hw5]; exact heap_alloc_last wr _
          have f0 : w5.cell? ⟨wr.heap.size, 0, none⟩ = some (.int .i64 4) := by simp [World.cell?, hb5]
          have f1 : w5.cell? ⟨wr.heap.size, 1, none⟩ = some (.int .i64 z.x) := by simp [World.cell?, hb5]
          have f2 : w5.cell? ⟨wr.heap.size, 2, none⟩ = some (.int .i64 z.y) := by simp [World.cell?, hb5]
          have f3 : w5.cell? ⟨wr.heap.size, 3, none⟩ = some (.int .i64 z.z) := by simp [World.cell?, hb5]
          have f4 : w5.cell? ⟨wr.heap.size, 4, none⟩ = some (.string z.nm) := by simp [World.cell?, hb5]
          have f5 : w5.cell? ⟨wr.heap.size, 5, none⟩ = some (.string z.v) := by simp [World.cell?, hb5]
          have hact := dom_4 (HT.out.keep hA5) hn100 z hk z1 z2
          have HB5 : Hid (Below W.heap.size W w5) := HB.out.trans (hA5.mono HB.out.size)
          have HW5 := hid_mk hw5
          clear c0 hk hk5 hA5 hb5 hw5 HT HB HR HTK 
          go_upto_region 5 with (fail)
          rw [← HW5.out]
          go_wp2_with (go_at_call 28; fail)
          refine hact.mono ?_
          rintro x w6 ⟨b6, err, rfl, ⟨m6, nx6, rid6, err6, hR6, hT6, _, hn6, hB6⟩⟩
          have HT6 := hid_mk hT6
          have HR6 := hid_mk (HSN.out _ _ _ _ hR6)
          have HB6 := hid_mk (HB5.out.trans (hB6.mono HB5.out.size))
          clear hact hR6 hT6 hB6 HSN f0 f1 f2 f3 f4 f5 c0' c1 c2 c3 c4 c5
          go_wp2
          exact ⟨⟨i + 1, b6, m6, nx6, hlt, rfl, by go_num, by omega, HR6, HT6, HB6⟩, by simp only [intOf]; omega⟩
      · have k0 : (z.k == 0) = false := beq_false_of_ne (by omega)
        have k1 : (z.k == 1) = false := beq_false_of_ne (by omega)
        have k2 : (z.k == 2) = false := beq_false_of_ne (by omega)
        have k3 : (z.k == 3) = false := beq_false_of_ne (by omega)
        have k4 : (z.k == 4) = false := beq_false_of_ne (by omega)
        have hA5 : Below wr.heap.size wr (wr.alloc (.cells #[.int .i64 z.k, .int .i64 z.x, .int .i64 z.y, .int .i64 z.z, .string z.nm, .string z.v] 53)) := (Below.refl _ _).alloc (Nat.le_refl _) _
        have HB5 := hid_mk (HB.out.trans (hA5.mono HB.out.size))
        have HT5 : Hid (Tree (wr.alloc (.cells #[.int .i64 z.k, .int .i64 z.x, .int .i64 z.y, .int .i64 z.z, .string z.nm, .string z.v] 53)) (.pointer (some ⟨b, 0, none⟩)) m nx) := HT.out.keep hA5
        have HR5 := hid_mk (HSN.out _ _ _ _ (.inr (.inr (.inr (.inr (.inr ⟨hk5, rfl, rfl, rfl, rfl⟩))))))
        clear hk5 hA5 HT HB HR HTK HSN
        go_wp2
        exact ⟨⟨i + 1, b, m, nx, hlt, rfl, by go_num, by omega, HR5, HT5, HB5⟩, by simp only [intOf]; omega⟩
    · have hie : i = xs.length := by omega
      have HR2 : Hid (ActsR M0 2 xs m nx) := by have := HR.out; rw [hie, List.take_length] at this; exact this
      clear HC HZ HR
      have hof := HOF.out wr HB.out
      clear HOF
      go_wp2_with (go_at_call 29; refine hof.mono ?_; clear hof; rintro e w7 ⟨c7, m7, nx7, L7, rfl, hR7, hT7, hB7⟩)
      obtain ⟨e1, e2⟩ := HR2.out.uniq hR7
      subst e1 e2
      refine bodyPost_ret (v := .tuple #[.pointer (some ⟨b, 0, none⟩), .pointer (some ⟨c7, 0, none⟩)]) (by simp [results, Tryz.results7, go_sem]) rfl ⟨b, c7, m, nx, L7, rfl, HR2.out, by omega, HT.out.keep hB7, hT7, HB.out.trans (hB7.mono HB.out.size)⟩

end Go.Proofs.YtdiljkmlneeboaaGreat.N
