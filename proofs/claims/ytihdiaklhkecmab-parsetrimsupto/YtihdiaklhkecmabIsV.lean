/- parse.is and parse.next, and what they call. -/
import Derived.Test.YtihdiaklhkecmabReadW
namespace Go.Proofs.Ytihdiaklhkecmab
open Go.RowKit
set_option maxRecDepth 100000

/-- Is it among them? -/
def hasZ (ks : List Int) (x : Int) : Bool := ks.contains x
theorem contains_drop (ks : List Int) (x : Int) (i : Nat) (h : i < ks.length) : hasZ (ks.drop i) x = (x == ks.getD i 0 || hasZ (ks.drop (i + 1)) x) := by
  unfold hasZ
  rw [List.drop_eq_getElem_cons h, List.contains_cons]
  congr 2
  simp [List.getD, h]
set_option maxHeartbeats 400000 in
theorem index_any {w : World} {v : Value} {ks : List Int} (hv : RowAt .i64 w v ks) (hk : ks.length ≤ 100000) (x : Int) : Calls Try.prog 35 #[v, .int .i64 x] w fun e w' => ∃ i : Int, e = .returned (.int .i64 i) ∧ Hid (decide (0 ≤ i) = hasZ ks x) ∧ Below w.heap.size w w' := by
  obtain ⟨a, cap, rfl, hl, hc⟩ := hv
  go_enter Try.func35, Try.ntmps35
  go_wp2
  go_loopw [8] (fun a8 wr => ∃ (i : Nat), i ≤ ks.length ∧ a8 = .int .i64 (i : Int) ∧ Hid (hasZ ks x = hasZ (ks.drop i) x) ∧ Below w.heap.size w wr) (fun a8 _ => ks.length + 1 - (intOf a8).toNat)
  case atStart => exact ⟨0, Nat.zero_le _, rfl, rfl, Below.refl _ _⟩
  case round =>
    obtain ⟨i, hi, rfl, hE, hB⟩ := hrel
    by_cases hlt : i < ks.length
    · obtain ⟨b, off, rfl, hcell⟩ := hc (by omega)
      have hq := hcell i hlt
      have hbl := World.block_lt_of_cell? w _ hq
      rw [← hB.cell hbl] at hq
      have hE := hE.out
      rw [contains_drop ks x i hlt] at hE
      generalize ks.getD i 0 = y at *
      have HE := hid_mk hE
      clear hE hc hcell
      by_cases hy : x = y
      · subst hy
        go_wp2
        go_ret
        exact ⟨(i : Int), rfl, by show _ = _; rw [HE.out]; simp, hB⟩
      · have z : (x == y) = false := by simpa using hy
        go_wp2
        go_roundw
        case rel => exact ⟨i + 1, by omega, by go_num, by show _ = _; rw [HE.out, z, Bool.false_or], hB⟩
        case measure => simp [intOf]; omega
    · have hd : ks.drop i = [] := List.drop_eq_nil_of_le (by omega)
      have hE := hE.out
      rw [hd] at hE
      have HE := hid_mk hE
      clear hE hd hc
      go_wp2
      go_ret
      exact ⟨-1, rfl, by show _ = _; rw [HE.out]; rfl, hB⟩
set_option maxHeartbeats 400000 in
theorem has_any {w : World} {v : Value} {ks : List Int} (hv : RowAt .i64 w v ks) (hk : ks.length ≤ 100000) (x : Int) : Calls Try.prog 26 #[v, .int .i64 x] w fun e w' => e = .returned (.bool (hasZ ks x)) ∧ Below w.heap.size w w' := by
  have h := index_any hv hk x
  obtain ⟨a, cap, rfl, hl, hc⟩ := hv
  clear hc
  go_enter Try.func26, Try.ntmps26
  go_wp2_with (go_at_call 35; fail)
  refine h.mono ?_
  rintro e w' ⟨i, rfl, hd, hB⟩
  go_wp2
  go_ret
  exact ⟨by rw [← hd.out]; rfl, hB⟩
set_option maxHeartbeats 400000 in
theorem is_any {w : World} {v : Value} {ks : List Int} (hv : RowAt .i64 w v ks) (hk : ks.length ≤ 100000) (tk : Int) (tx un : ByteArray) (wh fl : Bool) (kid : Value) :
    Calls Try.prog 17 #[.agg #[.int .i64 tk, .string tx, .string un, .bool wh, .bool fl, kid], v] w fun e w' => e = .returned (.bool (hasZ ks tk)) ∧ Below w.heap.size w w' := by
  have hal : ∀ o, Below w.heap.size w (w.alloc o) := fun o => (Below.refl _ w).alloc (Nat.le_refl _) o
  have h := fun o => has_any (hv.below (hal o)) hk tk
  obtain ⟨a, cap, rfl, hl, hc⟩ := hv
  clear hc
  go_enter Try.func17, Try.ntmps17
  go_wp2_with (go_at_call 26; fail)
  refine (h _).mono ?_
  rintro e w' ⟨rfl, hB⟩
  have HB := hid_mk hB
  clear hB
  go_wp2
  go_ret
  exact ⟨rfl, (hal _).trans (HB.out.mono (by simp))⟩
/-- The place of the first value of one of these kinds, or that of the end. -/
def nextZ (ks : List Int) : List V → Nat
  | [] => 0
  | x :: r => if hasZ ks x.tok.k then 0 else nextZ ks r + 1
theorem nextZ_le (ks : List Int) : ∀ l, nextZ ks l ≤ l.length
  | [] => Nat.le_refl _
  | x :: r => by
    rw [nextZ]
    split
    · simp
    · have := nextZ_le ks r
      simp only [List.length_cons]
      omega
set_option maxHeartbeats 1000000 in
theorem next_any {P : Nat → Prop} {w : World} {v u : Value} {ks : List Int} {vs : List V} (hv : VsAt P w v vs) (hu : RowAt .i64 w u ks) (hk : ks.length ≤ 100000) (hn : vs.length ≤ 1000000000) :
    Calls Try.prog 19 #[v, u] w fun e w' => e = .returned (.int .i64 (nextZ ks vs : Nat)) ∧ Below w.heap.size w w' := by
  have his := fun w' (hw : Below w.heap.size w w') => is_any (hu.below hw) hk
  obtain ⟨a, cap, rfl, hl, hcap⟩ := hv.slice
  obtain ⟨_, _, _, hcs⟩ := hv.cells
  obtain ⟨a2, cap2, rfl, _, _⟩ := hu
  clear hv
  go_enter Try.func19, Try.ntmps19
  go_wp2
  go_loopw [9] (fun a9 wr => ∃ (i : Nat), i ≤ vs.length ∧ a9 = .int .i64 (i : Int) ∧ nextZ ks vs = i + nextZ ks (vs.drop i) ∧ Below w.heap.size w wr) (fun a9 _ => vs.length + 1 - (intOf a9).toNat)
  case atStart => exact ⟨0, Nat.zero_le _, rfl, by simp, Below.refl _ _⟩
  case round =>
    obtain ⟨i, hi, rfl, hE, hB⟩ := hrel
    by_cases hlt : i < vs.length
    · obtain ⟨b, off, kv, rfl, hbl, hcc, hkid⟩ := hcs i hlt
      have hq := fun j y hy => (hB.cell (p := ⟨b, off + i * 6 + j, none⟩) hbl).trans (hcc j y hy)
      rw [List.drop_eq_getElem_cons hlt, nextZ] at hE
      obtain ⟨ka, kc, rfl, _, _⟩ := hkid.slice
      generalize (vs[i]'hlt).tok = t at *
      generalize (vs[i]'hlt).kids.length = kn at *
      obtain ⟨tk, tx, un, wh, fl⟩ := t
      have q0 : wr.cell? ⟨b, off + i * 6, none⟩ = some (.int .i64 tk) := hq 0 _ rfl
      have q1 : wr.cell? ⟨b, off + i * 6 + 1, none⟩ = some (.string tx) := hq 1 _ rfl
      have q2 : wr.cell? ⟨b, off + i * 6 + 2, none⟩ = some (.string un) := hq 2 _ rfl
      have q3 : wr.cell? ⟨b, off + i * 6 + 3, none⟩ = some (.bool wh) := hq 3 _ rfl
      have q4 : wr.cell? ⟨b, off + i * 6 + 4, none⟩ = some (.bool fl) := hq 4 _ rfl
      have q5 : wr.cell? ⟨b, off + i * 6 + 5, none⟩ = some (.slice ka kn kc) := hq 5 _ rfl
      have hc2 := fun w' hw => his w' hw tk tx un wh fl (.slice ka kn kc)
      have HE := hid_mk hE
      have HBA : Hid (∀ o, Below w.heap.size w (wr.alloc o)) := fun o => hB.alloc hB.size o
      generalize hasZ ks tk = y at *
      clear hE hcs hcc hq hkid his hB
      go_wp2_with (go_at_call 17; fail)
      refine (hc2 _ (HBA.out _)).mono ?_
      rintro e w' ⟨rfl, hB2⟩
      have HB2 : Hid (Below w.heap.size w w') := (HBA.out _).trans (hB2.mono (HBA.out _).size)
      clear hB2
      cases y with
      | true =>
        have HR : Hid (nextZ ks vs = i) := by
          show _ = _
          have := HE.out
          simpa using this
        go_wp2
        go_ret
        exact ⟨by rw [HR.out]; rfl, HB2.out⟩
      | false =>
        have HR : Hid (nextZ ks vs = (i + 1) + nextZ ks (vs.drop (i + 1))) := by
          have := HE.out
          show _ = _
          rw [this]
          simp
          omega
        go_wp2
        go_roundw
        case rel => exact ⟨i + 1, by omega, by go_num, HR.out, HB2.out⟩
        case measure => simp [intOf]; omega
    · have hd : vs.drop i = [] := List.drop_eq_nil_of_le (by omega)
      rw [hd, nextZ] at hE
      have HR : Hid (nextZ ks vs = vs.length) := by show _ = _; omega
      clear hE hd hcs his
      go_wp2
      go_ret
      exact ⟨by rw [HR.out]; rfl, hB⟩

end Go.Proofs.Ytihdiaklhkecmab
