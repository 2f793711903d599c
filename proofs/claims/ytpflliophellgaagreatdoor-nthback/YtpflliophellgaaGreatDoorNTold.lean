/- nth.told, whatever the token. -/
import Derived.Test.YtpflliophellgaaGreatDoorNGather
namespace Go.Proofs.YtpflliophellgaaGreatDoor.N
open Go.RowKit

theorem wr_below {w w' : World} {B : Nat} {ns : List Int} (h : Wr B ns w) (hk : Below w.heap.size w w') : Wr B ns w' := by
  obtain ⟨hB, hby, hem⟩ := h
  have aux : ∀ p, Lib.BuilderAt 59 5 B B p (ns.map (Value.int .u8)) w → Lib.BuilderAt 59 5 B B p (ns.map (Value.int .u8)) w' := by
    intro p hp
    obtain ⟨h1, v, hbk, hown, hne⟩ := hp
    have hlt : B < w.heap.size := (Array.getElem?_eq_some_iff.1 hbk).1
    refine ⟨h1, v, (hk.block B hlt).trans hbk, ⟨hown.1, ?_⟩, hne⟩
    rcases hown.2 with hn | ⟨g, cap, cur, hv, hbg, hg, rest⟩
    · exact .inl hn
    · exact .inr ⟨g, cap, cur, hv, hbg, (hk.block g ((Array.getElem?_eq_some_iff.1 hg).1)).trans hg, rest⟩
  refine ⟨hB.elim (fun x => .inl (aux _ x)) (fun x => .inr (aux _ x)), hby, fun h0 => ?_⟩
  obtain ⟨p, hp⟩ := hem h0
  exact ⟨p, (hk.block B ((Array.getElem?_eq_some_iff.1 hp).1)).trans hp⟩
theorem wr_lt {w : World} {b : Nat} {ns : List Int} (h : Wr b ns w) : b < w.heap.size := by
  rcases h.1 with h | h
  · obtain ⟨_, v, hb, _⟩ := h
    exact (Array.getElem?_eq_some_iff.1 hb).1
  · obtain ⟨_, v, hb, _⟩ := h
    exact (Array.getElem?_eq_some_iff.1 hb).1

theorem str_other {s : ByteArray} {c : UInt8} (h : s ≠ ⟨#[c]⟩) : (s == ⟨#[c]⟩) = false ∧ (s.toList == [c]) = false := by
  have h3 : (s.toList == [c]) = false := by
    rw [Bool.eq_false_iff]
    intro h2
    rw [beq_iff_eq, ByteArray.toList_eq] at h2
    exact h (ByteArray.ext (Array.toList_inj.1 h2))
  exact ⟨by rw [beq_toListBytes, ByteArray.toList_eq ⟨#[c]⟩]; exact h3, h3⟩
section
variable (b : Nat) (ns : List Int) (tx un : ByteArray) (wh fl : Bool) (w : World)

set_option maxHeartbeats 400000 in
set_option maxRecDepth 100000 in
theorem gather_any (h : Wr b ns w) (hl : ns.length + tx.size ≤ 140737488355328) :
    Calls Tryz.prog 36 #[.string tx, .pointer (some ⟨b, 0, none⟩)] w fun e w' => e = .returned (.tuple #[]) ∧ Wr b (ns ++ bytesL tx) w' ∧ Below b w w' ∧ Lib.OthersKept 5 (some b) w w' := by
  have hg := wr_any b ns tx w h hl
  go_enter Tryz.func36, Tryz.ntmps36
  go_wp2_with (go_at_call 37; fail)
  refine (hg).mono ?_
  rintro e w1 ⟨⟨rn, rfl⟩, h1, b1, k1⟩
  go_wp2
  go_end0
  exact ⟨rfl, h1, b1, k1⟩
theorem tok5 {W : World} {B : Nat} {x0 x1 x2 x3 x4 : Value} (h : W.heap[B]? = some (.cells #[x0, x1, x2, x3, x4] 44 (0, 0))) :
    W.cell? ⟨B, 0, none⟩ = some x0 ∧ W.cell? ⟨B, 1, none⟩ = some x1 ∧ W.cell? ⟨B, 2, none⟩ = some x2 ∧ W.cell? ⟨B, 3, none⟩ = some x3 ∧ W.cell? ⟨B, 4, none⟩ = some x4 := by
  refine ⟨?_, ?_, ?_, ?_, ?_⟩ <;> simp [World.cell?, h]

set_option maxHeartbeats 400000 in
set_option maxRecDepth 100000 in
theorem told_1 (h : Wr b ns w) (hl : ns.length + tx.size + un.size ≤ 140737488355328) :
    Calls Tryz.prog 38 #[.agg #[.int .i64 1, .string tx, .string un, .bool wh, .bool fl], (.func (.func 36) #[] #[.pointer (some ⟨b, 0, none⟩)])] w fun e w' => e = .returned (.bool (true)) ∧ Wr b (ns ++ bytesL tx) w' ∧ Below b w w' := by
  have hlt := wr_lt h
  have hal : Below w.heap.size w (w.alloc (.cells #[.int .i64 1, .string tx, .string un, .bool wh, .bool fl] 44)) := (Below.refl _ w).alloc (Nat.le_refl _) _
  have hnew := heap_alloc_new w (.cells #[.int .i64 1, .string tx, .string un, .bool wh, .bool fl] 44)
  have hne : w.heap.size ≠ b := by omega
  have hg := gather_any b ns tx _ (wr_below h hal) (by omega)
  go_enter Tryz.func38, Tryz.ntmps38
  go_wp2_with (go_at_call 36; fail)
  refine (hg).mono ?_
  rintro e w1 ⟨rfl, h1, b1, k1⟩
  obtain ⟨d0, d1, d2, d3, d4⟩ := tok5 (k1 w.heap.size _ hnew (fun e => hne (Option.some.inj e)) (fun _ _ e => by simp at e))
  go_wp2
  go_ret
  exact ⟨rfl, h1, (hal.mono (Nat.le_of_lt hlt)).trans b1⟩

set_option maxHeartbeats 400000 in
set_option maxRecDepth 100000 in
theorem told_10 (h : Wr b ns w) (hl : ns.length + tx.size + un.size ≤ 140737488355328) :
    Calls Tryz.prog 38 #[.agg #[.int .i64 10, .string tx, .string un, .bool wh, .bool fl], (.func (.func 36) #[] #[.pointer (some ⟨b, 0, none⟩)])] w fun e w' => e = .returned (.bool (wh)) ∧ Wr b (ns ++ bytesL tx) w' ∧ Below b w w' := by
  have hlt := wr_lt h
  have hal : Below w.heap.size w (w.alloc (.cells #[.int .i64 10, .string tx, .string un, .bool wh, .bool fl] 44)) := (Below.refl _ w).alloc (Nat.le_refl _) _
  have hnew := heap_alloc_new w (.cells #[.int .i64 10, .string tx, .string un, .bool wh, .bool fl] 44)
  have hne : w.heap.size ≠ b := by omega
  have hg := gather_any b ns tx _ (wr_below h hal) (by omega)
  go_enter Tryz.func38, Tryz.ntmps38
  go_wp2_with (go_at_call 36; fail)
  refine (hg).mono ?_
  rintro e w1 ⟨rfl, h1, b1, k1⟩
  obtain ⟨d0, d1, d2, d3, d4⟩ := tok5 (k1 w.heap.size _ hnew (fun e => hne (Option.some.inj e)) (fun _ _ e => by simp at e))
  go_wp2
  go_ret
  exact ⟨rfl, h1, (hal.mono (Nat.le_of_lt hlt)).trans b1⟩

set_option maxHeartbeats 400000 in
set_option maxRecDepth 100000 in
theorem told_12 (h : Wr b ns w) (hl : ns.length + tx.size + un.size ≤ 140737488355328) :
    Calls Tryz.prog 38 #[.agg #[.int .i64 12, .string tx, .string un, .bool wh, .bool fl], (.func (.func 36) #[] #[.pointer (some ⟨b, 0, none⟩)])] w fun e w' => e = .returned (.bool (wh)) ∧ Wr b (ns ++ bytesL tx ++ bytesL un) w' ∧ Below b w w' := by
  have hlt := wr_lt h
  have hal : Below w.heap.size w (w.alloc (.cells #[.int .i64 12, .string tx, .string un, .bool wh, .bool fl] 44)) := (Below.refl _ w).alloc (Nat.le_refl _) _
  have hnew := heap_alloc_new w (.cells #[.int .i64 12, .string tx, .string un, .bool wh, .bool fl] 44)
  have hne : w.heap.size ≠ b := by omega
  have hg := gather_any b ns tx _ (wr_below h hal) (by omega)
  go_enter Tryz.func38, Tryz.ntmps38
  go_wp2_with (go_at_call 36; fail)
  refine (hg).mono ?_
  rintro e w1 ⟨rfl, h1, b1, k1⟩
  obtain ⟨d0, d1, d2, d3, d4⟩ := tok5 (k1 w.heap.size _ hnew (fun e => hne (Option.some.inj e)) (fun _ _ e => by simp at e))
  have hg2 := gather_any b (ns ++ bytesL tx) un w1 h1 (by rw [List.length_append, bytesL_size]; omega)
  have hk1 := k1 w.heap.size _ hnew (fun e => hne (Option.some.inj e)) (fun _ _ e => by simp at e)
  go_wp2_with (go_at_call 36; fail)
  refine (hg2).mono ?_
  rintro e w2 ⟨rfl, h2, b2, k2⟩
  clear d0 d1 d2 d3 d4
  obtain ⟨d0, d1, d2, d3, d4⟩ := tok5 (k2 w.heap.size _ hk1 (fun e => hne (Option.some.inj e)) (fun _ _ e => by simp at e))
  go_wp2
  go_ret
  exact ⟨rfl, h2, (hal.mono (Nat.le_of_lt hlt)).trans (b1.trans b2)⟩

set_option maxHeartbeats 400000 in
set_option maxRecDepth 100000 in
theorem told_9p (h : Wr b ns w) (hl : ns.length + 1 ≤ 140737488355328) :
    Calls Tryz.prog 38 #[.agg #[.int .i64 9, .string ⟨#[43]⟩, .string un, .bool wh, .bool fl], (.func (.func 36) #[] #[.pointer (some ⟨b, 0, none⟩)])] w fun e w' => e = .returned (.bool (true)) ∧ Wr b (ns ++ bytesL ⟨#[43]⟩) w' ∧ Below b w w' := by
  have hlt := wr_lt h
  have hal : Below w.heap.size w (w.alloc (.cells #[.int .i64 9, .string ⟨#[43]⟩, .string un, .bool wh, .bool fl] 44)) := (Below.refl _ w).alloc (Nat.le_refl _) _
  have hnew := heap_alloc_new w (.cells #[.int .i64 9, .string ⟨#[43]⟩, .string un, .bool wh, .bool fl] 44)
  have hne : w.heap.size ≠ b := by omega
  have hg := gather_any b ns ⟨#[43]⟩ _ (wr_below h hal) (by show ns.length + 1 ≤ _; omega)
  go_enter Tryz.func38, Tryz.ntmps38
  go_wp2_with (go_at_call 36; fail)
  refine (hg).mono ?_
  rintro e w1 ⟨rfl, h1, b1, k1⟩
  obtain ⟨d0, d1, d2, d3, d4⟩ := tok5 (k1 w.heap.size _ hnew (fun e => hne (Option.some.inj e)) (fun _ _ e => by simp at e))
  go_wp2
  go_ret
  exact ⟨rfl, h1, (hal.mono (Nat.le_of_lt hlt)).trans b1⟩

set_option maxHeartbeats 400000 in
set_option maxRecDepth 100000 in
theorem told_9m (h : Wr b ns w) (hl : ns.length + 1 ≤ 140737488355328) :
    Calls Tryz.prog 38 #[.agg #[.int .i64 9, .string ⟨#[45]⟩, .string un, .bool wh, .bool fl], (.func (.func 36) #[] #[.pointer (some ⟨b, 0, none⟩)])] w fun e w' => e = .returned (.bool (true)) ∧ Wr b (ns ++ bytesL ⟨#[45]⟩) w' ∧ Below b w w' := by
  have hlt := wr_lt h
  have hal : Below w.heap.size w (w.alloc (.cells #[.int .i64 9, .string ⟨#[45]⟩, .string un, .bool wh, .bool fl] 44)) := (Below.refl _ w).alloc (Nat.le_refl _) _
  have hnew := heap_alloc_new w (.cells #[.int .i64 9, .string ⟨#[45]⟩, .string un, .bool wh, .bool fl] 44)
  have hne : w.heap.size ≠ b := by omega
  have hg := gather_any b ns ⟨#[45]⟩ _ (wr_below h hal) (by show ns.length + 1 ≤ _; omega)
  go_enter Tryz.func38, Tryz.ntmps38
  go_wp2_with (go_at_call 36; fail)
  refine (hg).mono ?_
  rintro e w1 ⟨rfl, h1, b1, k1⟩
  obtain ⟨d0, d1, d2, d3, d4⟩ := tok5 (k1 w.heap.size _ hnew (fun e => hne (Option.some.inj e)) (fun _ _ e => by simp at e))
  go_wp2
  go_ret
  exact ⟨rfl, h1, (hal.mono (Nat.le_of_lt hlt)).trans b1⟩

set_option maxHeartbeats 400000 in
set_option maxRecDepth 100000 in
theorem told_9n (h : Wr b ns w) (hl : ns.length + tx.size + un.size ≤ 140737488355328) (n43 : tx ≠ ⟨#[43]⟩) (n45 : tx ≠ ⟨#[45]⟩) :
    Calls Tryz.prog 38 #[.agg #[.int .i64 9, .string tx, .string un, .bool wh, .bool fl], (.func (.func 36) #[] #[.pointer (some ⟨b, 0, none⟩)])] w fun e w' => e = .returned (.bool (false)) ∧ Wr b (ns ++ bytesL tx) w' ∧ Below b w w' := by
  have hlt := wr_lt h
  have hal : Below w.heap.size w (w.alloc (.cells #[.int .i64 9, .string tx, .string un, .bool wh, .bool fl] 44)) := (Below.refl _ w).alloc (Nat.le_refl _) _
  have hnew := heap_alloc_new w (.cells #[.int .i64 9, .string tx, .string un, .bool wh, .bool fl] 44)
  have hne : w.heap.size ≠ b := by omega
  have hg := gather_any b ns tx _ (wr_below h hal) (by omega)
  have z1 : (tx == ⟨#[43]⟩) = false ∧ (tx.toList == [43]) = false := str_other n43
  have z2 : (tx == ⟨#[45]⟩) = false ∧ (tx.toList == [45]) = false := str_other n45
  obtain ⟨z3, z4⟩ := z1
  obtain ⟨z5, z6⟩ := z2
  clear n43 n45
  go_enter Tryz.func38, Tryz.ntmps38
  go_wp2_with (go_at_call 36; fail)
  refine (hg).mono ?_
  rintro e w1 ⟨rfl, h1, b1, k1⟩
  obtain ⟨d0, d1, d2, d3, d4⟩ := tok5 (k1 w.heap.size _ hnew (fun e => hne (Option.some.inj e)) (fun _ _ e => by simp at e))
  go_wp2
  go_ret
  exact ⟨rfl, h1, (hal.mono (Nat.le_of_lt hlt)).trans b1⟩

set_option maxHeartbeats 400000 in
set_option maxRecDepth 100000 in
theorem told_13 (h : Wr b ns w) (hl : ns.length + 1 ≤ 140737488355328) :
    Calls Tryz.prog 38 #[.agg #[.int .i64 13, .string tx, .string un, .bool wh, .bool fl], (.func (.func 36) #[] #[.pointer (some ⟨b, 0, none⟩)])] w fun e w' => e = .returned (.bool (true)) ∧ Wr b (ns ++ bytesL ⟨#[32]⟩) w' ∧ Below b w w' := by
  have hlt := wr_lt h
  have hal : Below w.heap.size w (w.alloc (.cells #[.int .i64 13, .string tx, .string un, .bool wh, .bool fl] 44)) := (Below.refl _ w).alloc (Nat.le_refl _) _
  have hnew := heap_alloc_new w (.cells #[.int .i64 13, .string tx, .string un, .bool wh, .bool fl] 44)
  have hne : w.heap.size ≠ b := by omega
  have hg := gather_any b ns ⟨#[32]⟩ _ (wr_below h hal) (by show ns.length + 1 ≤ _; omega)
  go_enter Tryz.func38, Tryz.ntmps38
  go_wp2_with (go_at_call 36; fail)
  refine (hg).mono ?_
  rintro e w1 ⟨rfl, h1, b1, k1⟩
  obtain ⟨d0, d1, d2, d3, d4⟩ := tok5 (k1 w.heap.size _ hnew (fun e => hne (Option.some.inj e)) (fun _ _ e => by simp at e))
  go_wp2
  go_ret
  exact ⟨rfl, h1, (hal.mono (Nat.le_of_lt hlt)).trans b1⟩

set_option maxHeartbeats 400000 in
set_option maxRecDepth 100000 in
theorem told_no (h : Wr b ns w) (k : Int) (hk : ¬ (k = 1 ∨ k = 9 ∨ k = 10 ∨ k = 12 ∨ k = 13)) :
    Calls Tryz.prog 38 #[.agg #[.int .i64 k, .string tx, .string un, .bool wh, .bool fl], (.func (.func 36) #[] #[.pointer (some ⟨b, 0, none⟩)])] w fun e w' => e = .returned (.bool (false)) ∧ Wr b (ns) w' ∧ Below b w w' := by
  have hlt := wr_lt h
  have hal : Below w.heap.size w (w.alloc (.cells #[.int .i64 k, .string tx, .string un, .bool wh, .bool fl] 44)) := (Below.refl _ w).alloc (Nat.le_refl _) _
  have hnew := heap_alloc_new w (.cells #[.int .i64 k, .string tx, .string un, .bool wh, .bool fl] 44)
  have hne : w.heap.size ≠ b := by omega
  have h1 : (k == 1) = false := by simp; omega
  have h9 : (k == 9) = false := by simp; omega
  have h10 : (k == 10) = false := by simp; omega
  have h12 : (k == 12) = false := by simp; omega
  have h13 : (k == 13) = false := by simp; omega
  have hw := wr_below h hal
  clear hk
  go_enter Tryz.func38, Tryz.ntmps38
  go_wp2
  go_ret
  exact ⟨rfl, hw, hal.mono (Nat.le_of_lt hlt)⟩
end

end Go.Proofs.YtpflliophellgaaGreatDoor.N
