/- nth.told, whatever the token. nth.written, whatever the values. nth.written, whatever the values: the walk. nth.Parse, whatever the values. The reader of selectors, plainly. -/
import Derived.Test.YtbeolmofnmnknaaGreatDoorNGather
import Derived.Test.YtbeolmofnmnknaaGreatDoorNFoldN
import Derived.Test.YtbeolmofnmnknaaGreatDoorNDigits
namespace Go.Proofs.YtbeolmofnmnknaaGreatDoor.N
open Go.RowKit

theorem wr_below {w w' : World} {B : Nat} {ns : List Int} (h : Wr B ns w) (hk : Below w.heap.size w w') : Wr B ns w' := by
  obtain ⟨hB, hby, hem⟩ := h
  have aux : ∀ p, Lib.BuilderAt 100 5 B B p (ns.map (Value.int .u8)) w → Lib.BuilderAt 100 5 B B p (ns.map (Value.int .u8)) w' := by
    intro p hp
    obtain ⟨h1, v, hbk, hown, hne⟩ := hp
    have hlt : B < w.heap.size := (Array.getElem?_eq_some_iff.1 hbk).1
    refine ⟨h1, v, (hk.block B hlt).trans hbk, ⟨hown.1, ?_⟩, hne⟩
    rcases hown.2 with hn | ⟨g, cap, cur, hv, hbg, hg, rest⟩
    · exact .inl hn
    · exact .inr ⟨g, cap, cur, hv, hbg, (hk.block g ((Array.getElem?_eq_some_iff.1 hg).1)).trans hg, rest⟩
  refine ⟨hB.elim (fun x => .inl (aux _ x)) (fun x => .inr (aux _ x)), hby, fun h0 => ?_⟩
  obtain ⟨p, hp⟩ := hem h0
  exact ⟨p, (hk.block B ((Array.getElem?_eq_some_iff.1 hp).1)).trans hp⟩
theorem wr_lt {w : World} {b : Nat} {ns : List Int} (h : Wr b ns w) : b < w.heap.size := by
  rcases h.1 with h | h
  · obtain ⟨_, v, hb, _⟩ := h
    exact (Array.getElem?_eq_some_iff.1 hb).1
  · obtain ⟨_, v, hb, _⟩ := h
    exact (Array.getElem?_eq_some_iff.1 hb).1

theorem str_other {s : ByteArray} {c : UInt8} (h : s ≠ ⟨#[c]⟩) : (s == ⟨#[c]⟩) = false ∧ (s.toList == [c]) = false := by
  have h3 : (s.toList == [c]) = false := by
    rw [Bool.eq_false_iff]
    intro h2
    rw [beq_iff_eq, ByteArray.toList_eq] at h2
    exact h (ByteArray.ext (Array.toList_inj.1 h2))
  exact ⟨by rw [beq_toListBytes, ByteArray.toList_eq ⟨#[c]⟩]; exact h3, h3⟩
section
variable (b : Nat) (ns : List Int) (tx un : ByteArray) (wh fl : Bool) (w : World)

set_option maxHeartbeats 400000 in
set_option maxRecDepth 100000 in
theorem gather_any (h : Wr b ns w) (hl : ns.length + tx.size ≤ 140737488355328) :
    Calls Tryz.prog 111 #[.string tx, .pointer (some ⟨b, 0, none⟩)] w fun e w' => e = .returned (.tuple #[]) ∧ Wr b (ns ++ bytesL tx) w' ∧ Below b w w' ∧ Lib.OthersKept 5 (some b) w w' := by
  have hg := wr_any b ns tx w h hl
  go_enter Tryz.func111, Tryz.ntmps111
  go_wp2_with (go_at_call 112; fail)
  refine (hg).mono ?_
  rintro e w1 ⟨⟨rn, rfl⟩, h1, b1, k1⟩
  go_wp2
  go_end0
  exact ⟨rfl, h1, b1, k1⟩
theorem tok5 {W : World} {B : Nat} {x0 x1 x2 x3 x4 : Value} (h : W.heap[B]? = some (.cells #[x0, x1, x2, x3, x4] 75 (0, 0))) :
    W.cell? ⟨B, 0, none⟩ = some x0 ∧ W.cell? ⟨B, 1, none⟩ = some x1 ∧ W.cell? ⟨B, 2, none⟩ = some x2 ∧ W.cell? ⟨B, 3, none⟩ = some x3 ∧ W.cell? ⟨B, 4, none⟩ = some x4 := by
  refine ⟨?_, ?_, ?_, ?_, ?_⟩ <;> simp [World.cell?, h]

set_option maxHeartbeats 400000 in
set_option maxRecDepth 100000 in
theorem told_1 (h : Wr b ns w) (hl : ns.length + tx.size + un.size ≤ 140737488355328) :
    Calls Tryz.prog 113 #[.agg #[.int .i64 1, .string tx, .string un, .bool wh, .bool fl], (.func (.func 111) #[] #[.pointer (some ⟨b, 0, none⟩)])] w fun e w' => e = .returned (.bool (true)) ∧ Wr b (ns ++ bytesL tx) w' ∧ Below b w w' := by
  have hlt := wr_lt h
  have hal : Below w.heap.size w (w.alloc (.cells #[.int .i64 1, .string tx, .string un, .bool wh, .bool fl] 75)) := (Below.refl _ w).alloc (Nat.le_refl _) _
  have hnew := heap_alloc_new w (.cells #[.int .i64 1, .string tx, .string un, .bool wh, .bool fl] 75)
  have hne : w.heap.size ≠ b := by omega
  have hg := gather_any b ns tx _ (wr_below h hal) (by omega)
  go_enter Tryz.func113, Tryz.ntmps113
  go_wp2_with (go_at_call 111; fail)
  refine (hg).mono ?_
  rintro e w1 ⟨rfl, h1, b1, k1⟩
  obtain ⟨d0, d1, d2, d3, d4⟩ := tok5 (k1 w.heap.size _ hnew (fun e => hne (Option.some.inj e)) (fun _ _ e => by simp at e))
  go_wp2
  go_ret
  exact ⟨rfl, h1, (hal.mono (Nat.le_of_lt hlt)).trans b1⟩

set_option maxHeartbeats 400000 in
set_option maxRecDepth 100000 in
theorem told_10 (h : Wr b ns w) (hl : ns.length + tx.size + un.size ≤ 140737488355328) :
    Calls Tryz.prog 113 #[.agg #[.int .i64 10, .string tx, .string un, .bool wh, .bool fl], (.func (.func 111) #[] #[.pointer (some ⟨b, 0, none⟩)])] w fun e w' => e = .returned (.bool (wh)) ∧ Wr b (ns ++ bytesL tx) w' ∧ Below b w w' := by
  have hlt := wr_lt h
  have hal : Below w.heap.size w (w.alloc (.cells #[.int .i64 10, .string tx, .string un, .bool wh, .bool fl] 75)) := (Below.refl _ w).alloc (Nat.le_refl _) _
  have hnew := heap_alloc_new w (.cells #[.int .i64 10, .string tx, .string un, .bool wh, .bool fl] 75)
  have hne : w.heap.size ≠ b := by omega
  have hg := gather_any b ns tx _ (wr_below h hal) (by omega)
  go_enter Tryz.func113, Tryz.ntmps113
  go_wp2_with (go_at_call 111; fail)
  refine (hg).mono ?_
  rintro e w1 ⟨rfl, h1, b1, k1⟩
  obtain ⟨d0, d1, d2, d3, d4⟩ := tok5 (k1 w.heap.size _ hnew (fun e => hne (Option.some.inj e)) (fun _ _ e => by simp at e))
  go_wp2
  go_ret
  exact ⟨rfl, h1, (hal.mono (Nat.le_of_lt hlt)).trans b1⟩

set_option maxHeartbeats 400000 in
set_option maxRecDepth 100000 in
theorem told_12 (h : Wr b ns w) (hl : ns.length + tx.size + un.size ≤ 140737488355328) :
    Calls Tryz.prog 113 #[.agg #[.int .i64 12, .string tx, .string un, .bool wh, .bool fl], (.func (.func 111) #[] #[.pointer (some ⟨b, 0, none⟩)])] w fun e w' => e = .returned (.bool (wh)) ∧ Wr b (ns ++ bytesL tx ++ bytesL un) w' ∧ Below b w w' := by
  have hlt := wr_lt h
  have hal : Below w.heap.size w (w.alloc (.cells #[.int .i64 12, .string tx, .string un, .bool wh, .bool fl] 75)) := (Below.refl _ w).alloc (Nat.le_refl _) _
  have hnew := heap_alloc_new w (.cells #[.int .i64 12, .string tx, .string un, .bool wh, .bool fl] 75)
  have hne : w.heap.size ≠ b := by omega
  have hg := gather_any b ns tx _ (wr_below h hal) (by omega)
  go_enter Tryz.func113, Tryz.ntmps113
  go_wp2_with (go_at_call 111; fail)
  refine (hg).mono ?_
  rintro e w1 ⟨rfl, h1, b1, k1⟩
  obtain ⟨d0, d1, d2, d3, d4⟩ := tok5 (k1 w.heap.size _ hnew (fun e => hne (Option.some.inj e)) (fun _ _ e => by simp at e))
  have hg2 := gather_any b (ns ++ bytesL tx) un w1 h1 (by rw [List.length_append, bytesL_size]; omega)
  have hk1 := k1 w.heap.size _ hnew (fun e => hne (Option.some.inj e)) (fun _ _ e => by simp at e)
  go_wp2_with (go_at_call 111; fail)
  refine (hg2).mono ?_
  rintro e w2 ⟨rfl, h2, b2, k2⟩
  clear d0 d1 d2 d3 d4
  obtain ⟨d0, d1, d2, d3, d4⟩ := tok5 (k2 w.heap.size _ hk1 (fun e => hne (Option.some.inj e)) (fun _ _ e => by simp at e))
  go_wp2
  go_ret
  exact ⟨rfl, h2, (hal.mono (Nat.le_of_lt hlt)).trans (b1.trans b2)⟩

set_option maxHeartbeats 400000 in
set_option maxRecDepth 100000 in
theorem told_9p (h : Wr b ns w) (hl : ns.length + 1 ≤ 140737488355328) :
    Calls Tryz.prog 113 #[.agg #[.int .i64 9, .string ⟨#[43]⟩, .string un, .bool wh, .bool fl], (.func (.func 111) #[] #[.pointer (some ⟨b, 0, none⟩)])] w fun e w' => e = .returned (.bool (true)) ∧ Wr b (ns ++ bytesL ⟨#[43]⟩) w' ∧ Below b w w' := by
  have hlt := wr_lt h
  have hal : Below w.heap.size w (w.alloc (.cells #[.int .i64 9, .string ⟨#[43]⟩, .string un, .bool wh, .bool fl] 75)) := (Below.refl _ w).alloc (Nat.le_refl _) _
  have hnew := heap_alloc_new w (.cells #[.int .i64 9, .string ⟨#[43]⟩, .string un, .bool wh, .bool fl] 75)
  have hne : w.heap.size ≠ b := by omega
  have hg := gather_any b ns ⟨#[43]⟩ _ (wr_below h hal) (by show ns.length + 1 ≤ _; omega)
  go_enter Tryz.func113, Tryz.ntmps113
  go_wp2_with (go_at_call 111; fail)
  refine (hg).mono ?_
  rintro e w1 ⟨rfl, h1, b1, k1⟩
  obtain ⟨d0, d1, d2, d3, d4⟩ := tok5 (k1 w.heap.size _ hnew (fun e => hne (Option.some.inj e)) (fun _ _ e => by simp at e))
  go_wp2
  go_ret
  exact ⟨rfl, h1, (hal.mono (Nat.le_of_lt hlt)).trans b1⟩

set_option maxHeartbeats 400000 in
set_option maxRecDepth 100000 in
theorem told_9m (h : Wr b ns w) (hl : ns.length + 1 ≤ 140737488355328) :
    Calls Tryz.prog 113 #[.agg #[.int .i64 9, .string ⟨#[45]⟩, .string un, .bool wh, .bool fl], (.func (.func 111) #[] #[.pointer (some ⟨b, 0, none⟩)])] w fun e w' => e = .returned (.bool (true)) ∧ Wr b (ns ++ bytesL ⟨#[45]⟩) w' ∧ Below b w w' := by
  have hlt := wr_lt h
  have hal : Below w.heap.size w (w.alloc (.cells #[.int .i64 9, .string ⟨#[45]⟩, .string un, .bool wh, .bool fl] 75)) := (Below.refl _ w).alloc (Nat.le_refl _) _
  have hnew := heap_alloc_new w (.cells #[.int .i64 9, .string ⟨#[45]⟩, .string un, .bool wh, .bool fl] 75)
  have hne : w.heap.size ≠ b := by omega
  have hg := gather_any b ns ⟨#[45]⟩ _ (wr_below h hal) (by show ns.length + 1 ≤ _; omega)
  go_enter Tryz.func113, Tryz.ntmps113
  go_wp2_with (go_at_call 111; fail)
  refine (hg).mono ?_
  rintro e w1 ⟨rfl, h1, b1, k1⟩
  obtain ⟨d0, d1, d2, d3, d4⟩ := tok5 (k1 w.heap.size _ hnew (fun e => hne (Option.some.inj e)) (fun _ _ e => by simp at e))
  go_wp2
  go_ret
  exact ⟨rfl, h1, (hal.mono (Nat.le_of_lt hlt)).trans b1⟩

set_option maxHeartbeats 400000 in
set_option maxRecDepth 100000 in
theorem told_9n (h : Wr b ns w) (hl : ns.length + tx.size + un.size ≤ 140737488355328) (n43 : tx ≠ ⟨#[43]⟩) (n45 : tx ≠ ⟨#[45]⟩) :
    Calls Tryz.prog 113 #[.agg #[.int .i64 9, .string tx, .string un, .bool wh, .bool fl], (.func (.func 111) #[] #[.pointer (some ⟨b, 0, none⟩)])] w fun e w' => e = .returned (.bool (false)) ∧ Wr b (ns ++ bytesL tx) w' ∧ Below b w w' := by
  have hlt := wr_lt h
  have hal : Below w.heap.size w (w.alloc (.cells #[.int .i64 9, .string tx, .string un, .bool wh, .bool fl] 75)) := (Below.refl _ w).alloc (Nat.le_refl _) _
  have hnew := heap_alloc_new w (.cells #[.int .i64 9, .string tx, .string un, .bool wh, .bool fl] 75)
  have hne : w.heap.size ≠ b := by omega
  have hg := gather_any b ns tx _ (wr_below h hal) (by omega)
  have z1 : (tx == ⟨#[43]⟩) = false ∧ (tx.toList == [43]) = false := str_other n43
  have z2 : (tx == ⟨#[45]⟩) = false ∧ (tx.toList == [45]) = false := str_other n45
  obtain ⟨z3, z4⟩ := z1
  obtain ⟨z5, z6⟩ := z2
  clear n43 n45
  go_enter Tryz.func113, Tryz.ntmps113
  go_wp2_with (go_at_call 111; fail)
  refine (hg).mono ?_
  rintro e w1 ⟨rfl, h1, b1, k1⟩
  obtain ⟨d0, d1, d2, d3, d4⟩ := tok5 (k1 w.heap.size _ hnew (fun e => hne (Option.some.inj e)) (fun _ _ e => by simp at e))
  go_wp2
  go_ret
  exact ⟨rfl, h1, (hal.mono (Nat.le_of_lt hlt)).trans b1⟩

set_option maxHeartbeats 400000 in
set_option maxRecDepth 100000 in
theorem told_13 (h : Wr b ns w) (hl : ns.length + 1 ≤ 140737488355328) :
    Calls Tryz.prog 113 #[.agg #[.int .i64 13, .string tx, .string un, .bool wh, .bool fl], (.func (.func 111) #[] #[.pointer (some ⟨b, 0, none⟩)])] w fun e w' => e = .returned (.bool (true)) ∧ Wr b (ns ++ bytesL ⟨#[32]⟩) w' ∧ Below b w w' := by
  have hlt := wr_lt h
  have hal : Below w.heap.size w (w.alloc (.cells #[.int .i64 13, .string tx, .string un, .bool wh, .bool fl] 75)) := (Below.refl _ w).alloc (Nat.le_refl _) _
  have hnew := heap_alloc_new w (.cells #[.int .i64 13, .string tx, .string un, .bool wh, .bool fl] 75)
  have hne : w.heap.size ≠ b := by omega
  have hg := gather_any b ns ⟨#[32]⟩ _ (wr_below h hal) (by show ns.length + 1 ≤ _; omega)
  go_enter Tryz.func113, Tryz.ntmps113
  go_wp2_with (go_at_call 111; fail)
  refine (hg).mono ?_
  rintro e w1 ⟨rfl, h1, b1, k1⟩
  obtain ⟨d0, d1, d2, d3, d4⟩ := tok5 (k1 w.heap.size _ hnew (fun e => hne (Option.some.inj e)) (fun _ _ e => by simp at e))
  go_wp2
  go_ret
  exact ⟨rfl, h1, (hal.mono (Nat.le_of_lt hlt)).trans b1⟩

set_option maxHeartbeats 400000 in
set_option maxRecDepth 100000 in
theorem told_no (h : Wr b ns w) (k : Int) (hk : ¬ (k = 1 ∨ k = 9 ∨ k = 10 ∨ k = 12 ∨ k = 13)) :
    Calls Tryz.prog 113 #[.agg #[.int .i64 k, .string tx, .string un, .bool wh, .bool fl], (.func (.func 111) #[] #[.pointer (some ⟨b, 0, none⟩)])] w fun e w' => e = .returned (.bool (false)) ∧ Wr b (ns) w' ∧ Below b w w' := by
  have hlt := wr_lt h
  have hal : Below w.heap.size w (w.alloc (.cells #[.int .i64 k, .string tx, .string un, .bool wh, .bool fl] 75)) := (Below.refl _ w).alloc (Nat.le_refl _) _
  have hnew := heap_alloc_new w (.cells #[.int .i64 k, .string tx, .string un, .bool wh, .bool fl] 75)
  have hne : w.heap.size ≠ b := by omega
  have h1 : (k == 1) = false := by simp; omega
  have h9 : (k == 9) = false := by simp; omega
  have h10 : (k == 10) = false := by simp; omega
  have h12 : (k == 12) = false := by simp; omega
  have h13 : (k == 13) = false := by simp; omega
  have hw := wr_below h hal
  clear hk
  go_enter Tryz.func113, Tryz.ntmps113
  go_wp2
  go_ret
  exact ⟨rfl, hw, hal.mono (Nat.le_of_lt hlt)⟩
end

end Go.Proofs.YtbeolmofnmnknaaGreatDoor.N
namespace Go.Proofs.YtbeolmofnmnknaaGreatDoor.N
open Go.RowKit

/-- What is written of a token; none: it may not stand here. -/
def toldZ (k : Int) (tx un : ByteArray) (wh : Bool) : Option (List Int) :=
  if k = 1 then some (bytesL tx)
  else if k = 10 then (if wh then some (bytesL tx) else none)
  else if k = 12 then (if wh then some (bytesL tx ++ bytesL un) else none)
  else if k = 9 then (if tx = ⟨#[43]⟩ ∨ tx = ⟨#[45]⟩ then some (bytesL tx) else none)
  else if k = 13 then some [32] else none
theorem told_any (b : Nat) (ns : List Int) (k : Int) (tx un : ByteArray) (wh fl : Bool) (w : World) (h : Wr b ns w) (hl : ns.length + tx.size + un.size + 1 ≤ 140737488355328) :
    Calls Tryz.prog 113 #[.agg #[.int .i64 k, .string tx, .string un, .bool wh, .bool fl], (.func (.func 111) #[] #[.pointer (some ⟨b, 0, none⟩)])] w fun e w' => ∃ (ok : Bool) (part : List Int), e = .returned (.bool ok) ∧ Wr b (ns ++ part) w' ∧ Below b w w' ∧ ((ok = true ∧ toldZ k tx un wh = some part) ∨ (ok = false ∧ toldZ k tx un wh = none)) := by
  by_cases k1 : k = 1
  · subst k1
    refine (told_1 b ns tx un wh fl w h (by omega)).mono ?_
    rintro e w' ⟨rfl, h1, h2⟩
    exact ⟨true, _, rfl, h1, h2, .inl ⟨rfl, rfl⟩⟩
  by_cases k10 : k = 10
  · subst k10
    refine (told_10 b ns tx un wh fl w h (by omega)).mono ?_
    rintro e w' ⟨rfl, h1, h2⟩
    refine ⟨wh, _, rfl, h1, h2, ?_⟩
    cases wh
    · exact .inr ⟨rfl, rfl⟩
    · exact .inl ⟨rfl, rfl⟩
  by_cases k12 : k = 12
  · subst k12
    refine (told_12 b ns tx un wh fl w h (by omega)).mono ?_
    rintro e w' ⟨rfl, h1, h2⟩
    refine ⟨wh, bytesL tx ++ bytesL un, rfl, by rw [← List.append_assoc]; exact h1, h2, ?_⟩
    cases wh
    · exact .inr ⟨rfl, rfl⟩
    · exact .inl ⟨rfl, rfl⟩
  by_cases k9 : k = 9
  · subst k9
    by_cases p43 : tx = ⟨#[43]⟩
    · subst p43
      refine (told_9p b ns un wh fl w h (by omega)).mono ?_
      rintro e w' ⟨rfl, h1, h2⟩
      exact ⟨true, _, rfl, h1, h2, .inl ⟨rfl, by unfold toldZ; simp⟩⟩
    by_cases p45 : tx = ⟨#[45]⟩
    · subst p45
      refine (told_9m b ns un wh fl w h (by omega)).mono ?_
      rintro e w' ⟨rfl, h1, h2⟩
      exact ⟨true, _, rfl, h1, h2, .inl ⟨rfl, by unfold toldZ; simp⟩⟩
    refine (told_9n b ns tx un wh fl w h (by omega) p43 p45).mono ?_
    rintro e w' ⟨rfl, h1, h2⟩
    exact ⟨false, _, rfl, h1, h2, .inr ⟨rfl, by unfold toldZ; simp [p43, p45]⟩⟩
  by_cases k13 : k = 13
  · subst k13
    refine (told_13 b ns tx un wh fl w h (by omega)).mono ?_
    rintro e w' ⟨rfl, h1, h2⟩
    exact ⟨true, _, rfl, h1, h2, .inl ⟨rfl, rfl⟩⟩
  refine (told_no b ns tx un wh fl w h k (by omega)).mono ?_
  rintro e w' ⟨rfl, h1, h2⟩
  exact ⟨false, [], rfl, by rw [List.append_nil]; exact h1, h2, .inr ⟨rfl, by unfold toldZ; simp [k1, k9, k10, k12, k13]⟩⟩

/-- A value: its token, and where its Kids lie. -/
structure Tk where
  k : Int
  tx : ByteArray
  un : ByteArray
  wh : Bool
  fl : Bool
  kid : Value
def tkCells (t : Tk) : List Value := [.int .i64 t.k, .string t.tx, .string t.un, .bool t.wh, .bool t.fl, t.kid]
def Kid (v : Value) : Prop := ∃ a l c, v = .slice a l c
/-- The slice v holds the values ts. -/
def ValsAt (W : World) (v : Value) (ts : List Tk) : Prop :=
  ∃ a cap, v = .slice a ts.length cap ∧ ts.length ≤ cap ∧ cap ≤ 9223372036854775807 ∧ (∀ t ∈ ts, Kid t.kid) ∧ (0 < ts.length → ∃ b off, a = some ⟨b, off, none⟩ ∧ b < W.heap.size ∧ ∀ i (h : i < ts.length), ∀ j y, (tkCells (ts[i]'h))[j]? = some y → W.cell? ⟨b, off + i * 6 + j, none⟩ = some y)
theorem ValsAt.below {W W' : World} {v : Value} {ts : List Tk} (h : ValsAt W v ts) (hb : Below W.heap.size W W') : ValsAt W' v ts := by
  obtain ⟨a, cap, hv, h1, h2, h3, h4⟩ := h
  refine ⟨a, cap, hv, h1, h2, h3, fun h0 => ?_⟩
  obtain ⟨b, off, ha, hlt, hc⟩ := h4 h0
  exact ⟨b, off, ha, Nat.lt_of_lt_of_le hlt hb.size, fun i h j y hy => (hb.cell (p := ⟨b, off + i * 6 + j, none⟩) hlt).trans (hc i h j y hy)⟩
theorem list_of {α : Type} {P : Nat → α → Prop} : ∀ n, (∀ i, i < n → ∃ x, P i x) → ∃ l : List α, l.length = n ∧ ∀ i (h : i < l.length), P i (l[i]'h)
  | 0, _ => ⟨[], rfl, fun i h => by simp at h⟩
  | n + 1, h => by
    obtain ⟨l, hl, hp⟩ := list_of n (fun i hi => h i (by omega))
    obtain ⟨x, hx⟩ := h n (by omega)
    refine ⟨l ++ [x], by simp [hl], fun i hi => ?_⟩
    by_cases hin : i < l.length
    · rw [List.getElem_append_left hin]
      exact hp i hin
    · have hi' : i = n := by simp at hi; omega
      subst hi'
      rw [List.getElem_append_right (by omega)]
      simpa using hx
def toldT (t : Tk) : Option (List Int) := toldZ t.k t.tx t.un t.wh
def gathered : List Tk → Option (List Int)
  | [] => some []
  | t :: r => match toldT t, gathered r with
    | some a, some c => some (a ++ c)
    | _, _ => none
theorem gathered_snoc : ∀ (l : List Tk) (t : Tk), gathered (l ++ [t]) = match gathered l, toldT t with | some a, some c => some (a ++ c) | _, _ => none
  | [], t => by
    simp only [List.nil_append, gathered]
    cases toldT t <;> simp
  | x :: r, t => by
    simp only [List.cons_append, gathered, gathered_snoc r t]
    cases toldT x <;> cases gathered r <;> cases toldT t <;> simp
theorem gathered_none : ∀ (l : List Tk) (t : Tk), t ∈ l → toldT t = none → gathered l = none
  | x :: r, t, h, hn => by
    rcases List.mem_cons.1 h with rfl | h
    · simp [gathered, hn]
    · have := gathered_none r t h hn
      simp only [gathered, this]
      cases toldT x <;> rfl

end Go.Proofs.YtbeolmofnmnknaaGreatDoor.N
namespace Go.Proofs.YtbeolmofnmnknaaGreatDoor.N
open Go.RowKit

def wrt (g : Option (List Int)) : ByteArray × Bool := match g with
  | some p => (strOfNums p, true)
  | none => (⟨#[]⟩, false)
theorem ret_sb {a c : ByteArray} {x y : Bool} (h : (a, x) = (c, y)) : Ending.returned (.tuple #[.string a, .bool x]) = .returned (.tuple #[.string c, .bool y]) := by cases h; rfl
theorem told_len {t : Tk} {p : List Int} (h : toldT t = some p) (hs : t.tx.size + t.un.size ≤ 2000000) : p.length ≤ 2000001 := by
  unfold toldT toldZ at h
  have b1 := bytesL_size t.tx
  have b2 := bytesL_size t.un
  repeat' split at h
  all_goals first | (cases h; done) | (cases h; show 1 ≤ 2000001; omega) | (cases h; simp; omega) | (cases h; rw [List.length_append]; omega) | (cases h; omega)

theorem gathered_step {l : List Tk} {t : Tk} {part p : List Int} (hg : gathered l = some part) (ht : toldT t = some p) : gathered (l ++ [t]) = some (part ++ p) := by
  rw [gathered_snoc, hg, ht]
set_option maxHeartbeats 2000000 in
set_option maxRecDepth 100000 in
theorem written_any (W : World) (v : Value) (ts : List Tk) (hv : ValsAt W v ts) (hn : ts.length ≤ 100000) (hsz : ∀ t ∈ ts, t.tx.size + t.un.size ≤ 2000000) :
    Calls Tryz.prog 108 #[v] W fun e w' => e = .returned (.tuple #[.string (wrt (gathered ts)).1, .bool (wrt (gathered ts)).2]) ∧ Below W.heap.size W w' := by
  obtain ⟨a, cap, rfl, hl, hcap, hkid, hc⟩ := hv
  have hw0 := wr_new W
  have hal : Below W.heap.size W (W.alloc (.cells #[.pointer none, .slice none 0 0] 100)) := (Below.refl _ W).alloc (Nat.le_refl _) _
  go_enter Tryz.func108, Tryz.ntmps108
  go_wp2
  go_loopw [11] (fun a11 wr => ∃ (k : Nat) (part : List Int), a11 = .int .i64 k ∧ k ≤ ts.length ∧ Wr W.heap.size part wr ∧ gathered (ts.take k) = some part ∧ part.length ≤ 2000001 * k ∧ Below W.heap.size W wr) (fun a11 _ => ts.length + 1 - (intOf a11).toNat)
  case atStart => exact ⟨0, [], rfl, Nat.zero_le _, hw0, rfl, by simp, hal⟩
  case round =>
    obtain ⟨k, part, rfl, hk, hwr, hg, hpl, hbr⟩ := hrel
    have HG := hid_mk hg
    clear hg
    by_cases hlt : k < ts.length
    · obtain ⟨b, off, rfl, hbw, hcell⟩ := hc (by omega)
      have hcc : ∀ j y, (tkCells (ts[k]'hlt))[j]? = some y → wr.cell? ⟨b, off + k * 6 + j, none⟩ = some y := fun j y hy => (hbr.cell (p := ⟨b, off + k * 6 + j, none⟩) hbw).trans (hcell k hlt j y hy)
      have hmem : ts[k]'hlt ∈ ts := List.getElem_mem hlt
      have hs := hsz _ hmem
      have hkd := hkid _ hmem
      have HTK : Hid (ts.take (k + 1) = ts.take k ++ [ts[k]'hlt]) := by
        show _ = _
        rw [List.take_add_one]
        simp [hlt]
      have HNO : Hid (toldT (ts[k]'hlt) = none → gathered ts = none) := fun h => gathered_none ts _ hmem h
      have HLEN : Hid (∀ p, toldT (ts[k]'hlt) = some p → p.length ≤ 2000001) := fun p h => told_len h hs
      generalize ts[k]'hlt = t at *
      obtain ⟨kk, tx, un, wh, fl, kid⟩ := t
      have c0 := hcc 0 _ rfl
      have c1 := hcc 1 _ rfl
      have c2 := hcc 2 _ rfl
      have c3 := hcc 3 _ rfl
      have c4 := hcc 4 _ rfl
      have c5 := hcc 5 _ rfl
      simp only [Nat.add_zero] at c0 c1 c2 c3 c4 c5 hs hkd
      have hal2 : Below wr.heap.size wr (wr.alloc (.cells #[.int .i64 kk, .string tx, .string un, .bool wh, .bool fl, kid] 91)) := (Below.refl _ wr).alloc (Nat.le_refl _) _
      have hcall := told_any W.heap.size part kk tx un wh fl _ (wr_below hwr hal2) (by omega)
      have hltb := wr_lt hwr
      have hB2 : Below W.heap.size W (wr.alloc (.cells #[.int .i64 kk, .string tx, .string un, .bool wh, .bool fl, kid] 91)) := hbr.trans (hal2.mono hbr.size)
      clear hcc hcell hc hmem hkid hsz hwr
      obtain ⟨a', l', c', rfl⟩ := hkd
      all_goals
        go_wp2_with (go_at_call 113; fail)
        refine (hcall).mono ?_
        rintro e w3 ⟨ok, p3, rfl, hw3, b3, hor⟩
        have B3 := hB2.trans b3
        rcases hor with ⟨rfl, ht⟩ | ⟨rfl, ht⟩
        · have HT := hid_mk ht
          clear ht
          go_wp2
          go_roundw
          case rel =>
            refine ⟨k + 1, part ++ p3, by go_num, by omega, hw3, ?_, ?_, B3⟩
            · rw [HTK.out]
              exact gathered_step HG.out HT.out
            · have := HLEN.out p3 HT.out
              rw [List.length_append]
              omega
          case measure => simp [intOf]; omega
        · have HR : Hid (gathered ts = none) := HNO.out ht
          clear ht
          go_wp2
          go_ret2
          exact ⟨ret_sb (by rw [HR.out]; rfl), B3⟩
    · have HE : Hid (gathered ts = some part) := by
        show _ = _
        rw [← HG.out, List.take_of_length_le (by omega)]
      have hst := wr_string W.heap.size part wr hwr
      generalize hps : strOfNums part = PS at *
      have HPS := hid_mk hps
      clear hps
      go_wp2_with (go_at_call 54; fail)
      refine (hst).mono ?_
      rintro e w3 ⟨rfl, b3⟩
      go_wp2
      go_ret2
      exact ⟨ret_sb (by rw [HE.out, ← HPS.out]; rfl), hbr.trans b3⟩

end Go.Proofs.YtbeolmofnmnknaaGreatDoor.N
namespace Go.Proofs.YtbeolmofnmnknaaGreatDoor.N
open Go.RowKit

def evenS : ByteArray := ⟨#[101, 118, 101, 110]⟩
def oddS : ByteArray := ⟨#[111, 100, 100]⟩
/-- What a trimmed text in small letters says. -/
def readT (s : ByteArray) : Int × Int × Bool := if s = evenS then (2, 0, true) else if s = oddS then (2, 1, true) else cutT s
def parseT (g : Option (List Int)) : Int × Int × Bool := match g with
  | none => (0, 0, false)
  | some p => readT (foldS (strOfNums (leftL (rightL p))))
theorem str_eqs (a c : ByteArray) (l : List UInt8) (hc : c.toList = l) : (a = c → (a == c) = true ∧ (a.toList == l) = true) ∧ (a ≠ c → (a == c) = false ∧ (a.toList == l) = false) := by
  refine ⟨fun e => ?_, fun e => ?_⟩
  · subst e
    exact ⟨by rw [beq_toListBytes]; simp, by rw [hc]; simp⟩
  · have h : (a.toList == c.toList) = false := by
      rw [Bool.eq_false_iff]
      intro h
      rw [beq_iff_eq, ByteArray.toList_eq, ByteArray.toList_eq] at h
      exact e (ByteArray.ext (Array.toList_inj.1 h))
    exact ⟨by rw [beq_toListBytes]; exact h, by rw [← hc]; exact h⟩
theorem gathered_byte : ∀ (ts : List Tk) (p : List Int), gathered ts = some p → (∀ n ∈ p, 0 ≤ n ∧ n < 256)
  | [], p, h => by
    cases h
    intro n hn
    cases hn
  | t :: r, p, h => by
    rw [gathered] at h
    cases ht : toldT t with
    | none => rw [ht] at h; cases h
    | some a =>
      cases hr : gathered r with
      | none => rw [ht, hr] at h; cases h
      | some c =>
        rw [ht, hr] at h
        cases h
        have hc := gathered_byte r c hr
        have ha : ∀ n ∈ a, 0 ≤ n ∧ n < 256 := by
          unfold toldT toldZ at ht
          repeat' split at ht
          all_goals first | (cases ht; done) | (cases ht; exact bytesL_byte _) | (cases ht; intro n hn; simp at hn; omega) | (cases ht; exact fun n hn => (List.mem_append.1 hn).elim (bytesL_byte _ n) (bytesL_byte _ n))
        intro n hn
        rcases List.mem_append.1 hn with h | h
        · exact ha n h
        · exact hc n h
theorem gathered_len : ∀ (ts : List Tk) (p : List Int), gathered ts = some p → (∀ t ∈ ts, t.tx.size + t.un.size ≤ 2000000) → p.length ≤ 2000001 * ts.length
  | [], p, h, _ => by
    cases h
    simp
  | t :: r, p, h, hs => by
    rw [gathered] at h
    cases ht : toldT t with
    | none => rw [ht] at h; cases h
    | some a =>
      cases hr : gathered r with
      | none => rw [ht, hr] at h; cases h
      | some c =>
        rw [ht, hr] at h
        cases h
        have h1 := gathered_len r c hr (fun x hx => hs x (by simp [hx]))
        have h2 := told_len ht (hs t (by simp))
        rw [List.length_append, List.length_cons]
        omega

set_option maxHeartbeats 1000000 in
set_option maxRecDepth 100000 in
theorem parse_any (W : World) (v : Value) (ts : List Tk) (hv : ValsAt W v ts) (hn : ts.length ≤ 100000) (hsz : ∀ t ∈ ts, t.tx.size + t.un.size ≤ 2000000) :
    Calls Tryz.prog 106 #[v] W fun e w' => e = .returned (.tuple #[.int .i64 (parseT (gathered ts)).1, .int .i64 (parseT (gathered ts)).2.1, .bool (parseT (gathered ts)).2.2]) ∧ Below W.heap.size W w' := by
  have hw := written_any W v ts hv hn hsz
  have hb := gathered_byte ts
  have hl := fun p h => gathered_len ts p h hsz
  obtain ⟨a, cap, rfl, _⟩ := hv
  cases hg : gathered ts with
  | none =>
    rw [hg] at hw
    have e1 : wrt none = (⟨#[]⟩, false) := rfl
    have e2 : parseT none = (0, 0, false) := rfl
    rw [e1] at hw
    rw [e2]
    simp only at hw ⊢
    clear e1 e2 hb hl hg hsz
    go_enter Tryz.func106, Tryz.ntmps106
    go_wp2_with (go_at_call 108; fail)
    refine (hw).mono ?_
    rintro e w1 ⟨rfl, b1⟩
    go_wp2
    go_ret3
    exact ⟨rfl, b1⟩
  | some p =>
    rw [hg] at hw
    have hpb := hb p hg
    have hpl := hl p hg
    have hlen : p.length ≤ 1000000000000 := by omega
    have ht := fun w => trim_any p hpb hlen w
    have hts : (strOfNums (leftL (rightL p))).size ≤ 1000000000000 := by
      rw [strOf_size]
      exact Nat.le_trans (leftL_len _) (Nat.le_trans (rightL_len _) hlen)
    have hf := fun w => fold_any (strOfNums (leftL (rightL p))) w (by omega)
    have hfs : (foldS (strOfNums (leftL (rightL p)))).size ≤ 1000000000000 := by rw [foldS_size]; exact hts
    have hcut := fun w => cut_any (foldS (strOfNums (leftL (rightL p)))) hfs w
    have HR : Hid (parseT (some p) = readT (foldS (strOfNums (leftL (rightL p))))) := rfl
    have e1 : wrt (some p) = (strOfNums p, true) := rfl
    rw [e1] at hw
    simp only at hw
    generalize strOfNums p = s0 at *
    generalize strOfNums (leftL (rightL p)) = s1 at *
    generalize foldS s1 = s2 at *
    generalize parseT (some p) = pv at *
    clear e1 hb hl hg hsz hpb hpl hlen hts
    by_cases he : s2 = evenS
    · have HV : Hid (pv = (2, 0, true)) := by show _ = _; rw [HR.out, readT, if_pos he]
      unfold evenS at he
      subst he
      clear HR hcut
      go_enter Tryz.func106, Tryz.ntmps106
      go_wp2_with (go_at_call 108; fail)
      refine (hw).mono ?_
      rintro e w1 ⟨rfl, b1⟩
      go_wp2_with (go_at_call 109; fail)
      refine (ht _).mono ?_
      rintro e w2 ⟨rfl, b2⟩
      have B2 := b1.trans (b2.mono b1.size)
      go_wp2_with (go_at_call 61; fail)
      refine (hf _).mono ?_
      rintro e w3 ⟨rfl, b3⟩
      have B3 := B2.trans (b3.mono B2.size)
      go_wp2
      go_ret3
      exact ⟨ret3_p HV.out, B3⟩
    obtain ⟨y1, y2⟩ := (str_eqs s2 ⟨#[101, 118, 101, 110]⟩ [101, 118, 101, 110] (by rw [ByteArray.toList_eq])).2 he
    by_cases ho : s2 = oddS
    · have HV : Hid (pv = (2, 1, true)) := by show _ = _; rw [HR.out, readT, if_neg he, if_pos ho]
      unfold oddS at ho
      subst ho
      clear HR hcut y1 y2 he
      go_enter Tryz.func106, Tryz.ntmps106
      go_wp2_with (go_at_call 108; fail)
      refine (hw).mono ?_
      rintro e w1 ⟨rfl, b1⟩
      go_wp2_with (go_at_call 109; fail)
      refine (ht _).mono ?_
      rintro e w2 ⟨rfl, b2⟩
      have B2 := b1.trans (b2.mono b1.size)
      go_wp2_with (go_at_call 61; fail)
      refine (hf _).mono ?_
      rintro e w3 ⟨rfl, b3⟩
      have B3 := B2.trans (b3.mono B2.size)
      go_wp2
      go_ret3
      exact ⟨ret3_p HV.out, B3⟩
    obtain ⟨z1, z2⟩ := (str_eqs s2 ⟨#[111, 100, 100]⟩ [111, 100, 100] (by rw [ByteArray.toList_eq])).2 ho
    have HV : Hid (pv = cutT s2) := by show _ = _; rw [HR.out, readT, if_neg he, if_neg ho]
    generalize cutT s2 = cv at *
    clear HR he ho
    go_enter Tryz.func106, Tryz.ntmps106
    go_wp2_with (go_at_call 108; fail)
    refine (hw).mono ?_
    rintro e w1 ⟨rfl, b1⟩
    go_wp2_with (go_at_call 109; fail)
    refine (ht _).mono ?_
    rintro e w2 ⟨rfl, b2⟩
    have B2 := b1.trans (b2.mono b1.size)
    go_wp2_with (go_at_call 61; fail)
    refine (hf _).mono ?_
    rintro e w3 ⟨rfl, b3⟩
    have B3 := B2.trans (b3.mono B2.size)
    go_wp2_with (go_at_call 110; fail)
    refine (hcut _).mono ?_
    rintro e w4 ⟨rfl, b4⟩
    have B4 := B3.trans (b4.mono B3.size)
    go_wp2
    go_ret3
    exact ⟨ret3_p (HV.out.trans rfl), B4⟩

end Go.Proofs.YtbeolmofnmnknaaGreatDoor.N
namespace Go.Proofs.YtbeolmofnmnknaaGreatDoor.L
open Go.RowKit
set_option maxRecDepth 100000

/-- A simple selector, and the values of its List. -/
abbrev Sv := S6 × List V
/-- Does a kind have a List? -/
def lstB (k : Int) : Bool := k == 5 || k == 6 || k == 7
def toTk (v : V) : N.Tk := ⟨v.tok.k, v.tok.tx, v.tok.un, v.tok.wh, v.tok.fl, .slice none 0 0⟩
def nthR (vs : List V) : Int × Int × Bool := N.parseT (N.gathered (vs.map toTk))
/-- Within [ and ]. -/
def sqV (nm : ByteArray) (op : Int) (us : List V) : Option S6 := match us with
  | v :: r => if (op != 0 && (v.tok.k == 1 || v.tok.k == 5) && (spc r).isEmpty) = true then some ⟨4, nm, op, v.tok.tx, 0, 0⟩ else none
  | [] => none
def sqO (nm : ByteArray) (us : List V) : Option S6 := match us with
  | [] => some ⟨4, nm, 0, ⟨#[]⟩, 0, 0⟩
  | v :: r => sqV nm (opR (v :: r)).1 (spc ((v :: r).drop (opR (v :: r)).2))
def inSqR (vs : List V) : Option S6 := match spc vs with
  | v :: r => if (v.tok.k == 1) = true then sqO (foldS v.tok.tx) (spc r) else none
  | [] => none
def attrR (vs : List V) : Option (List S6 × Nat) := match vs with
  | v :: _ => if (v.tok.k == 19) = true then (match inSqR v.kids with | some s => some ([s], 1) | none => none) else none
  | [] => none
def plcB (z : Int) : Bool := z == 8 || z == 9
def placeR (vs : List V) : Option (List S6 × Nat) := match vs[1]? with
  | some u => if (plcB (fnR vs) && (nthR u.kids).2.2) = true then some ([⟨fnR vs, ⟨#[]⟩, 0, ⟨#[]⟩, (nthR u.kids).1, (nthR u.kids).2.1⟩], 2) else none
  | none => none
def choiceR (vs : List V) : Option (List Sv × Nat) := match vs[1]? with
  | some u => if lstB (fnR vs) = true then some ([(⟨fnR vs, ⟨#[]⟩, 0, ⟨#[]⟩, 0, 0⟩, u.kids)], 2) else none
  | none => none
def bare (r : Option (List S6 × Nat)) : Option (List Sv × Nat) := match r with
  | some (l, n) => some (l.map fun s => (s, []), n)
  | none => none
def orR (a b : Option (List Sv × Nat)) : Option (List Sv × Nat) := match a with
  | some x => some x
  | none => b
def otherR (vs : List V) : Option (List Sv × Nat) := orR (bare (idR vs)) (orR (bare (classR vs)) (orR (bare (attrR vs)) (orR (bare (stateR vs)) (orR (bare (placeR vs)) (choiceR vs)))))
def othF : Nat → List V → List Sv × List V
  | 0, vs => ([], vs)
  | f + 1, vs => match otherR vs with
    | none => ([], vs)
    | some (l, n) => (l ++ (othF f (vs.drop n)).1, (othF f (vs.drop n)).2)
def othZ (vs : List V) : List Sv × List V := othF vs.length vs
def compR (vs : List V) : List Sv × List V := match bare (tagR vs) with
  | none => othZ vs
  | some (l, n) => (l ++ (othZ (vs.drop n)).1, (othZ (vs.drop n)).2)
/-- A complex selector whose Lists are not read yet. -/
abbrev Cv := List (List Sv) × List Int
def cxF : Nat → List V → Option (Cv × List V)
  | 0, _ => none
  | f + 1, vs => match compR vs with
    | ([], _) => none
    | (p :: ps, r) => if (combR r).1 = 0 then some (([p :: ps], []), (combR r).2) else match cxF f (combR r).2 with
      | none => none
      | some ((qs, ks), r') => some (((p :: ps) :: qs, (combR r).1 :: ks), r')
def cxZ (vs : List V) : Option (Cv × List V) := cxF (vs.length + 1) vs
def lsF : Nat → List V → Option (List Cv)
  | 0, _ => none
  | f + 1, vs => match cxZ (spc vs) with
    | none => none
    | some (c, r) => if r.isEmpty = true then some [c] else if ahd r 0 18 = true then (match lsF f (r.drop 1) with | none => none | some l => some (c :: l)) else none
def lsZ (vs : List V) : Option (List Cv) := lsF (vs.length + 1) vs
/-- A list with all Lists within. -/
def allO {α β : Type} (f : α → Option β) : List α → Option (List β)
  | [] => some []
  | a :: r => match f a with
    | none => none
    | some b => match allO f r with
      | none => none
      | some l => some (b :: l)
def fS (f : List V → Option (List Cx)) (s : Sv) : Option (S6 × List Cx) := if lstB s.1.k = true then (match f s.2 with | none => none | some l => some (s.1, l)) else some (s.1, [])
def fC (f : List V → Option (List Cx)) (c : Cv) : Option Cx := match allO (allO (fS f)) c.1 with
  | none => none
  | some ps => some (.mk ps c.2)
def parseD : Nat → List V → Option (List Cx)
  | 0, _ => none
  | d + 1, vs => match lsZ vs with
    | none => none
    | some l => allO (fC (parseD d)) l
mutual
def V.dep : V → Nat
  | .mk _ l => depL l + 1
def depL : List V → Nat
  | [] => 0
  | v :: r => max v.dep (depL r)
end
def parseZ (vs : List V) : Option (List Cx) := parseD (depL vs + 1) vs
end Go.Proofs.YtbeolmofnmnknaaGreatDoor.L
