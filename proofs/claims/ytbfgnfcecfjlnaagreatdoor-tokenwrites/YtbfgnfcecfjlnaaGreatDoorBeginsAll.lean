/- What the cutter's short calls answer: done, ahead, next: by the characters that are left. What begins at the cutter's place: an escape, a name, a number: as the characters that are left say. What the cutter's calls that go on leave: blanks and digits are gone by. -/
import Derived.Test.YtbfgnfcecfjlnaaGreatDoorJoins
import Derived.Test.YtbfgnfcecfjlnaaGreatDoorKinds
import Derived.Deep.RegionWith
import Derived.WalkSmall
namespace Go.Proofs.YtbfgnfcecfjlnaaGreatDoor
open Go.RowKit
set_option maxRecDepth 100000

/-- All blocks but one stand as they stood. -/
structure Kept (b : Nat) (w w' : World) : Prop where
  os : w'.os = w.os
  tape : w'.tape = w.tape
  output : w'.output = w.output
  size : w.heap.size ≤ w'.heap.size
  block : ∀ k, k < w.heap.size → k ≠ b → w'.heap[k]? = w.heap[k]?

theorem Kept.refl (b : Nat) (w : World) : Kept b w w := ⟨rfl, rfl, rfl, Nat.le_refl _, fun _ _ _ => rfl⟩
theorem Kept.trans {b : Nat} {u v w : World} (h : Kept b u v) (k : Kept b v w) : Kept b u w :=
  ⟨k.os.trans h.os, k.tape.trans h.tape, k.output.trans h.output, Nat.le_trans h.size k.size, fun i hi hb => (k.block i (Nat.lt_of_lt_of_le hi h.size) hb).trans (h.block i hi hb)⟩
theorem Kept.of_below {b : Nat} {w w' : World} (h : Below w.heap.size w w') : Kept b w w' := ⟨h.os, h.tape, h.output, h.size, fun k hk _ => h.block k hk⟩
theorem Kept.drewN (b : Nat) (w : World) (n : Nat) : Kept b w (w.drewN n) := ⟨rfl, rfl, rfl, Nat.le_refl _, fun _ _ _ => rfl⟩
theorem Kept.setCell {b : Nat} {a w : World} (h : Kept b a w) (o : Nat) (u : Value) : Kept b a (w.setCell ⟨b, o, none⟩ u) :=
  h.trans ⟨rfl, rfl, rfl, by simp, fun k _ hk => Below.heap_setCell w ⟨b, o, none⟩ u k hk⟩
theorem Kept.below {b : Nat} {w w' : World} (h : Kept b w w') (hb : b ≤ w.heap.size) : Below b w w' := ⟨h.os, h.tape, h.output, h.size, fun k hk => h.block k (by omega) (by omega)⟩

def Fine (xs : List Int) : Prop := xs.length ≤ 1000000000 ∧ ∀ c ∈ xs, IsChar c
/-- The cutter in block b: its text xs, of which l is left, and what is told so far. -/
def At (w : World) (b : Nat) (v out : Value) (xs l : List Int) : Prop :=
  ∃ p : Nat, w.heap[b]? = some (.cells #[v, .int .i64 p, out] 39 (0, 0)) ∧ RowAt .i32 w v xs ∧ (∀ k x, out ≠ .int k x) ∧ p ≤ xs.length ∧ xs.drop p = l

theorem at_lt {w : World} {b : Nat} {v out : Value} {xs l : List Int} (h : At w b v out xs l) : b < w.heap.size := by
  obtain ⟨p, hb, _⟩ := h
  exact (Array.getElem?_eq_some_iff.1 hb).1
theorem row_kept {w w' : World} {b : Nat} {v out v2 : Value} {xs : List Int} {p : Int} (hb : w.heap[b]? = some (.cells #[v2, .int .i64 p, out] 39 (0, 0))) (hv : ∀ k x, v2 ≠ .int k x) (ho : ∀ k x, out ≠ .int k x) (h : RowAt .i32 w v xs) (hk : Kept b w w') : RowAt .i32 w' v xs := by
  obtain ⟨a, cap, rfl, h1, hc⟩ := h
  refine ⟨a, cap, rfl, h1, fun h0 => ?_⟩
  obtain ⟨rb, off, rfl, hc'⟩ := hc h0
  refine ⟨rb, off, rfl, fun j hj => ?_⟩
  have hcell := hc' j hj
  have hlt := World.block_lt_of_cell? w _ hcell
  have hne : rb ≠ b := by
    intro e
    subst e
    simp only [World.cell?, hb] at hcell
    match h : off + j with
    | 0 => rw [h] at hcell; simp at hcell; exact hv _ _ hcell
    | 1 => rw [h] at hcell; simp at hcell
    | 2 => rw [h] at hcell; simp at hcell; exact ho _ _ hcell
    | n + 3 => rw [h] at hcell; simp at hcell
  exact (World.cell?_of_block (w := w) (hk.block rb hlt hne)).trans hcell


theorem slice_no {a : Option Addr} {n c : Nat} : ∀ k x, Value.slice a n c ≠ .int k x := fun _ _ h => by cases h
theorem at_kept {w w' : World} {b : Nat} {v out : Value} {xs l : List Int} (h : At w b v out xs l) (hk : Kept b w w') (hb : w'.heap[b]? = w.heap[b]?) : At w' b v out xs l := by
  obtain ⟨p, h1, h2, h3, h4, h5⟩ := h
  have hv : ∀ k x, v ≠ .int k x := by obtain ⟨a, c, rfl, _⟩ := h2; exact slice_no
  exact ⟨p, hb.trans h1, row_kept h1 hv h3 h2 hk, h3, h4, h5⟩
theorem at_below {w w' : World} {b : Nat} {v out : Value} {xs l : List Int} (h : At w b v out xs l) (hk : Below w.heap.size w w') : At w' b v out xs l := at_kept h (Kept.of_below hk) (hk.block b (at_lt h))
theorem at_drew {w : World} {b : Nat} {v out : Value} {xs l : List Int} (h : At w b v out xs l) (n : Nat) : At (w.drewN n) b v out xs l := at_kept h (Kept.drewN b w n) rfl

theorem cells3 {w : World} {b : Nat} {x y z : Value} (h : w.heap[b]? = some (.cells #[x, y, z] 39 (0, 0))) : w.cell? ⟨b, 0, none⟩ = some x ∧ w.cell? ⟨b, 1, none⟩ = some y ∧ w.cell? ⟨b, 2, none⟩ = some z := by
  refine ⟨?_, ?_, ?_⟩ <;> simp [World.cell?, h]
theorem free3 {w : World} {b : Nat} {x y z : Value} (h : w.heap[b]? = some (.cells #[x, y, z] 39 (0, 0))) (o : Nat) : w.frozen? ⟨b, o, none⟩ = false := by
  simp [World.frozen?, h]

theorem done_any (b : Nat) (v out : Value) (xs l : List Int) (w : World) (fx : Fine xs) (h : At w b v out xs l) :
    Calls Tryz.prog 29 #[.pointer (some ⟨b, 0, none⟩)] w fun e w' => e = .returned (.bool (decide (l = []))) ∧ ∃ n, w' = w.drewN n := by
  obtain ⟨p, hb, hr, _, hp, rfl⟩ := h
  obtain ⟨hc0, hc1, _⟩ := cells3 hb
  obtain ⟨a, cap, rfl, hcap, _⟩ := hr
  have hl := fx.1
  have HD : Hid (decide (xs.drop p = []) = decide (xs.length ≤ p)) := by show decide (xs.drop p = []) = decide (xs.length ≤ p); simp
  clear hb
  go_enter Tryz.func29, Tryz.ntmps29
  go_wp2
  go_quiet (fail)
  go_wp2
  go_ret
  exact ⟨ret_bool (by rw [HD.out]), _, rfl⟩

theorem drewN_twice (w : World) (n m : Nat) : (w.drewN n).drewN m = w.drewN (n + m) := by simp [World.drewN, Nat.add_assoc]
theorem hd_get {xs : List Int} {p i : Nat} (h : p + i < xs.length) : hd (xs.drop p) i = xs.getD (p + i) 0 := by
  simp [hd, List.getD, h]
theorem hd_out {xs : List Int} {p i : Nat} (h : ¬ p + i < xs.length) : hd (xs.drop p) i = -1 := by
  have : xs.length ≤ p + i := by omega
  simp [hd, List.getD, this]

set_option maxHeartbeats 400000 in
theorem ahead_any (b : Nat) (v out : Value) (xs l : List Int) (i : Nat) (w : World) (fx : Fine xs) (h : At w b v out xs l) (hi : i ≤ 1000000000) :
    Calls Tryz.prog 56 #[.pointer (some ⟨b, 0, none⟩), .int .i64 i] w fun e w' => e = .returned (.int .i32 (hd l i)) ∧ ∃ n, w' = w.drewN n := by
  obtain ⟨p, hb, hr, _, hp, rfl⟩ := h
  obtain ⟨hc0, hc1, _⟩ := cells3 hb
  obtain ⟨a, cap, rfl, hcap, hrow⟩ := hr
  have hl := fx.1
  clear hb
  by_cases hin : p + i < xs.length
  · obtain ⟨rb, off, rfl, hcl⟩ := hrow (by omega)
    have HD : Hid (hd (xs.drop p) i = xs.getD (p + i) 0) := hd_get hin
    have hcell := hcl (p + i) hin
    have hq : decide ((xs.length : Int) - p ≤ i) = false := by simp; omega
    generalize xs.getD (p + i) 0 = c at HD hcell
    clear hrow hcl
    go_enter Tryz.func56, Tryz.ntmps56
    go_wp2
    go_quiet (fail)
    go_wp2
    go_quiet (fail)
    go_wp2
    go_ret
    exact ⟨by rw [HD.out]; rfl, _, drewN_twice _ _ _⟩
  · have HD : Hid (hd (xs.drop p) i = -1) := hd_out hin
    have hq : (xs.length : Int) - p ≤ i := by omega
    go_enter Tryz.func56, Tryz.ntmps56
    go_wp2
    go_quiet (fail)
    go_wp2
    go_ret
    exact ⟨by rw [HD.out]; rfl, _, rfl⟩

theorem set3 {w : World} {b : Nat} {x y z u : Value} (h : w.heap[b]? = some (.cells #[x, y, z] 39 (0, 0))) : (w.setCell ⟨b, 1, none⟩ u).heap[b]? = some (.cells #[x, u, z] 39 (0, 0)) := by
  have hlt := (Array.getElem?_eq_some_iff.1 h).1
  have he := (Array.getElem?_eq_some_iff.1 h).2
  simp [World.setCell, Array.getElem?_modify, h]
theorem at_set {w : World} {b : Nat} {v out : Value} {xs l : List Int} (h : At w b v out xs l) {q : Nat} (hq : q ≤ xs.length) : At (w.setCell ⟨b, 1, none⟩ (.int .i64 q)) b v out xs (xs.drop q) := by
  obtain ⟨p, h1, h2, h3, h4, h5⟩ := h
  have hv : ∀ k x, v ≠ .int k x := by obtain ⟨a, c, rfl, _⟩ := h2; exact slice_no
  exact ⟨q, set3 h1, row_kept h1 hv h3 h2 ((Kept.refl b w).setCell 1 _), h3, hq, rfl⟩

set_option maxHeartbeats 400000 in
theorem next_any (b : Nat) (v out : Value) (xs : List Int) (c : Int) (t : List Int) (w : World) (fx : Fine xs) (h : At w b v out xs (c :: t)) :
    Calls Tryz.prog 59 #[.pointer (some ⟨b, 0, none⟩)] w fun e w' => e = .returned (.int .i32 c) ∧ At w' b v out xs t ∧ Kept b w w' := by
  have ha := ahead_any b v out xs (c :: t) 0 w fx h (by omega)
  have h' := h
  obtain ⟨p, hb, hr, ho, hp, he⟩ := h
  have hl := fx.1
  have hlt : p < xs.length := by
    have := congrArg List.length he
    simp at this
    omega
  have ht : xs.drop (p + 1) = t := by
    have := congrArg (List.drop 1) he
    simpa [List.drop_drop] using this
  have HS := fun n => at_set (at_drew h' n) (q := p + 1) (by omega)
  obtain ⟨hc0, hc1, hc2⟩ := cells3 hb
  have hf := free3 hb
  subst ht
  clear hb hr
  go_enter Tryz.func59, Tryz.ntmps59
  go_wp2_with (go_at_call 56; refine ha.mono ?_; rintro e w' ⟨rfl, n, rfl⟩)
  go_ret
  exact ⟨rfl, HS n, (Kept.drewN b w n).setCell 1 _⟩
end Go.Proofs.YtbfgnfcecfjlnaaGreatDoor
namespace Go.Proofs.YtbfgnfcecfjlnaaGreatDoor
open Go.RowKit
set_option maxRecDepth 100000

theorem drew0 (w : World) : w.drewN 0 = w := rfl

section
variable {w : World} {b : Nat} {v out : Value} {xs l : List Int}

theorem ahead_r (h : At w b v out xs l) (fx : Fine xs) (i : Nat) (j : Int) (hj : j = i) (hi : i ≤ 1000000000) (n : Nat) :
    Calls Tryz.prog 56 #[.pointer (some ⟨b, 0, none⟩), .int .i64 j] (w.drewN n) fun e w' => e = .returned (.int .i32 (hd l i)) ∧ ∃ m, w' = w.drewN m := by
  subst hj
  refine (ahead_any b v out xs l i _ fx (at_drew h n) hi).mono ?_
  rintro e w' ⟨rfl, m, rfl⟩
  exact ⟨rfl, _, drewN_twice _ _ _⟩
theorem done_r (h : At w b v out xs l) (fx : Fine xs) (n : Nat) :
    Calls Tryz.prog 29 #[.pointer (some ⟨b, 0, none⟩)] (w.drewN n) fun e w' => e = .returned (.bool (decide (l = []))) ∧ ∃ m, w' = w.drewN m := by
  refine (done_any b v out xs l _ fx (at_drew h n)).mono ?_
  rintro e w' ⟨rfl, m, rfl⟩
  exact ⟨rfl, _, drewN_twice _ _ _⟩
theorem hd_drop (l : List Int) (i j : Nat) : hd (l.drop i) j = hd l (i + j) := by simp [hd, List.getD]

set_option maxHeartbeats 400000 in
theorem escB_r (h : At w b v out xs l) (fx : Fine xs) (i : Nat) (j : Int) (hj : j = i) (hi : i ≤ 1000000) (n : Nat) :
    Calls Tryz.prog 63 #[.pointer (some ⟨b, 0, none⟩), .int .i64 j] (w.drewN n) fun e w' => e = .returned (.bool (escB (l.drop i))) ∧ ∃ m, w' = w.drewN m := by
  subst hj
  have ha := fun m => ahead_r h fx i i rfl (by omega) m
  have hb := fun m => ahead_r h fx (i + 1) (i + 1) (by omega) (by omega) m
  have HE : Hid (escB (l.drop i) = (hd l i == 92 && hd l (i + 1) != 10)) := by show escB (l.drop i) = _; simp only [escB, hd_drop]; rfl
  clear h fx
  generalize hd l i = c0 at ha HE
  generalize hd l (i + 1) = c1 at hb HE
  by_cases h0 : c0 = 92
  · subst h0
    go_enter Tryz.func63, Tryz.ntmps63
    go_wp2_with (go_at_call 56; fail)
    refine (ha _).mono ?_
    rintro e w' ⟨rfl, m, rfl⟩
    go_wp2_with (go_at_call 56; fail)
    refine (hb _).mono ?_
    rintro e w' ⟨rfl, m, rfl⟩
    go_wp2
    go_ret
    exact ⟨ret_bool (by rw [HE.out]; simp), _, rfl⟩
  · have e0 : (c0 == 92) = false := by simpa using h0
    go_enter Tryz.func63, Tryz.ntmps63
    go_wp2_with (go_at_call 56; fail)
    refine (ha _).mono ?_
    rintro e w' ⟨rfl, m, rfl⟩
    go_wp2
    go_ret
    exact ⟨ret_bool (by rw [HE.out, e0]; rfl), _, rfl⟩

set_option maxHeartbeats 400000 in
theorem wordB_r (h : At w b v out xs l) (fx : Fine xs) (i : Nat) (j : Int) (hj : j = i) (hi : i ≤ 100000) (n : Nat) :
    Calls Tryz.prog 95 #[.pointer (some ⟨b, 0, none⟩), .int .i64 j] (w.drewN n) fun e w' => e = .returned (.bool (wordB (l.drop i))) ∧ ∃ m, w' = w.drewN m := by
  subst hj
  have ha := fun m => ahead_r h fx i i rfl (by omega) m
  have hb := fun m => escB_r h fx i i rfl (by omega) m
  have HE : Hid (wordB (l.drop i) = (startZ (hd l i) || escB (l.drop i))) := by show wordB (l.drop i) = _; simp only [wordB, hd_drop]; rfl
  clear h fx
  generalize hd l i = c0 at ha HE
  generalize escB (l.drop i) = c1 at hb HE
  cases h0 : startZ c0
  · go_enter Tryz.func95, Tryz.ntmps95
    go_wp2_with (go_at_call 56; fail)
    refine (ha _).mono ?_
    rintro e w' ⟨rfl, m, rfl⟩
    go_wp2_with (go_at_call 94; fail)
    refine (start_any _ _).mono ?_
    rintro e w' ⟨rfl, rfl⟩
    go_wp2_with (go_at_call 63; fail)
    refine (hb _).mono ?_
    rintro e w' ⟨rfl, m, rfl⟩
    go_wp2
    go_ret
    exact ⟨ret_bool (by rw [HE.out, h0]; simp), _, rfl⟩
  · go_enter Tryz.func95, Tryz.ntmps95
    go_wp2_with (go_at_call 56; fail)
    refine (ha _).mono ?_
    rintro e w' ⟨rfl, m, rfl⟩
    go_wp2_with (go_at_call 94; fail)
    refine (start_any _ _).mono ?_
    rintro e w' ⟨rfl, rfl⟩
    go_wp2
    go_ret
    exact ⟨ret_bool (by rw [HE.out, h0]; simp), _, rfl⟩

set_option maxHeartbeats 400000 in
theorem nameB_r (h : At w b v out xs l) (fx : Fine xs) (i : Nat) (j : Int) (hj : j = i) (hi : i ≤ 10000) (n : Nat) :
    Calls Tryz.prog 64 #[.pointer (some ⟨b, 0, none⟩), .int .i64 j] (w.drewN n) fun e w' => e = .returned (.bool (nameB (l.drop i))) ∧ ∃ m, w' = w.drewN m := by
  subst hj
  have ha := fun m => ahead_r h fx i i rfl (by omega) m
  have hb := fun m => ahead_r h fx (i + 1) (i + 1) (by omega) (by omega) m
  have hc := fun m => wordB_r h fx i i rfl (by omega) m
  have hd' := fun m => wordB_r h fx (i + 1) (i + 1) (by omega) (by omega) m
  have HE : Hid (nameB (l.drop i) = if hd l i == 45 then (hd l (i + 1) == 45 || wordB (l.drop (i + 1))) else wordB (l.drop i)) := by
    show nameB (l.drop i) = _; simp only [nameB, hd_drop, List.drop_drop]; rfl
  clear h fx
  generalize hd l i = c0 at ha HE
  generalize hd l (i + 1) = c1 at hb HE
  generalize wordB (l.drop i) = x0 at hc HE
  generalize wordB (l.drop (i + 1)) = x1 at hd' HE
  by_cases h0 : c0 = 45
  · subst h0
    by_cases h1 : c1 = 45
    · subst h1
      go_enter Tryz.func64, Tryz.ntmps64
      go_wp2_with (go_at_call 56; fail)
      refine (ha _).mono ?_
      rintro e w' ⟨rfl, m, rfl⟩
      go_wp2_with (go_at_call 56; fail)
      refine (hb _).mono ?_
      rintro e w' ⟨rfl, m, rfl⟩
      go_wp2
      go_ret
      exact ⟨ret_bool (by rw [HE.out]; simp), _, rfl⟩
    · have e1 : (c1 == 45) = false := by simpa using h1
      go_enter Tryz.func64, Tryz.ntmps64
      go_wp2_with (go_at_call 56; fail)
      refine (ha _).mono ?_
      rintro e w' ⟨rfl, m, rfl⟩
      go_wp2_with (go_at_call 56; fail)
      refine (hb _).mono ?_
      rintro e w' ⟨rfl, m, rfl⟩
      go_wp2_with (go_at_call 95; fail)
      refine (hd' _).mono ?_
      rintro e w' ⟨rfl, m, rfl⟩
      go_wp2
      go_ret
      exact ⟨ret_bool (by rw [HE.out, e1]; simp), _, rfl⟩
  · have e0 : (c0 == 45) = false := by simpa using h0
    go_enter Tryz.func64, Tryz.ntmps64
    go_wp2_with (go_at_call 56; fail)
    refine (ha _).mono ?_
    rintro e w' ⟨rfl, m, rfl⟩
    go_wp2_with (go_at_call 95; fail)
    refine (hc _).mono ?_
    rintro e w' ⟨rfl, m, rfl⟩
    go_wp2
    go_ret
    exact ⟨ret_bool (by rw [HE.out, e0]; rfl), _, rfl⟩

set_option maxHeartbeats 400000 in
theorem signB_r (h : At w b v out xs l) (fx : Fine xs) (i : Nat) (j : Int) (hj : j = i) (hi : i ≤ 100000) (n : Nat) :
    Calls Tryz.prog 96 #[.pointer (some ⟨b, 0, none⟩), .int .i64 j] (w.drewN n) fun e w' => e = .returned (.bool (signB (l.drop i))) ∧ ∃ m, w' = w.drewN m := by
  subst hj
  have ha := fun m => ahead_r h fx i i rfl (by omega) m
  have HE : Hid (signB (l.drop i) = (hd l i == 43 || hd l i == 45)) := by show signB (l.drop i) = _; simp only [signB, hd_drop]; rfl
  clear h fx
  generalize hd l i = c0 at ha HE
  by_cases h0 : c0 = 43
  · subst h0
    go_enter Tryz.func96, Tryz.ntmps96
    go_wp2_with (go_at_call 56; fail)
    refine (ha _).mono ?_
    rintro e w' ⟨rfl, m, rfl⟩
    go_wp2
    go_ret
    exact ⟨ret_bool (by rw [HE.out]; simp), _, rfl⟩
  · have e0 : (c0 == 43) = false := by simpa using h0
    go_enter Tryz.func96, Tryz.ntmps96
    go_wp2_with (go_at_call 56; fail)
    refine (ha _).mono ?_
    rintro e w' ⟨rfl, m, rfl⟩
    go_wp2_with (go_at_call 56; fail)
    refine (ha _).mono ?_
    rintro e w' ⟨rfl, m, rfl⟩
    go_wp2
    go_ret
    exact ⟨ret_bool (by rw [HE.out, e0]; simp), _, rfl⟩

set_option maxHeartbeats 400000 in
theorem dotB_r (h : At w b v out xs l) (fx : Fine xs) (i : Nat) (j : Int) (hj : j = i) (hi : i ≤ 100000) (n : Nat) :
    Calls Tryz.prog 97 #[.pointer (some ⟨b, 0, none⟩), .int .i64 j] (w.drewN n) fun e w' => e = .returned (.bool (dotB (l.drop i))) ∧ ∃ m, w' = w.drewN m := by
  subst hj
  have ha := fun m => ahead_r h fx i i rfl (by omega) m
  have hb := fun m => ahead_r h fx (i + 1) (i + 1) (by omega) (by omega) m
  have HE : Hid (dotB (l.drop i) = (hd l i == 46 && digitZ (hd l (i + 1)))) := by show dotB (l.drop i) = _; simp only [dotB, hd_drop]; rfl
  clear h fx
  generalize hd l i = c0 at ha HE
  generalize hd l (i + 1) = c1 at hb HE
  by_cases h0 : c0 = 46
  · subst h0
    go_enter Tryz.func97, Tryz.ntmps97
    go_wp2_with (go_at_call 56; fail)
    refine (ha _).mono ?_
    rintro e w' ⟨rfl, m, rfl⟩
    go_wp2_with (go_at_call 56; fail)
    refine (hb _).mono ?_
    rintro e w' ⟨rfl, m, rfl⟩
    go_wp2_with (go_at_call 37; fail)
    refine (digit_any _ _).mono ?_
    rintro e w' ⟨rfl, rfl⟩
    go_wp2
    go_ret
    exact ⟨ret_bool (by rw [HE.out]; simp), _, rfl⟩
  · have e0 : (c0 == 46) = false := by simpa using h0
    go_enter Tryz.func97, Tryz.ntmps97
    go_wp2_with (go_at_call 56; fail)
    refine (ha _).mono ?_
    rintro e w' ⟨rfl, m, rfl⟩
    go_wp2
    go_ret
    exact ⟨ret_bool (by rw [HE.out, e0]; rfl), _, rfl⟩

set_option maxHeartbeats 400000 in
theorem numB_r (h : At w b v out xs l) (fx : Fine xs) (n : Nat) :
    Calls Tryz.prog 66 #[.pointer (some ⟨b, 0, none⟩)] (w.drewN n) fun e w' => e = .returned (.bool (numB l)) ∧ ∃ m, w' = w.drewN m := by
  have hs := fun m => signB_r h fx 0 0 rfl (by omega) m
  have a0 := fun m => ahead_r h fx 0 0 rfl (by omega) m
  have a1 := fun m => ahead_r h fx 1 1 rfl (by omega) m
  have d0 := fun m => dotB_r h fx 0 0 rfl (by omega) m
  have d1 := fun m => dotB_r h fx 1 1 rfl (by omega) m
  have HE : Hid (numB l = if signB l then (digitZ (hd l 1) || dotB (l.drop 1)) else (digitZ (hd l 0) || dotB l)) := by
    show numB l = _
    unfold numB unsignZ
    split
    · rw [hd_drop]
    · rfl
  simp only [List.drop_zero] at hs d0
  clear h fx
  generalize hd l 0 = c0 at a0 HE
  generalize hd l 1 = c1 at a1 HE
  generalize dotB l = x0 at d0 HE
  generalize dotB (l.drop 1) = x1 at d1 HE
  cases hsg : signB l
  · rw [hsg] at hs
    cases h0 : digitZ c0
    · go_enter Tryz.func66, Tryz.ntmps66
      go_wp2_with (go_at_call 96; fail)
      refine (hs _).mono ?_
      rintro e w' ⟨rfl, m, rfl⟩
      go_wp2_with (go_at_call 56; fail)
      refine (a0 _).mono ?_
      rintro e w' ⟨rfl, m, rfl⟩
      go_wp2_with (go_at_call 37; fail)
      refine (digit_any _ _).mono ?_
      rintro e w' ⟨rfl, rfl⟩
      go_wp2_with (go_at_call 97; fail)
      refine (d0 _).mono ?_
      rintro e w' ⟨rfl, m, rfl⟩
      go_wp2
      go_ret
      exact ⟨ret_bool (by rw [HE.out, hsg, h0]; simp), _, rfl⟩
    · go_enter Tryz.func66, Tryz.ntmps66
      go_wp2_with (go_at_call 96; fail)
      refine (hs _).mono ?_
      rintro e w' ⟨rfl, m, rfl⟩
      go_wp2_with (go_at_call 56; fail)
      refine (a0 _).mono ?_
      rintro e w' ⟨rfl, m, rfl⟩
      go_wp2_with (go_at_call 37; fail)
      refine (digit_any _ _).mono ?_
      rintro e w' ⟨rfl, rfl⟩
      go_wp2
      go_ret
      exact ⟨ret_bool (by rw [HE.out, hsg, h0]; simp), _, rfl⟩
  · rw [hsg] at hs
    cases h0 : digitZ c1
    · go_enter Tryz.func66, Tryz.ntmps66
      go_wp2_with (go_at_call 96; fail)
      refine (hs _).mono ?_
      rintro e w' ⟨rfl, m, rfl⟩
      go_wp2_with (go_at_call 56; fail)
      refine (a1 _).mono ?_
      rintro e w' ⟨rfl, m, rfl⟩
      go_wp2_with (go_at_call 37; fail)
      refine (digit_any _ _).mono ?_
      rintro e w' ⟨rfl, rfl⟩
      go_wp2_with (go_at_call 97; fail)
      refine (d1 _).mono ?_
      rintro e w' ⟨rfl, m, rfl⟩
      go_wp2
      go_ret
      exact ⟨ret_bool (by rw [HE.out, hsg, h0]; simp), _, rfl⟩
    · go_enter Tryz.func66, Tryz.ntmps66
      go_wp2_with (go_at_call 96; fail)
      refine (hs _).mono ?_
      rintro e w' ⟨rfl, m, rfl⟩
      go_wp2_with (go_at_call 56; fail)
      refine (a1 _).mono ?_
      rintro e w' ⟨rfl, m, rfl⟩
      go_wp2_with (go_at_call 37; fail)
      refine (digit_any _ _).mono ?_
      rintro e w' ⟨rfl, rfl⟩
      go_wp2
      go_ret
      exact ⟨ret_bool (by rw [HE.out, hsg, h0]; simp), _, rfl⟩
end
end Go.Proofs.YtbfgnfcecfjlnaaGreatDoor
namespace Go.Proofs.YtbfgnfcecfjlnaaGreatDoor
open Go.RowKit
set_option maxRecDepth 100000

def posOf (w : World) (b : Nat) : Nat := match w.cell? ⟨b, 1, none⟩ with
  | some (.int _ n) => n.toNat
  | _ => 0

section
variable {w : World} {b : Nat} {v out : Value} {xs l : List Int}

theorem at_pos (h : At w b v out xs l) : xs.length - posOf w b = l.length := by
  obtain ⟨p, hb, _, _, hp, rfl⟩ := h
  have : posOf w b = p := by
    unfold posOf
    rw [(cells3 hb).2.1]
    simp
  rw [this]
  simp
theorem ahead_w (h : At w b v out xs l) (fx : Fine xs) (i : Nat) (j : Int) (hj : j = i) (hi : i ≤ 1000000000) :
    Calls Tryz.prog 56 #[.pointer (some ⟨b, 0, none⟩), .int .i64 j] w fun e w' => e = .returned (.int .i32 (hd l i)) ∧ ∃ m, w' = w.drewN m := ahead_r h fx i j hj hi 0
theorem next_r (h : At w b v out xs l) (fx : Fine xs) (c : Int) (t : List Int) (hl : l = c :: t) (n : Nat) :
    Calls Tryz.prog 59 #[.pointer (some ⟨b, 0, none⟩)] (w.drewN n) fun e w' => e = .returned (.int .i32 c) ∧ At w' b v out xs t ∧ Kept b w w' := by
  subst hl
  refine (next_any b v out xs c t _ fx (at_drew h n)).mono ?_
  rintro e w' ⟨rfl, h1, h2⟩
  exact ⟨rfl, h1, (Kept.drewN b w n).trans h2⟩

set_option maxHeartbeats 400000 in
theorem blanks_any (h : At w b v out xs l) (fx : Fine xs) :
    Calls Tryz.prog 57 #[.pointer (some ⟨b, 0, none⟩)] w fun e w' => e = .returned (.tuple #[]) ∧ At w' b v out xs (blanksR l) ∧ Kept b w w' := by
  go_enter Tryz.func57, Tryz.ntmps57
  go_wp2
  go_loopw [] (fun wr => ∃ l', At wr b v out xs l' ∧ blanksR l' = blanksR l ∧ Kept b w wr) (fun wr => xs.length - posOf wr b)
  case atStart => exact ⟨l, h, rfl, Kept.refl b w⟩
  case round =>
    obtain ⟨l', hat, heq, hk⟩ := hrel
    have HP : Hid (xs.length - posOf wr b = l'.length) := at_pos hat
    have ha := ahead_w hat fx 0 0 rfl (by omega)
    have HQ : Hid (blanksR l' = blanksR l) := heq
    clear heq h
    cases l' with
    | nil =>
      have h0 : blankZ (hd [] 0) = false := by decide
      generalize hd [] 0 = c0 at ha h0
      go_wp2_with (go_at_call 56; fail)
      refine (ha).mono ?_
      rintro e w' ⟨rfl, m, rfl⟩
      go_wp2_with (go_at_call 55; fail)
      refine (blank_any _ _).mono ?_
      rintro e w' ⟨rfl, rfl⟩
      go_wp2
      have HA := at_drew hat m
      have e0 : blanksR [] = [] := rfl
      have HQ' := HQ.out
      rw [e0] at HQ'
      rw [HQ'] at HA
      go_end0
      exact ⟨rfl, HA, hk.trans (Kept.drewN b wr m)⟩
    | cons c t =>
      have e0 : hd (c :: t) 0 = c := rfl
      rw [e0] at ha
      cases h0 : blankZ c
      · go_wp2_with (go_at_call 56; fail)
        refine (ha).mono ?_
        rintro e w' ⟨rfl, m, rfl⟩
        go_wp2_with (go_at_call 55; fail)
        refine (blank_any _ _).mono ?_
        rintro e w' ⟨rfl, rfl⟩
        go_wp2
        have HA := at_drew hat m
        have HQ' := HQ.out
        rw [blanksR, if_neg (by simp [h0])] at HQ'
        rw [HQ'] at HA
        go_end0
        exact ⟨rfl, HA, hk.trans (Kept.drewN b wr m)⟩
      · have hn := fun m => next_r hat fx c t rfl m
        go_wp2_with (go_at_call 56; fail)
        refine (ha).mono ?_
        rintro e w' ⟨rfl, m, rfl⟩
        go_wp2_with (go_at_call 55; fail)
        refine (blank_any _ _).mono ?_
        rintro e w' ⟨rfl, rfl⟩
        go_wp2_with (go_at_call 59; fail)
        refine (hn _).mono ?_
        rintro e w2 ⟨rfl, h2, k2⟩
        go_wp2
        go_roundw
        case rel =>
          have HQ' := HQ.out
          rw [blanksR, if_pos h0] at HQ'
          exact ⟨t, h2, HQ', hk.trans k2⟩
        case measure =>
          rw [HP.out, at_pos h2]
          simp

set_option maxHeartbeats 400000 in
theorem digits_any (h : At w b v out xs l) (fx : Fine xs) :
    Calls Tryz.prog 98 #[.pointer (some ⟨b, 0, none⟩)] w fun e w' => e = .returned (.tuple #[]) ∧ At w' b v out xs (digitsR l) ∧ Kept b w w' := by
  go_enter Tryz.func98, Tryz.ntmps98
  go_wp2
  go_loopw [] (fun wr => ∃ l', At wr b v out xs l' ∧ digitsR l' = digitsR l ∧ Kept b w wr) (fun wr => xs.length - posOf wr b)
  case atStart => exact ⟨l, h, rfl, Kept.refl b w⟩
  case round =>
    obtain ⟨l', hat, heq, hk⟩ := hrel
    have HP : Hid (xs.length - posOf wr b = l'.length) := at_pos hat
    have ha := ahead_w hat fx 0 0 rfl (by omega)
    have HQ : Hid (digitsR l' = digitsR l) := heq
    clear heq h
    cases l' with
    | nil =>
      have h0 : digitZ (hd [] 0) = false := by decide
      generalize hd [] 0 = c0 at ha h0
      go_wp2_with (go_at_call 56; fail)
      refine (ha).mono ?_
      rintro e w' ⟨rfl, m, rfl⟩
      go_wp2_with (go_at_call 37; fail)
      refine (digit_any _ _).mono ?_
      rintro e w' ⟨rfl, rfl⟩
      go_wp2
      have HA := at_drew hat m
      have e0 : digitsR [] = [] := rfl
      have HQ' := HQ.out
      rw [e0] at HQ'
      rw [HQ'] at HA
      go_end0
      exact ⟨rfl, HA, hk.trans (Kept.drewN b wr m)⟩
    | cons c t =>
      have e0 : hd (c :: t) 0 = c := rfl
      rw [e0] at ha
      cases h0 : digitZ c
      · go_wp2_with (go_at_call 56; fail)
        refine (ha).mono ?_
        rintro e w' ⟨rfl, m, rfl⟩
        go_wp2_with (go_at_call 37; fail)
        refine (digit_any _ _).mono ?_
        rintro e w' ⟨rfl, rfl⟩
        go_wp2
        have HA := at_drew hat m
        have HQ' := HQ.out
        rw [digitsR, if_neg (by simp [h0])] at HQ'
        rw [HQ'] at HA
        go_end0
        exact ⟨rfl, HA, hk.trans (Kept.drewN b wr m)⟩
      · have hn := fun m => next_r hat fx c t rfl m
        go_wp2_with (go_at_call 56; fail)
        refine (ha).mono ?_
        rintro e w' ⟨rfl, m, rfl⟩
        go_wp2_with (go_at_call 37; fail)
        refine (digit_any _ _).mono ?_
        rintro e w' ⟨rfl, rfl⟩
        go_wp2_with (go_at_call 59; fail)
        refine (hn _).mono ?_
        rintro e w2 ⟨rfl, h2, k2⟩
        go_wp2
        go_roundw
        case rel =>
          have HQ' := HQ.out
          rw [digitsR, if_pos h0] at HQ'
          exact ⟨t, h2, HQ', hk.trans k2⟩
        case measure =>
          rw [HP.out, at_pos h2]
          simp
end
end Go.Proofs.YtbfgnfcecfjlnaaGreatDoor
