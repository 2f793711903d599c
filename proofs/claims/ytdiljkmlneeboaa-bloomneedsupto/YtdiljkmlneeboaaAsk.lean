/- What a selector asks of those above: the example's. -/
import Derived.Test.YtdiljkmlneeboaaSrt
namespace Go.Proofs.Ytdiljkmlneeboaa
open Go.RowKit
set_option maxRecDepth 100000

/-- All blocks but one are as they were. -/
structure KeepX (b : Nat) (w w' : World) : Prop where
  os : w'.os = w.os
  tape : w'.tape = w.tape
  output : w'.output = w.output
  size : w.heap.size ≤ w'.heap.size
  block : ∀ k, k < w.heap.size → k ≠ b → w'.heap[k]? = w.heap[k]?
theorem KeepX.of {b : Nat} {w w' : World} (h : Below w.heap.size w w') : KeepX b w w' := ⟨h.os, h.tape, h.output, h.size, fun k hk _ => h.block k hk⟩
theorem KeepX.trans {b : Nat} {w w1 w2 : World} (h : KeepX b w w1) (k : KeepX b w1 w2) : KeepX b w w2 :=
  ⟨k.os.trans h.os, k.tape.trans h.tape, k.output.trans h.output, Nat.le_trans h.size k.size, fun j hj hn => (k.block j (Nat.lt_of_lt_of_le hj h.size) hn).trans (h.block j hj hn)⟩
theorem KeepX.below {b B : Nat} {w w' : World} (h : KeepX b w w') (hb : B ≤ b) (hB : B ≤ w.heap.size) : Below B w w' :=
  ⟨h.os, h.tape, h.output, h.size, fun k hk => h.block k (Nat.lt_of_lt_of_le hk hB) (by omega)⟩
def sv (nm : ByteArray) : Array Value := #[.int .i64 1, .string nm, .int .i64 0, .string ⟨#[]⟩, .int .i64 0, .int .i64 0, .slice none 0 0]
def SAt (w : World) (b : Nat) (nm : ByteArray) : Prop := w.heap[b]? = some (.cells #[.int .i64 1, .string nm, .int .i64 0, .string ⟨#[]⟩, .int .i64 0, .int .i64 0, .slice none 0 0] 47 (0, 0))
theorem SAt.cells {w : World} {b : Nat} {nm : ByteArray} (h : SAt w b nm) : (w.cell? ⟨b, 0, none⟩ = some (.int .i64 1) ∧ w.cell? ⟨b, 1, none⟩ = some (.string nm) ∧ w.cell? ⟨b, 2, none⟩ = some (.int .i64 0) ∧ w.cell? ⟨b, 3, none⟩ = some (.string ⟨#[]⟩) ∧ w.cell? ⟨b, 4, none⟩ = some (.int .i64 0) ∧ w.cell? ⟨b, 5, none⟩ = some (.int .i64 0) ∧ w.cell? ⟨b, 6, none⟩ = some (.slice none 0 0)) := by
  unfold SAt at h
  refine ⟨?_, ?_, ?_, ?_, ?_, ?_, ?_⟩ <;> simp [World.cell?, h]
theorem cellAt {w : World} {b : Nat} {cs : Array Value} {t : TypeId} {fr : Nat × Nat} (h : w.heap[b]? = some (.cells cs t fr)) (i : Nat) : w.cell? ⟨b, i, none⟩ = cs[i]? := by
  simp [World.cell?, h]

set_option maxHeartbeats 1000000 in
theorem keyed_a (w : World) : Calls Try.prog 30 #[.agg #[.int .i64 1, .string ⟨#[97]⟩, .int .i64 0, .string ⟨#[]⟩, .int .i64 0, .int .i64 0, .slice none 0 0]] w fun e w' => e = .returned (.bool true) ∧ Below w.heap.size w w' := by
  have HB : Hid (∀ o, Below w.heap.size w (w.alloc o)) := fun o => (Below.refl _ _).alloc (Nat.le_refl _) _
  go_enter Try.func30, Try.ntmps30
  go_wp2
  go_ret
  exact ⟨rfl, HB.out _⟩

def kA : Nat := keyN 1 ⟨#[97]⟩
theorem kA_lt : kA < 4294967296 := keyAt_lt (by decide) _ _
theorem key_a (w : World) : Calls Try.prog 7 #[.int .i64 1, .string ⟨#[97]⟩] w fun e w' => e = .returned (.int .u32 (kA : Nat)) ∧ w' = w := key_any 1 ⟨#[97]⟩ (by decide) w
theorem rkey_a (w : World) : Calls Try.prog 9 #[.int .i64 1, .string ⟨#[97]⟩] w fun e w' => e = .returned (.int .u32 (kA : Nat)) ∧ Below w.heap.size w w' := rkey_any 1 ⟨#[97]⟩ (by decide) w


set_option maxHeartbeats 2000000 in
theorem asks_26 {w : World} {P C A b : Nat} {v1 v2 : Value} (hP : w.heap[P]? = some (.cells #[.slice (some ⟨A, 0, none⟩) 1 1, v1, v2] 48 (0, 0))) (hC : w.heap[C]? = some (.cells #[.int .i64 2, .int .i64 3] 3 (0, 0))) (hA : SAt w A ⟨#[97]⟩) (hb : b ≠ C) {Q : World → Prop}
    (HT : Hid (∀ w', Below w.heap.size w w' → Calls Try.prog 26 #[.int .u32 (kA : Nat), .pointer (some ⟨b, 0, none⟩)] w' fun e w'' => e = .returned (.tuple #[]) ∧ Q w'' ∧ KeepX b w' w'')) :
    Calls Try.prog 24 #[.agg #[.slice (some ⟨P, 0, none⟩) 3 3, .slice (some ⟨C, 0, none⟩) 2 2], .func (.func 26) #[] #[.pointer (some ⟨b, 0, none⟩)]] w fun e w' => e = .returned (.tuple #[]) ∧ Q w' ∧ KeepX b w w' := by
  have hlC : C < w.heap.size := (Array.getElem?_eq_some_iff.1 hC).1
  have hlP : P < w.heap.size := (Array.getElem?_eq_some_iff.1 hP).1
  have hlA : A < w.heap.size := (Array.getElem?_eq_some_iff.1 hA).1
  have c0 : w.cell? ⟨C, 0, none⟩ = some (.int .i64 2) := cellAt hC 0
  have p0 : w.cell? ⟨P, 0, none⟩ = some (.slice (some ⟨A, 0, none⟩) 1 1) := cellAt hP 0
  obtain ⟨a0, a1, a2, a3, a4, a5, a6⟩ := hA.cells
  have HC := hid_mk hC
  have HKX := hid_mk hb
  have hk := keyed_a
  have hky := key_a
  clear hC hP hA hb
  go_enter Try.func24, Try.ntmps24
  go_wp2
  refine wp_loop_rounds 3 ?_
  rw [rounds_succ]
  go_wp2
  refine wp_loop_rounds 2 ?_
  rw [rounds_succ]
  go_wp2_with (go_at_call 30; fail)
  refine (hk _).mono ?_
  rintro e w1 ⟨rfl, hB1⟩
  obtain ⟨wa, hwa⟩ : ∃ wa, wa = w.alloc (.cells #[.slice (some ⟨P, 0, none⟩) 3 3, .slice (some ⟨C, 0, none⟩) 2 2] 36) := ⟨_, rfl⟩
  have hsz : wa.heap.size = w.heap.size + 1 := by rw [hwa]; simp
  rw [← hwa] at hB1
  have hBa : Below w.heap.size w wa := by rw [hwa]; exact (Below.refl _ _).alloc (Nat.le_refl _) _
  have hS1 : SAt w1 (w.heap.size + 1) ⟨#[97]⟩ := (hB1.block _ (by simp; omega)).trans (by rw [← hsz]; exact heap_alloc_last wa _)
  have HB1 : Hid (Below w.heap.size w w1) := hBa.trans ((hBa.alloc hBa.size _ : Below w.heap.size w _).trans (hB1.mono (by simp; omega)) |> fun h => ⟨hB1.os, hB1.tape, hB1.output, by have := hB1.size; simp at this; omega, fun k hk => hB1.block k (by simp; omega) |>.trans (Below.heap_alloc _ _ _ (by omega))⟩)
  obtain ⟨s0, s1, s2, s3, s4, s5, s6⟩ := hS1.cells
  clear hB1 hS1 hk hwa hBa hsz a0 a1 a2 a3 a4 a5 a6 p0 c0
  go_wp2_with (go_at_call 7; fail)
  refine (hky _).mono ?_
  rintro e w2 ⟨rfl, rfl⟩
  clear hky
  have ht := HT.out w2 HB1.out
  clear HT s0 s1 s2 s3 s4 s5 s6
  go_wp2_with (go_at_call 26; fail)
  refine ht.mono ?_
  rintro e w3 ⟨rfl, hQ, hX⟩
  have HQ := hid_mk hQ
  have HX := hid_mk ((KeepX.of (b := b) HB1.out).trans hX)
  have hC3 : w3.heap[C]? = some (.cells #[.int .i64 2, .int .i64 3] 3 (0, 0)) := (HX.out.block C hlC HKX.out.symm).trans HC.out
  have c1 : w3.cell? ⟨C, 1, none⟩ = some (.int .i64 3) := cellAt hC3 1
  clear ht hQ hX hC3 HC
  go_wp2
  rw [rounds_succ]
  go_wp2
  rw [rounds_succ]
  go_wp2
  rw [rounds_succ]
  go_wp2
  exact bodyPost_end (v := .tuple #[]) (by simp [results, Try.results24, go_sem]) rfl ⟨rfl, HQ.out, HX.out⟩

set_option maxHeartbeats 2000000 in
theorem asks_27 {w : World} {P C A b : Nat} {v1 v2 : Value} (hP : w.heap[P]? = some (.cells #[.slice (some ⟨A, 0, none⟩) 1 1, v1, v2] 48 (0, 0))) (hC : w.heap[C]? = some (.cells #[.int .i64 2, .int .i64 3] 3 (0, 0))) (hA : SAt w A ⟨#[97]⟩) (hb : b ≠ C) {Q : World → Prop}
    (HT : Hid (∀ w', Below w.heap.size w w' → Calls Try.prog 27 #[.int .u32 (kA : Nat), .pointer (some ⟨b, 0, none⟩)] w' fun e w'' => e = .returned (.tuple #[]) ∧ Q w'' ∧ KeepX b w' w'')) :
    Calls Try.prog 24 #[.agg #[.slice (some ⟨P, 0, none⟩) 3 3, .slice (some ⟨C, 0, none⟩) 2 2], .func (.func 27) #[] #[.pointer (some ⟨b, 0, none⟩)]] w fun e w' => e = .returned (.tuple #[]) ∧ Q w' ∧ KeepX b w w' := by
  have hlC : C < w.heap.size := (Array.getElem?_eq_some_iff.1 hC).1
  have hlP : P < w.heap.size := (Array.getElem?_eq_some_iff.1 hP).1
  have hlA : A < w.heap.size := (Array.getElem?_eq_some_iff.1 hA).1
  have c0 : w.cell? ⟨C, 0, none⟩ = some (.int .i64 2) := cellAt hC 0
  have p0 : w.cell? ⟨P, 0, none⟩ = some (.slice (some ⟨A, 0, none⟩) 1 1) := cellAt hP 0
  obtain ⟨a0, a1, a2, a3, a4, a5, a6⟩ := hA.cells
  have HC := hid_mk hC
  have HKX := hid_mk hb
  have hk := keyed_a
  have hky := key_a
  clear hC hP hA hb
  go_enter Try.func24, Try.ntmps24
  go_wp2
  refine wp_loop_rounds 3 ?_
  rw [rounds_succ]
  go_wp2
  refine wp_loop_rounds 2 ?_
  rw [rounds_succ]
  go_wp2_with (go_at_call 30; fail)
  refine (hk _).mono ?_
  rintro e w1 ⟨rfl, hB1⟩
  obtain ⟨wa, hwa⟩ : ∃ wa, wa = w.alloc (.cells #[.slice (some ⟨P, 0, none⟩) 3 3, .slice (some ⟨C, 0, none⟩) 2 2] 36) := ⟨_, rfl⟩
  have hsz : wa.heap.size = w.heap.size + 1 := by rw [hwa]; simp
  rw [← hwa] at hB1
  have hBa : Below w.heap.size w wa := by rw [hwa]; exact (Below.refl _ _).alloc (Nat.le_refl _) _
  have hS1 : SAt w1 (w.heap.size + 1) ⟨#[97]⟩ := (hB1.block _ (by simp; omega)).trans (by rw [← hsz]; exact heap_alloc_last wa _)
  have HB1 : Hid (Below w.heap.size w w1) := hBa.trans ((hBa.alloc hBa.size _ : Below w.heap.size w _).trans (hB1.mono (by simp; omega)) |> fun h => ⟨hB1.os, hB1.tape, hB1.output, by have := hB1.size; simp at this; omega, fun k hk => hB1.block k (by simp; omega) |>.trans (Below.heap_alloc _ _ _ (by omega))⟩)
  obtain ⟨s0, s1, s2, s3, s4, s5, s6⟩ := hS1.cells
  clear hB1 hS1 hk hwa hBa hsz a0 a1 a2 a3 a4 a5 a6 p0 c0
  go_wp2_with (go_at_call 7; fail)
  refine (hky _).mono ?_
  rintro e w2 ⟨rfl, rfl⟩
  clear hky
  have ht := HT.out w2 HB1.out
  clear HT s0 s1 s2 s3 s4 s5 s6
  go_wp2_with (go_at_call 27; fail)
  refine ht.mono ?_
  rintro e w3 ⟨rfl, hQ, hX⟩
  have HQ := hid_mk hQ
  have HX := hid_mk ((KeepX.of (b := b) HB1.out).trans hX)
  have hC3 : w3.heap[C]? = some (.cells #[.int .i64 2, .int .i64 3] 3 (0, 0)) := (HX.out.block C hlC HKX.out.symm).trans HC.out
  have c1 : w3.cell? ⟨C, 1, none⟩ = some (.int .i64 3) := cellAt hC3 1
  clear ht hQ hX hC3 HC
  go_wp2
  rw [rounds_succ]
  go_wp2
  rw [rounds_succ]
  go_wp2
  rw [rounds_succ]
  go_wp2
  exact bodyPost_end (v := .tuple #[]) (by simp [results, Try.results24, go_sem]) rfl ⟨rfl, HQ.out, HX.out⟩

end Go.Proofs.Ytdiljkmlneeboaa
