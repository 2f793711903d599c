/- light; the document's example. -/
import Derived.Test.YtmpppijgjbfolaaCWi
import Derived.Test.YtmpppijgjbfolaaCOp
namespace Go.Proofs.Ytmpppijgjbfolaa.C
open Go.RowKit
set_option maxRecDepth 100000

set_option maxHeartbeats 2000000 in
theorem light_any {w : World} {a : Option Addr} {c : Nat} {l : List E8} (h : EsAt w a c l) (hz : ∀ z ∈ l, Szd z) : Calls Try.prog 8 #[.slice a l.length c] w fun e w' => (∃ b, e = .returned (.bool b) ∧ (b = true → l.length ≤ 100)) ∧ Below w.heap.size w w' := by
  have HH := hid_mk h
  have HZ := hid_mk hz
  have hcap := h.cap
  clear h hz
  obtain ⟨n, hnl⟩ : ∃ n, n = l.length := ⟨_, rfl⟩
  have HNL := hid_mk hnl
  rw [← hnl] at hcap ⊢
  clear hnl
  go_enter Try.func8, Try.ntmps8
  go_wp2
  go_loopw [3, 8] (fun a3 a8 wr => ∃ i k : Nat, i ≤ n ∧ i ≤ k ∧ k ≤ 100 ∧ a3 = .int .i64 (k : Int) ∧ a8 = .int .i64 (i : Int) ∧ Hid (Below w.heap.size w wr)) (fun _ a8 _ => n + 1 - (intOf a8).toNat)
  case atStart => exact ⟨0, 0, Nat.zero_le _, Nat.zero_le _, by omega, rfl, rfl, Below.refl _ _⟩
  case round =>
    obtain ⟨i, k, hi, hik, hk, rfl, rfl, HB⟩ := hrel
    by_cases hlt : i < n
    · have hd : decide ((i : Int) < (n : Int)) = true := decide_eq_true (by omega)
      have hil : i < l.length := by rw [← HNL.out]; exact hlt
      obtain ⟨b, off, rfl, hb, c0, c1, c2, c3, c4, c5, c6, c7⟩ := (HH.out.keep HB.out).at hil
      obtain ⟨hs1, hs2⟩ := HZ.out _ (List.getElem_mem hil)
      generalize l[i] = x at *
      obtain ⟨xn, xv, xo, xi, xa, xb, xc, xk⟩ := x
      dsimp only at *
      obtain ⟨q, hq⟩ : ∃ q : Nat, q = (xn.size + xv.size) / 100 := ⟨_, rfl⟩
      have e1 : ((xn.size : Int) + (xv.size : Int)).tdiv 100 = (q : Int) := by
        rw [Int.tdiv_eq_ediv_of_nonneg (by omega)]; omega
      have hqb : (q : Int) ≤ 3000000000000 := by omega
      obtain ⟨m, hm⟩ : ∃ m : Nat, m = k + (1 + q) := ⟨_, rfl⟩
      have e2 : ((k : Int) + (1 + (q : Int))) = (m : Int) := by omega
      have hmb : (m : Int) ≤ 3000000000200 := by omega
      have HM : Hid (i + 1 ≤ m) := by show _ ≤ _; omega
      have hbel : Below wr.heap.size wr (wr.alloc (.cells #[.string xn, .string xv, .int .i64 xo, .bool xi, .int .i64 xa, .int .i64 xb, .int .i64 xc, .int .i64 xk] 26)) := (Below.refl _ _).alloc (Nat.le_refl _) _
      have HB1 : Hid (Below w.heap.size w (wr.alloc (.cells #[.string xn, .string xv, .int .i64 xo, .bool xi, .int .i64 xa, .int .i64 xb, .int .i64 xc, .int .i64 xk] 26))) := HB.out.trans (hbel.mono HB.out.size)
      clear hq hm hbel HB
      by_cases hm1 : 100 < m
      · have hd2 : decide ((100 : Int) < (m : Int)) = true := decide_eq_true (by omega)
        go_wp2
        go_ret
        exact ⟨⟨false, rfl, by simp⟩, HB1.out⟩
      · have hd2 : decide ((100 : Int) < (m : Int)) = false := decide_eq_false (by omega)
        go_wp2
        refine ⟨⟨i + 1, m, by omega, HM.out, by omega, by simp, by simp, HB1.out⟩, ?_⟩
        simp only [intOf]
        omega
    · have hd : decide ((i : Int) < (n : Int)) = false := decide_eq_false (by omega)
      go_wp2
      go_ret
      exact ⟨⟨true, rfl, fun _ => by omega⟩, HB.out⟩

def exA : E8 := ⟨⟨#[120]⟩, ⟨#[97]⟩, 3, false, 0, 0, 0, 0⟩
def exB : E8 := ⟨⟨#[120]⟩, ⟨#[98]⟩, 1, true, 0, 0, 0, 0⟩
theorem exWin : winF ([exA, exB].filter (nmd ⟨#[120]⟩)) none = some exB := by kernel_rfl
theorem exLess : lessE ⟨⟨#[]⟩, ⟨#[]⟩, 0, false, 0, 0, 9, 0⟩ ⟨⟨#[]⟩, ⟨#[]⟩, 0, false, 0, 1, 0, 0⟩ = true := by kernel_rfl
set_option maxHeartbeats 2000000 in
theorem lives_any (w : World) : Calls Try.prog 9 #[] w fun e w' => e = .returned (.bool true) ∧ Below w.heap.size w w' := by
  obtain ⟨w1, hw1⟩ : ∃ w1, w1 = w.alloc (.cells #[.string ⟨#[120]⟩, .string ⟨#[97]⟩, .int .i64 3, .bool false, .int .i64 0, .int .i64 0, .int .i64 0, .int .i64 0, .string ⟨#[120]⟩, .string ⟨#[98]⟩, .int .i64 1, .bool true, .int .i64 0, .int .i64 0, .int .i64 0, .int .i64 0] 26) := ⟨_, rfl⟩
  have hb : Below w.heap.size w w1 := by rw [hw1]; exact (Below.refl _ _).alloc (Nat.le_refl _) _
  have hbx : w1.heap[w.heap.size]? = some (.cells #[.string ⟨#[120]⟩, .string ⟨#[97]⟩, .int .i64 3, .bool false, .int .i64 0, .int .i64 0, .int .i64 0, .int .i64 0, .string ⟨#[120]⟩, .string ⟨#[98]⟩, .int .i64 1, .bool true, .int .i64 0, .int .i64 0, .int .i64 0, .int .i64 0] 26 (0, 0)) := by rw [hw1]; exact heap_alloc_last w _
  have hE : EsAt w1 (some ⟨w.heap.size, 0, none⟩) 2 [exA, exB] := EsAt.of ⟨rfl, Nat.le_refl _, by decide, flat8_one _, .inr ⟨w.heap.size, 0, rfl, (Array.getElem?_eq_some_iff.1 hbx).1, fun j u hu => by
    simp only [World.cell?, hbx, Nat.zero_add]
    simpa [c8, exA, exB] using hu⟩⟩
  have hwin := winner_any hE (by decide) ⟨#[120]⟩
  rw [exWin] at hwin
  have hless := fun W => less_any W ⟨⟨#[]⟩, ⟨#[]⟩, 0, false, 0, 0, 9, 0⟩ ⟨⟨#[]⟩, ⟨#[]⟩, 0, false, 0, 1, 0, 0⟩
  rw [exLess] at hless
  have HLS := hid_mk hless
  have HB := hid_mk hb
  have HW := hid_mk hw1
  unfold E8.val exB at hwin
  dsimp only [List.length, Option.getD, Option.isSome] at hwin
  clear hw1 hb hbx hE hless
  go_enter Try.func9, Try.ntmps9
  go_wp2_with (go_at_call 18; fail)
  rw [← HW.out]
  refine hwin.mono ?_
  rintro e w2 ⟨rfl, hb2⟩
  have HB2 : Hid (Below w.heap.size w w2) := HB.out.trans (hb2.mono HB.out.size)
  clear hwin hb2
  go_wp2_with (go_at_call 12; fail)
  refine (HLS.out _).mono ?_
  rintro e w3 ⟨rfl, hb3⟩
  have HB3 : Hid (Below w.heap.size w w3) := (HB2.out.alloc HB2.out.size _).trans (hb3.mono (by
    have := HB2.out.size
    simp
    omega))
  go_wp2
  go_ret
  exact ⟨rfl, HB3.out⟩
end Go.Proofs.Ytmpppijgjbfolaa.C
