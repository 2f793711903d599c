/- How great entries are, plainly; a copy with one more. -/
import Derived.Test.YtmpppijgjbfolaaCOm
namespace Go.Proofs.Ytmpppijgjbfolaa.C
open Go.RowKit
set_option maxRecDepth 100000

def wgt (x : E8) : Nat := 1 + (x.n.size + x.v.size) / 100
def wtL : List E8 → Nat
  | [] => 0
  | x :: r => wgt x + wtL r
theorem wtL_app (a b : List E8) : wtL (a ++ b) = wtL a + wtL b := by
  induction a with
  | nil => simp [wtL]
  | cons x r ih => simp [wtL, ih, Nat.add_assoc]
theorem wtL_take (l : List E8) (i : Nat) : wtL (l.take i) ≤ wtL l := by
  have := wtL_app (l.take i) (l.drop i)
  rw [List.take_append_drop] at this
  omega
theorem wtL_len (l : List E8) : l.length ≤ wtL l := by
  induction l with
  | nil => simp
  | cons x r ih => simp only [List.length_cons, wtL, wgt]; omega
def lightZ (l : List E8) : Bool := decide (wtL l ≤ 100)

set_option maxHeartbeats 2000000 in
theorem light_is {w : World} {a : Option Addr} {c : Nat} {l : List E8} (h : EsAt w a c l) (hz : ∀ z ∈ l, Szd z) : Calls Try.prog 8 #[.slice a l.length c] w fun e w' => e = .returned (.bool (lightZ l)) ∧ Below w.heap.size w w' := by
  have HH := hid_mk h
  have HZ := hid_mk hz
  have hcap := h.cap
  obtain ⟨lz, hlz⟩ : ∃ lz, lz = lightZ l := ⟨_, rfl⟩
  rw [← hlz]
  have HLZ : Hid (lz = decide (wtL l ≤ 100)) := hlz
  clear h hz hlz
  obtain ⟨n, hnl⟩ : ∃ n, n = l.length := ⟨_, rfl⟩
  have HNL := hid_mk hnl
  rw [← hnl] at hcap ⊢
  clear hnl
  go_enter Try.func8, Try.ntmps8
  go_wp2
  go_loopw [3, 8] (fun a3 a8 wr => ∃ i k : Nat, i ≤ n ∧ k ≤ 100 ∧ a3 = .int .i64 (k : Int) ∧ a8 = .int .i64 (i : Int) ∧ Hid (k = wtL (l.take i) ∧ Below w.heap.size w wr)) (fun _ a8 _ => n + 1 - (intOf a8).toNat)
  case atStart => exact ⟨0, 0, Nat.zero_le _, by omega, rfl, rfl, rfl, Below.refl _ _⟩
  case round =>
    obtain ⟨i, k, hi, hk, rfl, rfl, HB⟩ := hrel
    by_cases hlt : i < n
    · have hd : decide ((i : Int) < (n : Int)) = true := decide_eq_true (by omega)
      have hil : i < l.length := by rw [← HNL.out]; exact hlt
      obtain ⟨b, off, rfl, hb, c0, c1, c2, c3, c4, c5, c6, c7⟩ := (HH.out.keep HB.out.2).at hil
      obtain ⟨hs1, hs2⟩ := HZ.out _ (List.getElem_mem hil)
      obtain ⟨m, hm⟩ : ∃ m : Nat, m = wtL (l.take (i + 1)) := ⟨_, rfl⟩
      have hm2 : m = k + wgt l[i] := by
        rw [hm, ← List.take_append_getElem hil, wtL_app, ← HB.out.1]
        simp [wtL]
      have hml : m ≤ wtL l := by rw [hm]; exact wtL_take _ _
      unfold wgt at hm2
      generalize l[i] = x at *
      obtain ⟨xn, xv, xo, xi, xa, xb, xc, xk⟩ := x
      dsimp only at *
      obtain ⟨q, hq⟩ : ∃ q : Nat, q = (xn.size + xv.size) / 100 := ⟨_, rfl⟩
      have e1 : ((xn.size : Int) + (xv.size : Int)).tdiv 100 = (q : Int) := by
        rw [Int.tdiv_eq_ediv_of_nonneg (by omega)]; omega
      have hqb : (q : Int) ≤ 3000000000000 := by omega
      have e2 : ((k : Int) + (1 + (q : Int))) = (m : Int) := by omega
      have hmb : (m : Int) ≤ 3000000000200 := by omega
      have hbel : Below wr.heap.size wr (wr.alloc (.cells #[.string xn, .string xv, .int .i64 xo, .bool xi, .int .i64 xa, .int .i64 xb, .int .i64 xc, .int .i64 xk] 26)) := (Below.refl _ _).alloc (Nat.le_refl _) _
      have HB1 : Hid (m = wtL (l.take (i + 1)) ∧ Below w.heap.size w (wr.alloc (.cells #[.string xn, .string xv, .int .i64 xo, .bool xi, .int .i64 xa, .int .i64 xb, .int .i64 xc, .int .i64 xk] 26))) := ⟨hm, HB.out.2.trans (hbel.mono HB.out.2.size)⟩
      have HML : Hid (m ≤ wtL l) := hml
      clear hq hm hbel HB hm2 hml
      by_cases hm1 : 100 < m
      · have hd2 : decide ((100 : Int) < (m : Int)) = true := decide_eq_true (by omega)
        have HR : Hid (lz = false) := by
          rw [Hid, HLZ.out]
          have := HML.out
          simp
          omega
        go_wp2
        go_ret
        exact ⟨by rw [HR.out]; rfl, HB1.out.2⟩
      · have hd2 : decide ((100 : Int) < (m : Int)) = false := decide_eq_false (by omega)
        go_wp2
        refine ⟨⟨i + 1, m, by omega, by omega, by simp, by simp, HB1.out⟩, ?_⟩
        simp only [intOf]
        omega
    · have hd : decide ((i : Int) < (n : Int)) = false := decide_eq_false (by omega)
      have HR : Hid (lz = true) := by
        rw [Hid, HLZ.out]
        have h1 := HB.out.1
        rw [show i = l.length by rw [← HNL.out]; omega, List.take_length] at h1
        simp
        omega
      have HB2 : Hid (Below w.heap.size w wr) := HB.out.2
      go_wp2
      go_ret
      exact ⟨by rw [HR.out]; rfl, HB2.out⟩
theorem run_append_none (w : World) (ty : TypeId) (g c : Nat) : (Builtin.append_ #[22, 22] ty #[.slice (some ⟨g, 0, none⟩) 0 0, .slice none 0 c]).run Try.prog w = .ok (.slice (some ⟨g, 0, none⟩) 0 0) w := by
  obtain ⟨i0, hi, _⟩ := info_parts Try.info26s
  simp [Builtin.append_, run_underlying Try.underlying22, sizeOf, typeInfo, hi, Builtin.lenOf, Builtin.firstCells, storeCells]
theorem grown_self (w : World) (r : Option Nat) : w.grownBy w r := by
  exact ⟨rfl, rfl, rfl, Nat.le_refl _, fun _ _ _ => rfl⟩
end Go.Proofs.Ytmpppijgjbfolaa.C
