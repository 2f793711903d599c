/- Acts that came in; light. -/
import Derived.Test.YtnmpakjklbamiaaSame
namespace Go.Proofs.Ytnmpakjklbamiaa
open Go.RowKit
set_option maxRecDepth 100000

structure Act3 where
  d : Bool
  n : Int
  s : ByteArray
/-- The slice holds the acts. -/
def ActsAt (W : World) (v : Value) (xs : List Act3) : Prop :=
  ∃ a cap, v = .slice a xs.length cap ∧ xs.length ≤ cap ∧ cap ≤ 9223372036854775807 ∧ (0 < xs.length → ∃ b off, a = some ⟨b, off, none⟩ ∧ b < W.heap.size ∧ ∀ i (h : i < xs.length), W.cell? ⟨b, off + i * 3, none⟩ = some (.bool (xs[i]'h).d) ∧ W.cell? ⟨b, off + i * 3 + 1, none⟩ = some (.int .i64 (xs[i]'h).n) ∧ W.cell? ⟨b, off + i * 3 + 2, none⟩ = some (.string (xs[i]'h).s) ∧ (xs[i]'h).s.size ≤ maxLen)
set_option maxHeartbeats 800000 in
theorem light_any {W : World} {v : Value} {xs : List Act3} (hp : ActsAt W v xs) : Calls Try.prog 8 #[v] W fun e w' => ∃ b, e = .returned (.bool b) ∧ Below W.heap.size W w' := by
  obtain ⟨a, cap, rfl, hcap, hmax, hx⟩ := hp
  have HX := hid_mk hx
  clear hx
  go_enter Try.func8, Try.ntmps8
  go_wp2
  go_loopw [3, 8] (fun a3 a8 wr => ∃ (i : Nat) (c : Nat), i ≤ xs.length ∧ a8 = .int .i64 (i : Int) ∧ a3 = .int .i64 (c : Int) ∧ c ≤ 150 ∧ Below W.heap.size W wr) (fun _ a8 _ => xs.length + 1 - (intOf a8).toNat)
  case atStart => exact ⟨0, 0, Nat.zero_le _, rfl, rfl, by omega, Below.refl _ _⟩
  case round =>
    obtain ⟨i, c, hi, rfl, rfl, hc150, hB⟩ := hrel
    have HB := hid_mk hB
    clear hB
    by_cases hlt : i < xs.length
    · obtain ⟨b, off, rfl, hblt, hc⟩ := HX.out (by omega)
      obtain ⟨h0, h1, h2, hsz⟩ := hc i hlt
      have c0 := (HB.out.cell (p := ⟨b, off + i * 3, none⟩) hblt).trans h0
      have c1 := (HB.out.cell (p := ⟨b, off + i * 3 + 1, none⟩) hblt).trans h1
      have c2 := (HB.out.cell (p := ⟨b, off + i * 3 + 2, none⟩) hblt).trans h2
      have hal : ∀ o, Below wr.heap.size wr (wr.alloc o) := fun o => (Below.refl _ wr).alloc (Nat.le_refl _) o
      have hsz2 : (xs[i].s.size : Int) ≤ 9223372036854775807 := by have : xs[i].s.size ≤ 9223372036854775807 := Nat.le_trans hsz (by decide); omega
      clear h0 h1 h2 hc HX hsz
      generalize xs[i].d = d at *
      generalize xs[i].n = n at *
      generalize xs[i].s = s at *
      have hq0 : 0 ≤ (s.size : Int) / 50 := by omega
      have hq1 : (s.size : Int) / 50 ≤ 184467440737095516 := by omega
      by_cases hbig : 150 < (c : Int) + (1 + (s.size : Int) / 50)
      · go_wp2
        go_ret
        exact ⟨false, rfl, HB.out.trans ((hal _).mono HB.out.size)⟩
      · go_wp2
        exact ⟨⟨i + 1, (c + (1 + s.size / 50)), by omega, rfl, congrArg (Value.int .i64) (by omega), by omega, HB.out.trans ((hal _).mono HB.out.size)⟩, by simp only [intOf]; omega⟩
    · obtain rfl : i = xs.length := by omega
      go_wp2
      go_ret
      exact ⟨true, rfl, HB.out⟩

def actZ (l : List Pr) (x : Act3) : List Pr := if x.d then dropZ l x.n else if inR x.n then putGo x.n x.s l false else l

end Go.Proofs.Ytnmpakjklbamiaa
