/- Are there not more acts than are looked at? -/
import Derived.Test.YtecbgleidohjpaaRchN
namespace Go.Proofs.Ytecbgleidohjpaa.N
open Go.RowKit
set_option maxRecDepth 100000

set_option maxHeartbeats 1000000 in
theorem rlight_any {W : World} {v : Value} {xs : List Act6} (hp : ActsIn W v xs) (most : Nat) (hm : most ≤ 1000) : Calls Try.prog 26 #[v, .int .i64 most] W fun e w' => ∃ b, e = .returned (.bool b) ∧ (b = true → xs.length ≤ most) ∧ Below W.heap.size W w' := by
  obtain ⟨hA, hsz⟩ := hp
  have HC : Hid (∀ i (hi : i < xs.length), _) := fun i hi => hA.cells hi
  obtain ⟨a, cap, rfl, hcap, hmax, hx⟩ := hA
  have HZ := hid_mk hsz
  clear hx hsz
  go_enter Try.func26, Try.ntmps26
  go_wp2
  go_loopw [5, 10] (fun a5 a10 wr => ∃ (i n : Nat), i ≤ xs.length ∧ i ≤ n ∧ n ≤ most ∧ a5 = .int .i64 (n : Int) ∧ a10 = .int .i64 (i : Int) ∧ Hid (Below W.heap.size W wr)) (fun _ a10 _ => xs.length + 1 - (intOf a10).toNat)
  case atStart => exact ⟨0, 0, Nat.zero_le _, Nat.zero_le _, Nat.zero_le _, rfl, rfl, hid_mk (Below.refl _ _)⟩
  case round =>
    obtain ⟨i, n, hi, hin, hnm, rfl, rfl, HB⟩ := hrel
    by_cases hlt : i < xs.length
    · obtain ⟨b, off, cap', e, _, hbl, q0, q1, q2, q3, q4, q5⟩ := HC.out i hlt
      cases e
      obtain ⟨z1, z2⟩ := HZ.out xs[i] (List.getElem_mem hlt)
      have c0 := (HB.out.cell (p := ⟨b, off + i * 6, none⟩) hbl).trans q0
      have c1 := (HB.out.cell (p := ⟨b, off + i * 6 + 1, none⟩) hbl).trans q1
      have c2 := (HB.out.cell (p := ⟨b, off + i * 6 + 2, none⟩) hbl).trans q2
      have c3 := (HB.out.cell (p := ⟨b, off + i * 6 + 3, none⟩) hbl).trans q3
      have c4 := (HB.out.cell (p := ⟨b, off + i * 6 + 4, none⟩) hbl).trans q4
      have c5 := (HB.out.cell (p := ⟨b, off + i * 6 + 5, none⟩) hbl).trans q5
      have HA : Hid (∀ o, Below W.heap.size W (wr.alloc o)) := fun o => HB.out.alloc HB.out.size o
      generalize xs[i].k = k at *
      generalize xs[i].x = x at *
      generalize xs[i].y = y at *
      generalize xs[i].z = z at *
      generalize xs[i].nm = nm at *
      generalize xs[i].v = v at *
      have hq : ((nm.size : Int) + (v.size : Int)).tdiv 100 = (((nm.size + v.size) / 100 : Nat) : Int) := by
        rw [Int.tdiv_eq_ediv_of_nonneg (by omega)]
        omega
      clear q0 q1 q2 q3 q4 q5 HC HZ
      by_cases hgt : most < n + (1 + (nm.size + v.size) / 100)
      · go_wp2
        go_ret
        exact ⟨false, rfl, fun h => (by cases h), HA.out _⟩
      · go_wp2
        exact ⟨⟨i + 1, n + (1 + (nm.size + v.size) / 100), hlt, by omega, by omega, by
          congr 1, by go_num, hid_mk (HA.out _)⟩, by simp only [intOf]; omega⟩
    · go_wp2
      go_ret
      exact ⟨true, rfl, fun _ => by omega, HB.out⟩

set_option maxHeartbeats 400000 in
theorem light_any {W : World} {v : Value} {xs : List Act6} (hp : ActsIn W v xs) : Calls Try.prog 9 #[v] W fun e w' => ∃ b, e = .returned (.bool b) ∧ (b = true → xs.length ≤ 130) ∧ Below W.heap.size W w' := by
  have h := rlight_any hp 130 (by omega)
  obtain ⟨⟨a, cap, rfl, _⟩, _⟩ := hp
  go_enter Try.func9, Try.ntmps9
  go_wp2_with (go_at_call 26; fail)
  refine h.mono ?_
  rintro e w1 ⟨b, rfl, hb, hB⟩
  have HB := hid_mk hB
  have HL := hid_mk hb
  clear h hB hb
  go_wp2
  go_ret
  exact ⟨b, rfl, HL.out, HB.out⟩

end Go.Proofs.Ytecbgleidohjpaa.N
