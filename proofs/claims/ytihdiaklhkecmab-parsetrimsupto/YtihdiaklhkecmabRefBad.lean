/- What is left of a URL that is none, in the second reading. -/
import Derived.Test.YtihdiaklhkecmabRefName
namespace Go.Proofs.Ytihdiaklhkecmab
open Go.RowKit

theorem strT_nil : strT [] = ⟨#[]⟩ := rfl
theorem badR_at {xs : List Int} {p : Nat} (h : p < xs.length) : badR (xs.drop p) 0 = if hd xs p = 41 then xs.drop (p + 1) else if escB (xs.drop p) = true then badR (xs.drop (p + 1 + (escT (xs.drop (p + 1))).2)) 0 else badR (xs.drop (p + 1)) 0 := by
  rw [drop_hd h, badR, badR_skip (xs.drop (p + 1)) (escT (xs.drop (p + 1))).2, List.drop_drop]

set_option maxHeartbeats 2000000 in
set_option maxRecDepth 100000 in
theorem rbad_any {w : World} {v : Value} {xs : List Int} (hv : RowAt .i32 w v xs) (fx : Fine xs) (i : Nat) (j : Int) (hj : j = i) (hi : i ≤ xs.length) :
    Calls Try.prog 63 #[v, .int .i64 j] w fun e w' => ∃ p : Nat, e = .returned (.tuple #[.agg #[.int .i64 8, .string ⟨#[]⟩, .string ⟨#[]⟩, .bool false, .bool false], .int .i64 p]) ∧ xs.drop p = badR (xs.drop i) 0 ∧ i ≤ p ∧ p ≤ xs.length ∧ Below w.heap.size w w' := by
  subst hj
  have hl := fx.1
  obtain ⟨a, cap, rfl, hcap, hcs⟩ := hv
  have HH : Hid (RowAt .i32 w (.slice a xs.length cap) xs ∧ Fine xs) := And.intro ⟨a, cap, rfl, hcap, hcs⟩ fx
  clear fx hcs
  go_enter Try.func63, Try.ntmps63
  go_wp2
  go_loopw [1] (fun a1 wr => ∃ (p : Nat), a1 = .int .i64 (p : Int) ∧ wr = w.alloc (.cells #[.int .i64 0, .string ⟨#[]⟩, .string ⟨#[]⟩, .bool false, .bool false] 27) ∧ i ≤ p ∧ p ≤ xs.length ∧ badR (xs.drop p) 0 = badR (xs.drop i) 0) (fun a1 _ => xs.length + 1 - (intOf a1).toNat)
  case atStart => exact ⟨i, rfl, rfl, Nat.le_refl _, hi, rfl⟩
  case round =>
    obtain ⟨p, rfl, rfl, hip, hp, hR⟩ := hrel
    have HR := hid_mk hR
    clear hR
    have hB0 : Below w.heap.size w (w.alloc (.cells #[.int .i64 0, .string ⟨#[]⟩, .string ⟨#[]⟩, .bool false, .bool false] 27)) := (Below.refl _ _).alloc (Nat.le_refl _) _
    have hrow := HH.out.1.below hB0
    by_cases hlt : p < xs.length
    · have HA := hid_mk (badR_at hlt)
      obtain ⟨b, off, cap', hv', _, c0⟩ := row_cell hrow p hlt
      cases hv'
      by_cases h41 : hd xs p = 41
      · rw [h41] at c0
        go_wp2
        refine bodyPost_ret (v := .tuple #[.agg #[.int .i64 8, .string ⟨#[]⟩, .string ⟨#[]⟩, .bool false, .bool false], .int .i64 ((p + 1 : Nat) : Int)]) (by simp [results, Try.results63, go_sem]) rfl ⟨p + 1, rfl, by rw [← HR.out, HA.out, if_pos h41], by omega, by omega, ?_⟩
        exact (Below.refl _ _).alloc (Nat.le_refl _) _
      · have e41 : (hd xs p == 41) = false := by simpa using h41
        have hes := resc_any hrow HH.out.2 p p rfl (by omega)
        cases he : escB (xs.drop p)
        · rw [he] at hes
          have HE := hid_mk he
          have H41 := hid_mk h41
          clear he h41
          generalize hd xs p = c at *
          go_wp2_with (go_at_call 44; fail)
          refine (hes).mono ?_
          rintro e w' ⟨rfl, rfl⟩
          go_wp2
          go_roundw
          case rel => exact ⟨p + 1, by go_num, by first | rfl | trivial, by omega, by omega, by rw [← HR.out, HA.out, if_neg H41.out, if_neg (by rw [HE.out]; decide)]⟩
          case measure => simp [intOf]; omega
        · rw [he] at hes
          have hsc := rescaped_any hrow HH.out.2 p p rfl hlt
          have hle := escT_len (xs.drop (p + 1))
          rw [List.length_drop] at hle
          have HE := hid_mk he
          have H41 := hid_mk h41
          clear he h41
          generalize escT (xs.drop (p + 1)) = ec at *
          obtain ⟨d, n⟩ := ec
          simp only at *
          generalize hd xs p = c at *
          go_wp2_with (go_at_call 44; fail)
          refine (hes).mono ?_
          rintro e w' ⟨rfl, rfl⟩
          go_wp2_with (go_at_call 53; fail)
          refine (hsc).mono ?_
          rintro e w' ⟨rfl, rfl⟩
          go_wp2
          go_roundw
          case rel => exact ⟨p + 1 + n, by first | rfl | go_num, by first | rfl | trivial, by omega, by omega, by rw [← HR.out, HA.out, if_neg H41.out, if_pos HE.out]⟩
          case measure => simp [intOf]; omega
    · have HNIL := hid_mk (List.drop_eq_nil_of_le (Nat.le_of_not_lt hlt))
      go_wp2
      refine bodyPost_ret (v := .tuple #[.agg #[.int .i64 8, .string ⟨#[]⟩, .string ⟨#[]⟩, .bool false, .bool false], .int .i64 ((p : Nat) : Int)]) (by simp [results, Try.results63, go_sem]) rfl ⟨p, rfl, by rw [← HR.out, HNIL.out]; rfl, hip, hp, ?_⟩
      exact (Below.refl _ _).alloc (Nat.le_refl _) _
end Go.Proofs.Ytihdiaklhkecmab
