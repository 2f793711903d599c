/- What the second reading of tokens takes for a name: the name, and where it ends. -/
import Derived.Test.YtihdiaklhkecmabRefEsc
import Derived.Test.YtihdiaklhkecmabRefPlain
namespace Go.Proofs.Ytihdiaklhkecmab
open Go.RowKit

theorem name_part_at {xs : List Int} {p : Nat} (h : partZ (hd xs p) = true) : p < xs.length ∧ nameT (xs.drop p) 0 = hd xs p :: nameT (xs.drop (p + 1)) 0 ∧ nameR (xs.drop p) 0 = nameR (xs.drop (p + 1)) 0 := by
  by_cases hp : p < xs.length
  · rw [drop_hd hp]
    exact ⟨hp, nameT_part h⟩
  · rw [hd_end hp] at h
    exact absurd h (by decide)
theorem escB_lt {xs : List Int} {p : Nat} (h : escB (xs.drop p) = true) : p < xs.length ∧ hd xs p = 92 := by
  unfold escB at h
  rw [hd_drop, hd_drop, Nat.add_zero, Bool.and_eq_true] at h
  have h1 : hd xs p = 92 := by simpa using h.1
  refine ⟨?_, h1⟩
  by_cases hp : p < xs.length
  · exact hp
  · rw [hd_end hp] at h1
    exact absurd h1 (by decide)
theorem name_esc_at {xs : List Int} {p : Nat} (hz : partZ (hd xs p) = false) (he : escB (xs.drop p) = true) :
    p + 1 + (escT (xs.drop (p + 1))).2 ≤ xs.length ∧ nameT (xs.drop p) 0 = (escT (xs.drop (p + 1))).1 :: nameT (xs.drop (p + 1 + (escT (xs.drop (p + 1))).2)) 0 ∧ nameR (xs.drop p) 0 = nameR (xs.drop (p + 1 + (escT (xs.drop (p + 1))).2)) 0 := by
  have hp := (escB_lt he).1
  have hl := escT_len (xs.drop (p + 1))
  rw [List.length_drop] at hl
  rw [drop_hd hp] at he
  have := nameT_esc hz he
  rw [List.drop_drop] at this
  rw [drop_hd hp]
  exact ⟨by omega, this⟩
theorem ret2_si {a c : ByteArray} {b d : Int} (h1 : a = c) (h2 : b = d) : Ending.returned (.tuple #[.string a, .int .i64 b]) = .returned (.tuple #[.string c, .int .i64 d]) := by rw [h1, h2]
theorem chars_snoc {acc : List Int} {c : Int} (h : ∀ d ∈ acc, IsChar d) (hc : IsChar c) : ∀ d ∈ acc ++ [c], IsChar d := by
  intro d hd
  rcases List.mem_append.1 hd with h1 | h1
  · exact h d h1
  · simp at h1
    subst h1
    exact hc
theorem ownsRow_row {w : World} {B : Nat} {v : Value} {xs : List Int} (h : w.ownsRow B 21 1 v xs.length (xs.map (Value.int .i32))) : RowAt .i32 w v xs := RowAt.own h

set_option maxHeartbeats 2000000 in
set_option maxRecDepth 100000 in
theorem rname_any {w : World} {v : Value} {xs : List Int} (hv : RowAt .i32 w v xs) (fx : Fine xs) (i : Nat) (j : Int) (hj : j = i) (hi : i ≤ xs.length) :
    Calls Try.prog 46 #[v, .int .i64 j] w fun e w' => ∃ p : Nat, e = .returned (.tuple #[.string (strT (nameT (xs.drop i) 0)), .int .i64 p]) ∧ xs.drop p = nameR (xs.drop i) 0 ∧ i ≤ p ∧ p ≤ xs.length ∧ Below w.heap.size w w' := by
  subst hj
  have hl := fx.1
  obtain ⟨i0, hi0, hz0, hz1, hz2⟩ := info_parts Try.info21
  obtain ⟨a, cap, rfl, hcap, hcs⟩ := hv
  have HH : Hid (RowAt .i32 w (.slice a xs.length cap) xs ∧ Fine xs) := And.intro ⟨a, cap, rfl, hcap, hcs⟩ fx
  clear fx hcs
  go_enter Try.func46, Try.ntmps46
  go_wp2
  go_loopw [1, 6] (fun a1 out wr => ∃ (p : Nat) (acc : List Int), a1 = .int .i64 (p : Int) ∧ wr.ownsRow w.heap.size 21 1 out acc.length (acc.map (Value.int .i32)) ∧ i ≤ p ∧ p ≤ xs.length ∧ Below w.heap.size w wr ∧ acc ++ nameT (xs.drop p) 0 = nameT (xs.drop i) 0 ∧ nameR (xs.drop p) 0 = nameR (xs.drop i) 0 ∧ acc.length ≤ p ∧ ∀ c ∈ acc, IsChar c) (fun a1 _ _ => xs.length + 1 - (intOf a1).toNat)
  case atStart => exact ⟨i, [], rfl, World.ownsRow_nil _ _ _ _, Nat.le_refl _, hi, Below.refl _ _, rfl, rfl, Nat.zero_le _, by simp⟩
  case round =>
    obtain ⟨p, acc, rfl, hown, hip, hp, hB, hT, hR, hal, hch⟩ := hrel
    have HT := hid_mk hT
    have HR := hid_mk hR
    have HC := hid_mk hch
    clear hT hR hch
    have hrow := HH.out.1.below hB
    have ha := rat_any hrow HH.out.2 p p rfl
    have hpt := rpart_any (hd xs p) wr
    have hes := resc_any hrow HH.out.2 p p rfl (by omega)
    cases hz : partZ (hd xs p)
    · rw [hz] at hpt
      cases he : escB (xs.drop p)
      · rw [he] at hes
        have hst := nameT_stop (l := xs.drop p) (by rw [hd_drop]; exact hz) he
        have HA : Hid (nameT (xs.drop i) 0 = acc) := by
          have := HT.out
          rw [hst.1, List.append_nil] at this
          exact this.symm
        have HZ := hid_mk hst.2
        have hcv := conv_runes (ownsRow_row hown) HC.out
        clear hst hz he
        go_wp2_with (go_at_call 39; fail)
        refine (ha).mono ?_
        rintro e w' ⟨rfl, rfl⟩
        go_wp2_with (go_at_call 43; fail)
        refine (hpt).mono ?_
        rintro e w' ⟨rfl, rfl⟩
        go_wp2_with (go_at_call 44; fail)
        refine (hes).mono ?_
        rintro e w' ⟨rfl, rfl⟩
        go_wp2
        go_ret2
        exact ⟨p, ret2_si (by rw [HA.out]) rfl, by rw [← HR.out, HZ.out], hip, hp, hB⟩
      · rw [he] at hes
        obtain ⟨hle, hT2, hR2⟩ := name_esc_at hz he
        have hlt := (escB_lt he).1
        have hsc := rescaped_any hrow HH.out.2 p p rfl hlt
        have HT2 := hid_mk hT2
        have HR2 := hid_mk hR2
        have HCH := hid_mk (escT_char (t := xs.drop (p + 1)) (fun c hc => HH.out.2.2 c (List.mem_of_mem_drop hc)))
        clear hz he hT2 hR2
        generalize escT (xs.drop (p + 1)) = ec at *
        obtain ⟨c, n⟩ := ec
        simp only at *
        go_wp2_with (go_at_call 39; fail)
        refine (ha).mono ?_
        rintro e w' ⟨rfl, rfl⟩
        go_wp2_with (go_at_call 43; fail)
        refine (hpt).mono ?_
        rintro e w' ⟨rfl, rfl⟩
        go_wp2_with (go_at_call 44; fail)
        refine (hes).mono ?_
        rintro e w' ⟨rfl, rfl⟩
        go_wp2_with (go_at_call 53; fail)
        refine (hsc).mono ?_
        rintro e w' ⟨rfl, rfl⟩
        go_wp2_with (at_builtin; go_must (refine wpList_append_own _ rfl _ _ 49 rfl w.heap.size 21 i0 (.int .i32 0) 1 4 Try.underlying49 hi0 hz0 hz1 hz2 rfl (by decide) _ _ _ rfl (hown.alloc _) ⟨wr.heap.size, 0, none⟩ 1 1 [.int .i32 c] rfl rfl (cell_one_new _ _ _) (by intro u hu; simp at hu; subst hu; rfl) (by unfold maxLen; omega) (by omega) (by have := hB.size; simp; omega) ?_); intro v' w5 hown5 hgrow5 _)
        go_roundw
        case rel => exact ⟨p + 1 + n, acc ++ [c], by first | rfl | go_num, by simpa using hown5, by omega, hle, (hB.alloc hB.size _).grown hgrow5 (by have := hB.size; simp; omega) (fun k hk => (hown.lt k hk).1), by rw [← HT.out, HT2.out]; simp, by rw [← HR.out, HR2.out], by simp; omega, chars_snoc HC.out HCH.out⟩
        case measure => simp [intOf]; omega
    · rw [hz] at hpt
      obtain ⟨hlt, hT2, hR2⟩ := name_part_at hz
      obtain ⟨b, off, cap', hv', _, c0⟩ := row_cell hrow p hlt
      cases hv'
      have HT2 := hid_mk hT2
      have HR2 := hid_mk hR2
      have HCH := hid_mk (HH.out.2.2 (hd xs p) (by have := drop_hd hlt; exact List.mem_of_mem_drop (i := p) (by rw [this]; simp)))
      clear hz hT2 hR2 hes hrow
      generalize hd xs p = c at *
      go_wp2_with (go_at_call 39; fail)
      refine (ha).mono ?_
      rintro e w' ⟨rfl, rfl⟩
      go_wp2_with (go_at_call 43; fail)
      refine (hpt).mono ?_
      rintro e w' ⟨rfl, rfl⟩
      go_wp2_with (at_builtin; go_must (refine wpList_append_own _ rfl _ _ 49 rfl w.heap.size 21 i0 (.int .i32 0) 1 4 Try.underlying49 hi0 hz0 hz1 hz2 rfl (by decide) _ _ _ rfl (hown.alloc _) ⟨wr.heap.size, 0, none⟩ 1 1 [.int .i32 c] rfl rfl (cell_one_new _ _ _) (by intro u hu; simp at hu; subst hu; rfl) (by unfold maxLen; omega) (by omega) (by have := hB.size; simp; omega) ?_); intro v' w5 hown5 hgrow5 _)
      go_roundw
      case rel => exact ⟨p + 1, acc ++ [c], by first | rfl | go_num, by simpa using hown5, by omega, by omega, (hB.alloc hB.size _).grown hgrow5 (by have := hB.size; simp; omega) (fun k hk => (hown.lt k hk).1), by rw [← HT.out, HT2.out]; simp, by rw [← HR.out, HR2.out], by simp; omega, chars_snoc HC.out HCH.out⟩
      case measure => simp [intOf]; omega
end Go.Proofs.Ytihdiaklhkecmab
