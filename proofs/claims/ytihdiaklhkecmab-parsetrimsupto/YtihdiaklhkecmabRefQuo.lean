/- A string in the second reading. -/
import Derived.Test.YtihdiaklhkecmabRefBad
namespace Go.Proofs.Ytihdiaklhkecmab
open Go.RowKit

/-- What a string is, the characters acc being gone by. -/
def finQ (acc : List Int) : Option (List Int) × List Int → Tok × List Int
  | (some t, r) => (plainTok 5 (acc ++ t), r)
  | (none, r) => (plainTok 6 [], r)
theorem finQ_cons (acc : List Int) (c : Int) (r : Option (List Int) × List Int) : finQ acc (consO c r) = finQ (acc ++ [c]) r := by
  obtain ⟨o, l⟩ := r
  cases o <;> simp [finQ, consO]
theorem strZ_fin (l : List Int) : strZ l = finQ [] (quoZ (hd l 0) (l.drop 1) 0) := by
  unfold strZ
  split <;> rename_i h <;> rw [h] <;> rfl
theorem zero_cells {w : World} {n : Nat} (h : w.heap[n]? = some (.cells #[.int .i64 0, .string ⟨#[]⟩, .string ⟨#[]⟩, .bool false, .bool false] 27 (0, 0))) :
    w.cell? ⟨n, 0, none⟩ = some (.int .i64 0) ∧ w.cell? ⟨n, 1, none⟩ = some (.string ⟨#[]⟩) ∧ w.cell? ⟨n, 2, none⟩ = some (.string ⟨#[]⟩) ∧ w.cell? ⟨n, 3, none⟩ = some (.bool false) ∧ w.cell? ⟨n, 4, none⟩ = some (.bool false) ∧
    w.frozen? ⟨n, 0, none⟩ = false ∧ w.frozen? ⟨n, 1, none⟩ = false ∧ w.frozen? ⟨n, 2, none⟩ = false ∧ w.frozen? ⟨n, 3, none⟩ = false ∧ w.frozen? ⟨n, 4, none⟩ = false := by
  refine ⟨?_, ?_, ?_, ?_, ?_, ?_, ?_, ?_, ?_, ?_⟩
  all_goals first | (simp only [World.cell?, h]; rfl) | (simp only [World.frozen?, h]; rfl)
/-- A block of zero stays where a row above it grows. -/
theorem heap_alloc_old (w : World) (o : Obj) {k : Nat} (h : k < w.heap.size) : (w.alloc o).heap[k]? = w.heap[k]? := Below.heap_alloc w o k h
theorem zero_grown {w w' : World} {B : Nat} {v : Value} {n : Nat} {xs : List Value} {k : Nat} {o : Obj} (h : w.ownsRow B 21 1 v n xs) (hk : k < B) (ho : w.heap[k]? = some o) (hg : w.grownBy w' v.ownBlock) : w'.heap[k]? = some o := by
  have hlt : k < w.heap.size := (Array.getElem?_eq_some_iff.1 ho).1
  rw [hg.block k hlt ?_]
  · exact ho
  · intro hkv
    rcases h.2 with ⟨rfl, _⟩ | ⟨g, cap, cur, rfl, hb, hgg, _⟩
    · simp [Value.ownBlock] at hkv
    · simp [Value.ownBlock] at hkv
      omega
theorem quoZ_at {xs : List Int} {p : Nat} {e : Int} (h : p < xs.length) : quoZ e (xs.drop p) 0 = if hd xs p = e then (some [], xs.drop (p + 1)) else if hd xs p = 10 then (none, xs.drop p)
    else if hd xs p = 92 then (if hd xs (p + 1) = 10 then quoZ e (xs.drop (p + 2)) 0 else if p + 1 = xs.length then quoZ e (xs.drop (p + 1)) 0 else consO (escT (xs.drop (p + 1))).1 (quoZ e (xs.drop (p + 1 + (escT (xs.drop (p + 1))).2)) 0))
    else consO (hd xs p) (quoZ e (xs.drop (p + 1)) 0) := by
  rw [drop_hd h, quoZ, quoZ_skip e _ 1, quoZ_skip e _ (escT (xs.drop (p + 1))).2, List.drop_drop, List.drop_drop, hd_drop, Nat.add_zero, ← drop_hd h]
  have e1 : (xs.drop (p + 1) = []) = (p + 1 = xs.length) := by
    rw [List.drop_eq_nil_iff]
    exact propext ⟨fun h2 => by omega, fun h2 => by omega⟩
  simp only [e1, Nat.add_assoc]

set_option maxHeartbeats 4000000 in
set_option maxRecDepth 100000 in
theorem rquoted_any {w : World} {v : Value} {xs : List Int} (hv : RowAt .i32 w v xs) (fx : Fine xs) (i : Nat) (j : Int) (hj : j = i) (hi : i < xs.length) (hq : hd xs i = 34 ∨ hd xs i = 39) :
    Calls Try.prog 42 #[v, .int .i64 j] w fun e w' => ∃ p : Nat, e = .returned (.tuple #[tokV (strZ (xs.drop i)).1, .int .i64 p]) ∧ xs.drop p = (strZ (xs.drop i)).2 ∧ i ≤ p ∧ p ≤ xs.length ∧ Below w.heap.size w w' := by
  subst hj
  have hl := fx.1
  obtain ⟨i0, hi0, hz0, hz1, hz2⟩ := info_parts Try.info21
  have hB0 : Below w.heap.size w (w.alloc (.cells #[.int .i64 0, .string ⟨#[]⟩, .string ⟨#[]⟩, .bool false, .bool false] 27)) := (Below.refl _ _).alloc (Nat.le_refl _) _
  have hrow0 := hv.below hB0
  have HH : Hid (RowAt .i32 w v xs ∧ Fine xs) := And.intro hv fx
  obtain ⟨b, off, cap, rfl, hcap, c0⟩ := row_cell hrow0 i hi
  have HST : Hid (strZ (xs.drop i) = finQ [] (quoZ (hd xs i) (xs.drop (i + 1)) 0)) := by show strZ (xs.drop i) = _; rw [strZ_fin, hd_drop, List.drop_drop]; rfl
  generalize hd xs i = q at c0 HST hq
  have hq1 : -1 < q := by omega
  have q10 : (q == 10) = false := by simp; omega
  have q92 : (q == 92) = false := by simp; omega
  have HQ := hid_mk hq
  clear hv fx hrow0 hq
  go_enter Try.func42, Try.ntmps42
  go_wp2
  go_loopw [1, 7] (fun a1 out wr => ∃ (p : Nat) (acc : List Int), a1 = .int .i64 (p : Int) ∧ wr.ownsRow (w.heap.size + 1) 21 1 out acc.length (acc.map (Value.int .i32)) ∧ i < p ∧ p ≤ xs.length ∧ Below w.heap.size w wr ∧ w.heap.size < wr.heap.size ∧ wr.heap[w.heap.size]? = some (.cells #[.int .i64 0, .string ⟨#[]⟩, .string ⟨#[]⟩, .bool false, .bool false] 27 (0, 0)) ∧ finQ acc (quoZ q (xs.drop p) 0) = strZ (xs.drop i) ∧ acc.length ≤ p ∧ ∀ c ∈ acc, IsChar c) (fun a1 _ _ => xs.length + 1 - (intOf a1).toNat)
  case atStart => exact ⟨i + 1, [], by go_num, World.ownsRow_nil _ _ _ _, by omega, by omega, hB0, by simp, heap_alloc_new w _, HST.out.symm, by simp, by simp⟩
  case round =>
    obtain ⟨p, acc, rfl, hown, hip, hp, hB, hsz, hblk, hF, hal, hch⟩ := hrel
    have HF := hid_mk hF
    have HC := hid_mk hch
    clear hF hch c0
    have hrow := HH.out.1.below hB
    have ha := rat_any hrow HH.out.2 p p rfl
    have hb := rat_any hrow HH.out.2 (p + 1) ((p : Int) + 1) (by omega)
    by_cases hlt : p < xs.length
    · have HA := hid_mk (quoZ_at (e := q) hlt)
      have hcb := hd_bounds HH.out.2 p
      have HCH := hid_mk (HH.out.2.2 (hd xs p) (by have := drop_hd hlt; exact List.mem_of_mem_drop (i := p) (by rw [this]; simp)))
      have hc0 : 0 ≤ hd xs p := HCH.out.1
      have e1 : (hd xs p == -1) = false := by simp; omega
      by_cases hce : hd xs p = q
      · -- the end
        have hcv := conv_runes (ownsRow_row hown) HC.out
        have HV : Hid (strZ (xs.drop i) = (plainTok 5 acc, xs.drop (p + 1))) := by
          have := HF.out
          rw [HA.out, if_pos hce] at this
          show strZ (xs.drop i) = _
          rw [← this]
          simp [finQ]
        rw [hce] at ha
        have eq1 : (q == -1) = false := by simp; omega
        clear e1 hc0 hcb hce
        obtain ⟨k0, k1, k2, k3, k4, f0, f1, f2, f3, f4⟩ := zero_cells hblk
        go_wp2_with (go_at_call 39; fail)
        refine (ha).mono ?_
        rintro e w' ⟨rfl, rfl⟩
        go_wp2
        refine bodyPost_ret (v := .tuple #[.agg #[.int .i64 5, .string (strT acc), .string ⟨#[]⟩, .bool false, .bool false], .int .i64 ((p + 1 : Nat) : Int)]) (by simp [results, Try.results42, go_sem, k0, k1, k2, k3, k4]) rfl ⟨p + 1, by rw [HV.out]; rfl, by rw [HV.out], by omega, by omega, ?_⟩
        exact ((((hB.setCell (Nat.le_refl _) _).setCell (Nat.le_refl _) _).setCell (Nat.le_refl _) _).setCell (Nat.le_refl _) _).setCell (Nat.le_refl _) _
      · by_cases h10 : hd xs p = 10
        · have HV : Hid (strZ (xs.drop i) = (plainTok 6 [], xs.drop p)) := by
            have := HF.out
            rw [HA.out, if_neg hce, if_pos h10] at this
            show strZ (xs.drop i) = _
            rw [← this]
            rfl
          rw [h10] at ha hce
          have eq1 : ((10 : Int) == q) = false := by simpa using hce
          obtain ⟨k0, k1, k2, k3, k4, f0, f1, f2, f3, f4⟩ := zero_cells hblk
          clear e1 hc0 hcb hce h10
          go_wp2_with (go_at_call 39; fail)
          refine (ha).mono ?_
          rintro e w' ⟨rfl, rfl⟩
          go_wp2
          refine bodyPost_ret (v := .tuple #[.agg #[.int .i64 6, .string (⟨#[]⟩), .string ⟨#[]⟩, .bool false, .bool false], .int .i64 ((p : Nat) : Int)]) (by simp [results, Try.results42, go_sem, k0, k1, k2, k3, k4]) rfl ⟨p, by rw [HV.out]; rfl, by rw [HV.out], by omega, by omega, ?_⟩
          exact ((((hB.setCell (Nat.le_refl _) _).setCell (Nat.le_refl _) _).setCell (Nat.le_refl _) _).setCell (Nat.le_refl _) _).setCell (Nat.le_refl _) _
        · by_cases h92 : hd xs p = 92
          · have eq1 : ((92 : Int) == q) = false := by rw [h92] at hce; simpa using hce
            rw [if_neg hce, if_neg h10, if_pos h92] at HA
            rw [h92] at ha
            clear e1 hc0 hcb hce h10
            by_cases hlast : p + 1 = xs.length
            · have hm1 : hd xs (p + 1) = -1 := hd_end (by omega)
              rw [hm1] at hb HA
              have HN : Hid (finQ acc (quoZ q (xs.drop (p + 1)) 0) = strZ (xs.drop i)) := by
                have := HF.out
                rw [HA.out, if_neg (by decide), if_pos hlast] at this
                exact this
              go_wp2_with (go_at_call 39; fail)
              refine (ha).mono ?_
              rintro e w' ⟨rfl, rfl⟩
              go_wp2_with (go_at_call 39; fail)
              refine (hb).mono ?_
              rintro e w' ⟨rfl, rfl⟩
              go_wp2
              go_roundw
              case rel => exact ⟨p + 1, acc, by go_num, hown, by omega, by omega, hB, hsz, hblk, HN.out, by omega, HC.out⟩
              case measure => simp [intOf]; omega
            · by_cases hn10 : hd xs (p + 1) = 10
              · rw [hn10] at hb
                have HN : Hid (finQ acc (quoZ q (xs.drop (p + 2)) 0) = strZ (xs.drop i)) := by
                  have := HF.out
                  rw [HA.out, if_pos hn10] at this
                  exact this
                go_wp2_with (go_at_call 39; fail)
                refine (ha).mono ?_
                rintro e w' ⟨rfl, rfl⟩
                go_wp2_with (go_at_call 39; fail)
                refine (hb).mono ?_
                rintro e w' ⟨rfl, rfl⟩
                go_wp2_with (go_at_call 39; fail)
                refine (hb).mono ?_
                rintro e w' ⟨rfl, rfl⟩
                go_wp2
                go_roundw
                case rel => exact ⟨p + 2, acc, by go_num, hown, by omega, by omega, hB, hsz, hblk, HN.out, by omega, HC.out⟩
                case measure => simp [intOf]; omega
              · have HCH2 := hid_mk (escT_char (t := xs.drop (p + 1)) (fun c hc => HH.out.2.2 c (List.mem_of_mem_drop hc)))
                have hsc := rescaped_any hrow HH.out.2 p p rfl hlt
                have hle := escT_len (xs.drop (p + 1))
                rw [List.length_drop] at hle
                have HN : Hid (finQ (acc ++ [(escT (xs.drop (p + 1))).1]) (quoZ q (xs.drop (p + 1 + (escT (xs.drop (p + 1))).2)) 0) = strZ (xs.drop i)) := by
                  have := HF.out
                  rw [HA.out, if_neg hn10, if_neg hlast, finQ_cons] at this
                  exact this
                have n1 : (hd xs (p + 1) == -1) = false := by
                  have := (HH.out.2.2 (hd xs (p + 1)) (by have := drop_hd (show p + 1 < xs.length by omega); exact List.mem_of_mem_drop (i := p + 1) (by rw [this]; simp))).1
                  simp; omega
                have n10 : (hd xs (p + 1) == 10) = false := by simpa using hn10
                clear HA HF
                generalize hd xs (p + 1) = c1 at *
                generalize escT (xs.drop (p + 1)) = ec at *
                obtain ⟨c, n⟩ := ec
                simp only at *
                go_wp2_with (go_at_call 39; fail)
                refine (ha).mono ?_
                rintro e w' ⟨rfl, rfl⟩
                go_wp2_with (go_at_call 39; fail)
                refine (hb).mono ?_
                rintro e w' ⟨rfl, rfl⟩
                go_wp2_with (go_at_call 39; fail)
                refine (hb).mono ?_
                rintro e w' ⟨rfl, rfl⟩
                go_wp2_with (go_at_call 53; fail)
                refine (hsc).mono ?_
                rintro e w' ⟨rfl, rfl⟩
                go_wp2_with (at_builtin; go_must (refine wpList_append_own _ rfl _ _ 49 rfl (w.heap.size + 1) 21 i0 (.int .i32 0) 1 4 Try.underlying49 hi0 hz0 hz1 hz2 rfl (by decide) _ _ _ rfl (hown.alloc _) ⟨wr.heap.size, 0, none⟩ 1 1 [.int .i32 c] rfl rfl (cell_one_new _ _ _) (by intro u hu; simp at hu; subst hu; rfl) (by unfold maxLen; omega) (by omega) (by simp; omega) ?_); intro v' w5 hown5 hgrow5 _)
                go_roundw
                case rel => exact ⟨p + 1 + n, acc ++ [c], by first | rfl | go_num, by simpa using hown5, by omega, by omega, (hB.alloc hB.size _).grown hgrow5 (by have := hB.size; simp; omega) (fun k hk => by have := (hown.lt k hk).1; omega), by have := hgrow5.size; simp at this; omega, zero_grown (hown.alloc _) (Nat.lt_succ_self _) ((heap_alloc_old wr _ hsz).trans hblk) hgrow5, HN.out, by simp; omega, chars_snoc HC.out HCH2.out⟩
                case measure => simp [intOf]; omega
          · have n92 : (hd xs p == 92) = false := by simpa using h92
            have n10 : (hd xs p == 10) = false := by simpa using h10
            have nq : (hd xs p == q) = false := by simpa using hce
            have HN : Hid (finQ (acc ++ [hd xs p]) (quoZ q (xs.drop (p + 1)) 0) = strZ (xs.drop i)) := by
              have := HF.out
              rw [HA.out, if_neg hce, if_neg h10, if_neg h92, finQ_cons] at this
              exact this
            clear HA HF h92 h10 hce
            generalize hd xs p = c at *
            go_wp2_with (go_at_call 39; fail)
            refine (ha).mono ?_
            rintro e w' ⟨rfl, rfl⟩
            go_wp2_with (at_builtin; go_must (refine wpList_append_own _ rfl _ _ 49 rfl (w.heap.size + 1) 21 i0 (.int .i32 0) 1 4 Try.underlying49 hi0 hz0 hz1 hz2 rfl (by decide) _ _ _ rfl (hown.alloc _) ⟨wr.heap.size, 0, none⟩ 1 1 [.int .i32 c] rfl rfl (cell_one_new _ _ _) (by intro u hu; simp at hu; subst hu; rfl) (by unfold maxLen; omega) (by omega) (by simp; omega) ?_); intro v' w5 hown5 hgrow5 _)
            go_roundw
            case rel => exact ⟨p + 1, acc ++ [c], by first | rfl | go_num, by simpa using hown5, by omega, by omega, (hB.alloc hB.size _).grown hgrow5 (by have := hB.size; simp; omega) (fun k hk => by have := (hown.lt k hk).1; omega), by have := hgrow5.size; simp at this; omega, zero_grown (hown.alloc _) (Nat.lt_succ_self _) ((heap_alloc_old wr _ hsz).trans hblk) hgrow5, HN.out, by simp; omega, chars_snoc HC.out HCH.out⟩
            case measure => simp [intOf]; omega
    · have hcv := conv_runes (ownsRow_row hown) HC.out
      rw [hd_end hlt] at ha
      have HV : Hid (strZ (xs.drop i) = (plainTok 5 acc, xs.drop p)) := by
        have := HF.out
        rw [List.drop_eq_nil_of_le (Nat.le_of_not_lt hlt)] at this ⊢
        show strZ (xs.drop i) = _
        rw [← this]
        simp [finQ, quoZ]
      obtain ⟨k0, k1, k2, k3, k4, f0, f1, f2, f3, f4⟩ := zero_cells hblk
      go_wp2_with (go_at_call 39; fail)
      refine (ha).mono ?_
      rintro e w' ⟨rfl, rfl⟩
      go_wp2
      refine bodyPost_ret (v := .tuple #[.agg #[.int .i64 5, .string (strT acc), .string ⟨#[]⟩, .bool false, .bool false], .int .i64 ((p : Nat) : Int)]) (by simp [results, Try.results42, go_sem, k0, k1, k2, k3, k4]) rfl ⟨p, by rw [HV.out]; rfl, by rw [HV.out], by omega, by omega, ?_⟩
      exact ((((hB.setCell (Nat.le_refl _) _).setCell (Nat.le_refl _) _).setCell (Nat.le_refl _) _).setCell (Nat.le_refl _) _).setCell (Nat.le_refl _) _

end Go.Proofs.Ytihdiaklhkecmab
