/- What the second reading of tokens goes by: blanks, digits, comments; the signs. -/
import Derived.Test.YtihdiaklhkecmabRefAt
import Derived.Laws.IdiomStrings
namespace Go.Proofs.Ytihdiaklhkecmab
open Go.RowKit

theorem drop_hd {xs : List Int} {p : Nat} (h : p < xs.length) : xs.drop p = hd xs p :: xs.drop (p + 1) := by
  rw [List.drop_eq_getElem_cons h]
  congr 1
  simp [hd, List.getD, h]
theorem hd_end {xs : List Int} {p : Nat} (h : ¬ p < xs.length) : hd xs p = -1 := by simp [hd, List.getD, List.getElem?_eq_none (Nat.le_of_not_lt h)]
theorem blanksR_at {xs : List Int} {p : Nat} (h : blankZ (hd xs p) = true) : blanksR (xs.drop p) = blanksR (xs.drop (p + 1)) ∧ p < xs.length := by
  by_cases hp : p < xs.length
  · rw [drop_hd hp, blanksR, if_pos h]
    exact ⟨rfl, hp⟩
  · rw [hd_end hp] at h
    exact absurd h (by decide)
theorem blanksR_stop {xs : List Int} {p : Nat} (h : blankZ (hd xs p) = false) : blanksR (xs.drop p) = xs.drop p := by
  by_cases hp : p < xs.length
  · rw [drop_hd hp, blanksR, if_neg (by simp [h])]
  · rw [List.drop_eq_nil_of_le (by omega)]
    rfl
set_option maxHeartbeats 400000 in
theorem rblanks_any {w : World} {v : Value} {xs : List Int} (hv : RowAt .i32 w v xs) (fx : Fine xs) (i : Nat) (j : Int) (hj : j = i) (hi : i ≤ xs.length) :
    Calls Try.prog 41 #[v, .int .i64 j] w fun e w' => ∃ p : Nat, e = .returned (.int .i64 p) ∧ xs.drop p = blanksR (xs.drop i) ∧ i ≤ p ∧ p ≤ xs.length ∧ w = w' := by
  subst hj
  have hl := fx.1
  have HR := And.intro hv fx
  have HH : Hid (RowAt .i32 w v xs ∧ Fine xs) := HR
  clear hv fx HR
  go_enter Try.func41, Try.ntmps41
  go_wp2
  go_loop [1] (fun a1 => ∃ p : Nat, a1 = .int .i64 p ∧ i ≤ p ∧ p ≤ xs.length ∧ blanksR (xs.drop p) = blanksR (xs.drop i)) (fun a1 => xs.length + 1 - (intOf a1).toNat)
  case atStart => exact ⟨i, rfl, Nat.le_refl _, hi, rfl⟩
  case round =>
    obtain ⟨p, rfl, hip, hp, hr⟩ := hrel
    have HRR : Hid (blanksR (xs.drop p) = blanksR (xs.drop i)) := hr
    clear hr
    have ha := rat_any HH.out.1 HH.out.2 p p rfl
    have hb := refBlank_any (hd xs p) w
    cases hz : blankZ (hd xs p)
    · rw [hz] at hb
      have HZ : Hid (blankZ (hd xs p) = false) := hz
      clear hz
      go_wp2_with (go_at_call 39; fail)
      refine (ha).mono ?_
      rintro e w' ⟨rfl, rfl⟩
      go_wp2_with (go_at_call 40; fail)
      refine (hb).mono ?_
      rintro e w' ⟨rfl, rfl⟩
      go_wp2
      go_ret
      exact ⟨p, rfl, by rw [← HRR.out, blanksR_stop HZ.out], hip, hp, rfl⟩
    · rw [hz] at hb
      obtain ⟨h1, h2⟩ := blanksR_at hz
      have HZ : Hid (blanksR (xs.drop p) = blanksR (xs.drop (p + 1))) := h1
      clear hz h1
      go_wp2_with (go_at_call 39; fail)
      refine (ha).mono ?_
      rintro e w' ⟨rfl, rfl⟩
      go_wp2_with (go_at_call 40; fail)
      refine (hb).mono ?_
      rintro e w' ⟨rfl, rfl⟩
      go_wp2
      go_round
      case rel => exact ⟨p + 1, by go_num, by omega, by omega, by rw [← HZ.out, HRR.out]⟩
      case measure => simp [intOf]; omega
theorem digitsR_at {xs : List Int} {p : Nat} (h : digitZ (hd xs p) = true) : digitsR (xs.drop p) = digitsR (xs.drop (p + 1)) ∧ p < xs.length := by
  by_cases hp : p < xs.length
  · rw [drop_hd hp, digitsR, if_pos h]
    exact ⟨rfl, hp⟩
  · rw [hd_end hp] at h
    exact absurd h (by decide)
theorem digitsR_stop {xs : List Int} {p : Nat} (h : digitZ (hd xs p) = false) : digitsR (xs.drop p) = xs.drop p := by
  by_cases hp : p < xs.length
  · rw [drop_hd hp, digitsR, if_neg (by simp [h])]
  · rw [List.drop_eq_nil_of_le (by omega)]
    rfl
set_option maxHeartbeats 400000 in
theorem rdigits_any {w : World} {v : Value} {xs : List Int} (hv : RowAt .i32 w v xs) (fx : Fine xs) (i : Nat) (j : Int) (hj : j = i) (hi : i ≤ xs.length) :
    Calls Try.prog 57 #[v, .int .i64 j] w fun e w' => ∃ p : Nat, e = .returned (.int .i64 p) ∧ xs.drop p = digitsR (xs.drop i) ∧ i ≤ p ∧ p ≤ xs.length ∧ w = w' := by
  subst hj
  have hl := fx.1
  have HR := And.intro hv fx
  have HH : Hid (RowAt .i32 w v xs ∧ Fine xs) := HR
  clear hv fx HR
  go_enter Try.func57, Try.ntmps57
  go_wp2
  go_loop [1] (fun a1 => ∃ p : Nat, a1 = .int .i64 p ∧ i ≤ p ∧ p ≤ xs.length ∧ digitsR (xs.drop p) = digitsR (xs.drop i)) (fun a1 => xs.length + 1 - (intOf a1).toNat)
  case atStart => exact ⟨i, rfl, Nat.le_refl _, hi, rfl⟩
  case round =>
    obtain ⟨p, rfl, hip, hp, hr⟩ := hrel
    have HRR : Hid (digitsR (xs.drop p) = digitsR (xs.drop i)) := hr
    clear hr
    have ha := rat_any HH.out.1 HH.out.2 p p rfl
    have hb := rdigit_any (hd xs p) w
    cases hz : digitZ (hd xs p)
    · rw [hz] at hb
      have HZ : Hid (digitZ (hd xs p) = false) := hz
      clear hz
      go_wp2_with (go_at_call 39; fail)
      refine (ha).mono ?_
      rintro e w' ⟨rfl, rfl⟩
      go_wp2_with (go_at_call 56; fail)
      refine (hb).mono ?_
      rintro e w' ⟨rfl, rfl⟩
      go_wp2
      go_ret
      exact ⟨p, rfl, by rw [← HRR.out, digitsR_stop HZ.out], hip, hp, rfl⟩
    · rw [hz] at hb
      obtain ⟨h1, h2⟩ := digitsR_at hz
      have HZ : Hid (digitsR (xs.drop p) = digitsR (xs.drop (p + 1))) := h1
      clear hz h1
      go_wp2_with (go_at_call 39; fail)
      refine (ha).mono ?_
      rintro e w' ⟨rfl, rfl⟩
      go_wp2_with (go_at_call 56; fail)
      refine (hb).mono ?_
      rintro e w' ⟨rfl, rfl⟩
      go_wp2
      go_round
      case rel => exact ⟨p + 1, by go_num, by omega, by omega, by rw [← HZ.out, HRR.out]⟩
      case measure => simp [intOf]; omega
set_option maxHeartbeats 1000000 in
theorem rsign_any (c : Int) (w : World) : Calls Try.prog 50 #[.int .i32 c] w fun e w' => e = .returned (.int .i64 (signZ c)) ∧ w = w' := by
  by_cases h58 : c = 58
  · subst h58
    have HE : Hid (signZ 58 = 16) := by show signZ 58 = 16; decide
    go_enter Try.func50, Try.ntmps50
    go_wp2
    go_ret
    exact ⟨ret_int (by rw [HE.out]), rfl⟩
  by_cases h59 : c = 59
  · subst h59
    have HE : Hid (signZ 59 = 17) := by show signZ 59 = 17; decide
    go_enter Try.func50, Try.ntmps50
    go_wp2
    go_ret
    exact ⟨ret_int (by rw [HE.out]), rfl⟩
  by_cases h44 : c = 44
  · subst h44
    have HE : Hid (signZ 44 = 18) := by show signZ 44 = 18; decide
    go_enter Try.func50, Try.ntmps50
    go_wp2
    go_ret
    exact ⟨ret_int (by rw [HE.out]), rfl⟩
  by_cases h91 : c = 91
  · subst h91
    have HE : Hid (signZ 91 = 19) := by show signZ 91 = 19; decide
    go_enter Try.func50, Try.ntmps50
    go_wp2
    go_ret
    exact ⟨ret_int (by rw [HE.out]), rfl⟩
  by_cases h93 : c = 93
  · subst h93
    have HE : Hid (signZ 93 = 20) := by show signZ 93 = 20; decide
    go_enter Try.func50, Try.ntmps50
    go_wp2
    go_ret
    exact ⟨ret_int (by rw [HE.out]), rfl⟩
  by_cases h40 : c = 40
  · subst h40
    have HE : Hid (signZ 40 = 21) := by show signZ 40 = 21; decide
    go_enter Try.func50, Try.ntmps50
    go_wp2
    go_ret
    exact ⟨ret_int (by rw [HE.out]), rfl⟩
  by_cases h41 : c = 41
  · subst h41
    have HE : Hid (signZ 41 = 22) := by show signZ 41 = 22; decide
    go_enter Try.func50, Try.ntmps50
    go_wp2
    go_ret
    exact ⟨ret_int (by rw [HE.out]), rfl⟩
  by_cases h123 : c = 123
  · subst h123
    have HE : Hid (signZ 123 = 23) := by show signZ 123 = 23; decide
    go_enter Try.func50, Try.ntmps50
    go_wp2
    go_ret
    exact ⟨ret_int (by rw [HE.out]), rfl⟩
  by_cases h125 : c = 125
  · subst h125
    have HE : Hid (signZ 125 = 24) := by show signZ 125 = 24; decide
    go_enter Try.func50, Try.ntmps50
    go_wp2
    go_ret
    exact ⟨ret_int (by rw [HE.out]), rfl⟩
  have HE : Hid (signZ c = 0) := by show signZ c = 0; simp [signZ, h58, h59, h44, h91, h93, h40, h41, h123, h125]
  have e58 : (c == 58) = false := by simpa using h58
  have e59 : (c == 59) = false := by simpa using h59
  have e44 : (c == 44) = false := by simpa using h44
  have e91 : (c == 91) = false := by simpa using h91
  have e93 : (c == 93) = false := by simpa using h93
  have e40 : (c == 40) = false := by simpa using h40
  have e41 : (c == 41) = false := by simpa using h41
  have e123 : (c == 123) = false := by simpa using h123
  have e125 : (c == 125) = false := by simpa using h125
  clear h58 h59 h44 h91 h93 h40 h41 h123 h125
  go_enter Try.func50, Try.ntmps50
  go_wp2
  go_ret
  exact ⟨ret_int (by rw [HE.out]), rfl⟩
set_option maxHeartbeats 1000000 in
theorem rcontrol_any (c : Int) (w : World) : Calls Try.prog 64 #[.int .i32 c] w fun e w' => e = .returned (.bool (ctrlZ c)) ∧ w = w' := by
  rcases (show c < 1 ∨ (1 ≤ c ∧ c ≤ 8) ∨ (8 < c ∧ c < 11) ∨ c = 11 ∨ (11 < c ∧ c < 14) ∨ (14 ≤ c ∧ c ≤ 31) ∨ (31 < c ∧ c < 127) ∨ c = 127 ∨ 127 < c by omega) with h | h | h | h | h | h | h | h | h
  · have HE : Hid (ctrlZ c = false) := by show ctrlZ c = false; simp [ctrlZ]; omega
    have l1 : c < 1 := by omega
    have e11 : (c == 11) = false := by simp; omega
    have l14 : c < 14 := by omega
    have e127 : (c == 127) = false := by simp; omega
    clear h
    go_enter Try.func64, Try.ntmps64
    go_wp2
    go_ret
    exact ⟨ret_bool (by rw [HE.out]; try (simp; try omega)), rfl⟩
  · have HE : Hid (ctrlZ c = true) := by show ctrlZ c = true; simp [ctrlZ]; omega
    have l1 : 1 ≤ c := by omega
    have l8 : c ≤ 8 := by omega
    clear h
    go_enter Try.func64, Try.ntmps64
    go_wp2
    go_ret
    exact ⟨ret_bool (by rw [HE.out]; try (simp; try omega)), rfl⟩
  · have HE : Hid (ctrlZ c = false) := by show ctrlZ c = false; simp [ctrlZ]; omega
    have l1 : 1 ≤ c := by omega
    have l8 : 8 < c := by omega
    have e11 : (c == 11) = false := by simp; omega
    have l14 : c < 14 := by omega
    have e127 : (c == 127) = false := by simp; omega
    clear h
    go_enter Try.func64, Try.ntmps64
    go_wp2
    go_ret
    exact ⟨ret_bool (by rw [HE.out]; try (simp; try omega)), rfl⟩
  · have HE : Hid (ctrlZ c = true) := by show ctrlZ c = true; simp [ctrlZ]; omega
    have l1 : 1 ≤ c := by omega
    have l8 : 8 < c := by omega
    have e11 : (c == 11) = true := by simp; omega
    clear h
    go_enter Try.func64, Try.ntmps64
    go_wp2
    go_ret
    exact ⟨ret_bool (by rw [HE.out]; try (simp; try omega)), rfl⟩
  · have HE : Hid (ctrlZ c = false) := by show ctrlZ c = false; simp [ctrlZ]; omega
    have l1 : 1 ≤ c := by omega
    have l8 : 8 < c := by omega
    have e11 : (c == 11) = false := by simp; omega
    have l14 : c < 14 := by omega
    have e127 : (c == 127) = false := by simp; omega
    clear h
    go_enter Try.func64, Try.ntmps64
    go_wp2
    go_ret
    exact ⟨ret_bool (by rw [HE.out]; try (simp; try omega)), rfl⟩
  · have HE : Hid (ctrlZ c = true) := by show ctrlZ c = true; simp [ctrlZ]; omega
    have l1 : 1 ≤ c := by omega
    have l8 : 8 < c := by omega
    have e11 : (c == 11) = false := by simp; omega
    have l14 : 14 ≤ c := by omega
    have l31 : c ≤ 31 := by omega
    clear h
    go_enter Try.func64, Try.ntmps64
    go_wp2
    go_ret
    exact ⟨ret_bool (by rw [HE.out]; try (simp; try omega)), rfl⟩
  · have HE : Hid (ctrlZ c = false) := by show ctrlZ c = false; simp [ctrlZ]; omega
    have l1 : 1 ≤ c := by omega
    have l8 : 8 < c := by omega
    have e11 : (c == 11) = false := by simp; omega
    have l14 : 14 ≤ c := by omega
    have l31 : 31 < c := by omega
    have e127 : (c == 127) = false := by simp; omega
    clear h
    go_enter Try.func64, Try.ntmps64
    go_wp2
    go_ret
    exact ⟨ret_bool (by rw [HE.out]; try (simp; try omega)), rfl⟩
  · have HE : Hid (ctrlZ c = true) := by show ctrlZ c = true; simp [ctrlZ]; omega
    have l1 : 1 ≤ c := by omega
    have l8 : 8 < c := by omega
    have e11 : (c == 11) = false := by simp; omega
    have l14 : 14 ≤ c := by omega
    have l31 : 31 < c := by omega
    have e127 : (c == 127) = true := by simp; omega
    clear h
    go_enter Try.func64, Try.ntmps64
    go_wp2
    go_ret
    exact ⟨ret_bool (by rw [HE.out]; try (simp; try omega)), rfl⟩
  · have HE : Hid (ctrlZ c = false) := by show ctrlZ c = false; simp [ctrlZ]; omega
    have l1 : 1 ≤ c := by omega
    have l8 : 8 < c := by omega
    have e11 : (c == 11) = false := by simp; omega
    have l14 : 14 ≤ c := by omega
    have l31 : 31 < c := by omega
    have e127 : (c == 127) = false := by simp; omega
    clear h
    go_enter Try.func64, Try.ntmps64
    go_wp2
    go_ret
    exact ⟨ret_bool (by rw [HE.out]; try (simp; try omega)), rfl⟩

/-! ### signs side by side, and comments -/

theorem runesOf (s : ByteArray) (zs : List Int) (hz : Conv.runesFrom s s.size 0 #[] = (zs.map (Value.int .i32)).toArray) (hl : zs.length ≤ 100) (w : World) :
    ∃ g cap W, (convert 9 49 (.string s)).run Try.prog w = .ok (.slice (some ⟨g, 0, none⟩) zs.length cap) W ∧ zs.length ≤ cap ∧ (∀ j, j < zs.length → W.cell? ⟨g, j, none⟩ = some (.int .i32 (zs.getD j 0))) ∧ Below w.heap.size w W := by
  have hsz : (Conv.runesFrom s s.size 0 #[]).size = zs.length := by rw [hz]; simp
  have hcv := run_runes_of_string (P := Try.prog) w 9 49 21 s Try.underlying9 Try.underlying49 Try.underlying21 (by rw [hsz]; omega)
  rw [hsz, hz] at hcv
  have hge := grownCap_ge w zs.length 0 21
  generalize grownCap w zs.length 0 21 = cap at *
  refine ⟨w.heap.size, cap, _, hcv, hge, fun j hj => ?_, ((Below.refl _ w).drew).alloc (Nat.le_refl _) _⟩
  have hnew := heap_alloc_new w.drew (.cells ((zs.map (Value.int .i32)).toArray ++ Array.replicate (cap - zs.length) (.int .i32 0)) 21)
  have hnew' : (w.drew.alloc (.cells ((zs.map (Value.int .i32)).toArray ++ Array.replicate (cap - zs.length) (.int .i32 0)) 21)).heap[w.heap.size]? = some (.cells ((zs.map (Value.int .i32)).toArray ++ Array.replicate (cap - zs.length) (.int .i32 0)) 21) := hnew
  simp only [World.cell?, hnew']
  rw [Array.getElem?_append_left (by simpa using hj)]
  simp [List.getD, hj]
theorem standsB_at {zs xs : List Int} {i k : Nat} (hk : k < zs.length) : standsB (zs.drop k) (xs.drop (i + k)) = (hd xs (i + k) == zs.getD k 0 && standsB (zs.drop (k + 1)) (xs.drop (i + (k + 1)))) := by
  rw [List.drop_eq_getElem_cons hk, standsB, hd_drop, List.drop_drop]
  simp [List.getD, hk, Nat.add_assoc]
set_option maxHeartbeats 1000000 in
theorem rstarts_any {w : World} {v : Value} {xs : List Int} (s : ByteArray) (zs : List Int) (hz : Conv.runesFrom s s.size 0 #[] = (zs.map (Value.int .i32)).toArray) (hzl : zs.length ≤ 100) (hv : RowAt .i32 w v xs) (fx : Fine xs) (i : Nat) (j : Int) (hj : j = i) (hi : i ≤ xs.length) :
    Calls Try.prog 29 #[v, .int .i64 j, .string s] w fun e w' => e = .returned (.bool (standsB zs (xs.drop i))) ∧ Below w.heap.size w w' := by
  subst hj
  have hl := fx.1
  obtain ⟨g, cap, W, hcv, hcap, hcell, hB⟩ := runesOf s zs hz hzl w
  have HH : Hid (RowAt .i32 W v xs ∧ Fine xs) := And.intro (hv.below hB) fx
  have HCELL : Hid (∀ j, j < zs.length → W.cell? ⟨g, j, none⟩ = some (.int .i32 (zs.getD j 0))) := hcell
  clear hz hv fx hcell
  go_enter Try.func29, Try.ntmps29
  go_wp2
  go_loop [12] (fun a1 => ∃ k : Nat, a1 = .int .i64 k ∧ k ≤ zs.length ∧ standsB (zs.drop k) (xs.drop (i + k)) = standsB zs (xs.drop i)) (fun a1 => zs.length + 1 - (intOf a1).toNat)
  case atStart => exact ⟨0, rfl, Nat.zero_le _, rfl⟩
  case round =>
    obtain ⟨k, rfl, hk, hr⟩ := hrel
    have HRR : Hid (standsB (zs.drop k) (xs.drop (i + k)) = standsB zs (xs.drop i)) := hr
    clear hr
    by_cases hlt : k < zs.length
    · have c0 := HCELL.out k hlt
      have ha := rat_any HH.out.1 HH.out.2 (i + k) ((i : Int) + k) (by omega)
      have HS : Hid (standsB (zs.drop k) (xs.drop (i + k)) = (hd xs (i + k) == zs.getD k 0 && standsB (zs.drop (k + 1)) (xs.drop (i + (k + 1))))) := standsB_at hlt
      generalize zs.getD k 0 = z at c0 HS
      generalize hd xs (i + k) = c at ha HS
      by_cases hc : c = z
      · subst hc
        have ec : (c != c) = false := by simp
        go_wp2_with (go_at_call 39; fail)
        refine (ha).mono ?_
        rintro e w' ⟨rfl, rfl⟩
        go_wp2
        go_round
        case rel => exact ⟨k + 1, by go_num, by omega, by rw [← HRR.out, HS.out]; simp⟩
        case measure => simp [intOf]; omega
      · have ec : (c != z) = true := by simpa using hc
        go_wp2_with (go_at_call 39; fail)
        refine (ha).mono ?_
        rintro e w' ⟨rfl, rfl⟩
        go_wp2
        go_ret
        exact ⟨ret_bool (by rw [← HRR.out, HS.out]; simp [hc]), hB⟩
    · go_wp2
      go_ret
      exact ⟨ret_bool (by rw [← HRR.out, List.drop_eq_nil_of_le (by omega)]; rfl), hB⟩
theorem comR_at {xs : List Int} {p : Nat} (h : p < xs.length) : comR (xs.drop p) = if standsB [42, 47] (xs.drop p) = true then xs.drop (p + 2) else comR (xs.drop (p + 1)) := by
  rw [drop_hd h, comR]
  have e : standsB [42, 47] (hd xs p :: xs.drop (p + 1)) = (hd xs p == 42 && (hd (xs.drop (p + 1)) 0 == 47 && true)) := rfl
  rw [e, List.drop_drop]
  simp
set_option maxHeartbeats 1000000 in
theorem rcomment_any {w : World} {v : Value} {xs : List Int} (hv : RowAt .i32 w v xs) (fx : Fine xs) (i : Nat) (j : Int) (hj : j = i) (hi : i + 2 ≤ xs.length) :
    Calls Try.prog 30 #[v, .int .i64 j] w fun e w' => ∃ p : Nat, e = .returned (.int .i64 p) ∧ xs.drop p = comR (xs.drop (i + 2)) ∧ i + 2 ≤ p ∧ p ≤ xs.length ∧ Below w.heap.size w w' := by
  subst hj
  have hl := fx.1
  obtain ⟨a, cap, rfl, hcap, hcs⟩ := hv
  have HH : Hid (RowAt .i32 w (.slice a xs.length cap) xs ∧ Fine xs) := And.intro ⟨a, cap, rfl, hcap, hcs⟩ fx
  clear fx hcs
  go_enter Try.func30, Try.ntmps30
  go_wp2
  go_loopw [1] (fun a1 wr => ∃ p : Nat, a1 = .int .i64 p ∧ i + 2 ≤ p ∧ p ≤ xs.length ∧ comR (xs.drop p) = comR (xs.drop (i + 2)) ∧ Below w.heap.size w wr) (fun a1 _ => xs.length + 1 - (intOf a1).toNat)
  case atStart => exact ⟨i + 2, by go_num, Nat.le_refl _, hi, rfl, Below.refl _ _⟩
  case round =>
    obtain ⟨p, rfl, hip, hp, hr, hB⟩ := hrel
    have HRR : Hid (comR (xs.drop p) = comR (xs.drop (i + 2))) := hr
    clear hr
    by_cases hlt : p < xs.length
    · have hst := rstarts_any (w := wr) ⟨#[42, 47]⟩ [42, 47] (by kernel_rfl) (by decide) (HH.out.1.below hB) HH.out.2 p p rfl hp
      have HC := comR_at hlt
      have HCC : Hid (comR (xs.drop p) = if standsB [42, 47] (xs.drop p) = true then xs.drop (p + 2) else comR (xs.drop (p + 1))) := HC
      clear HC
      cases hs : standsB [42, 47] (xs.drop p)
      · rw [hs] at hst
        have HS : Hid (standsB [42, 47] (xs.drop p) = false) := hs
        clear hs
        go_wp2_with (go_at_call 29; fail)
        refine (hst).mono ?_
        rintro e w2 ⟨rfl, b2⟩
        go_wp2
        go_roundw
        case rel => exact ⟨p + 1, by go_num, by omega, by omega, by rw [← HRR.out, HCC.out, HS.out]; simp, hB.trans (b2.mono hB.size)⟩
        case measure => simp [intOf]; omega
      · rw [hs] at hst
        have h2 : p + 2 ≤ xs.length := by
          by_cases h : p + 1 < xs.length
          · omega
          · exfalso
            have e : standsB [42, 47] (xs.drop p) = (hd (xs.drop p) 0 == 42 && (hd ((xs.drop p).drop 1) 0 == 47 && true)) := rfl
            rw [e, List.drop_drop, hd_drop, hd_drop, Nat.add_zero, Nat.add_zero, hd_end h] at hs
            simp at hs
        have HS : Hid (standsB [42, 47] (xs.drop p) = true) := hs
        clear hs
        go_wp2_with (go_at_call 29; fail)
        refine (hst).mono ?_
        rintro e w2 ⟨rfl, b2⟩
        go_wp2
        go_ret
        exact ⟨p + 2, rfl, by rw [← HRR.out, HCC.out, HS.out]; simp, by omega, by omega, hB.trans (b2.mono hB.size)⟩
    · go_wp2
      go_ret
      exact ⟨p, rfl, by rw [← HRR.out, List.drop_eq_nil_of_le (by omega)]; rfl, hip, hp, hB⟩
end Go.Proofs.Ytihdiaklhkecmab
