/- The document's Name. -/
import Derived.Test.YtecbgleidohjpaaNewN
import Derived.Test.YtecbgleidohjpaaRfD
import Derived.Laws.IdiomStrings
namespace Go.Proofs.Ytecbgleidohjpaa.N
open Go.RowKit
set_option maxRecDepth 100000

def bytesOk (s : ByteArray) : Nat → Nat → Bool
  | 0, _ => true
  | f + 1, pos => if pos < s.size then fitZ (pos == 0) (s.get! pos).toNat && bytesOk s f (pos + 1) else true

theorem fit_high (first : Bool) (c : Int) (h : 128 ≤ c) : fitZ first c = false := by
  have h1 : smallZ c = false := by simp only [smallZ, Bool.and_eq_false_iff, decide_eq_false_iff_not]; omega
  have h2 : digitZ c = false := by simp only [digitZ, Bool.and_eq_false_iff, decide_eq_false_iff_not]; omega
  have h3 : (c == 45) = false := beq_eq_false_iff_ne.2 (by omega)
  have h4 : (c == 95) = false := beq_eq_false_iff_ne.2 (by omega)
  cases first <;> simp [fitZ, h1, h2, h3, h4]

theorem names_bytes (s : ByteArray) : ∀ fuel pos, namesZ (pos == 0) (charsFrom s fuel pos) = bytesOk s fuel pos
  | 0, _ => rfl
  | f + 1, pos => by
    by_cases hp : pos < s.size
    · have hg : s.get! pos = s[pos]'hp := get_at s pos hp
      simp only [charsFrom, bytesOk, if_pos hp, namesZ, hg]
      by_cases ha : (s[pos]'hp).toNat < 128
      · rw [decode_ascii s pos hp ha]
        have := names_bytes s f (pos + 1)
        rw [show (pos + 1 == 0) = false by simp] at this
        rw [this]
      · rw [fit_high _ _ (by have := (decode_high s pos hp (by omega)).1; omega), fit_high _ _ (by omega)]
        simp
    · simp [charsFrom, bytesOk, hp, namesZ]

theorem bytesOk_end (s : ByteArray) (f pos : Nat) (h : ¬ pos < s.size) : bytesOk s f pos = true := by
  cases f <;> simp [bytesOk, h]

theorem fit_yes0 {c : Int} (h1 : 97 ≤ c) (h2 : c ≤ 122) (first : Bool) : fitZ first c = true := by
  cases first <;> simp [fitZ, smallZ, h1, h2]
theorem fit_no0 {c : Int} (h : ¬ (97 ≤ c ∧ c ≤ 122)) : fitZ true c = false := by
  simp only [fitZ, smallZ, if_true, Bool.and_eq_false_iff, decide_eq_false_iff_not]; omega
theorem fit_rest {c : Int} : fitZ false c = decide ((97 ≤ c ∧ c ≤ 122) ∨ (48 ≤ c ∧ c ≤ 57) ∨ c = 45 ∨ c = 95) := by
  rw [Bool.eq_iff_iff]
  simp [fitZ, smallZ, digitZ]
  omega

set_option maxHeartbeats 4000000 in
set_option maxRecDepth 1000000 in
theorem refName_loop (s : ByteArray) (w : World) (hs : s.size ≤ 281474976710656) :
    Calls Try.prog 31 #[.string s] w fun e w' => e = .returned (.bool (bytesOk s s.size 0 && (decide (1 ≤ s.size) && decide (s.size ≤ 64)))) ∧ w = w' := by
  go_enter Try.func31, Try.ntmps31
  go_wp2
  go_loop [3] (fun i => ∃ k f : Nat, k ≤ s.size ∧ i = .int .i64 k ∧ bytesOk s f k = bytesOk s s.size 0 ∧ s.size ≤ k + f) (fun i => s.size - (intOf i).toNat)
  case atStart => exact ⟨0, s.size, Nat.zero_le _, rfl, rfl, by omega⟩
  case round =>
    obtain ⟨k, f, hk, rfl, hok, hf⟩ := hrel
    by_cases hlt : k < s.size
    · obtain ⟨f, rfl⟩ : ∃ g, f = g + 1 := ⟨f - 1, by omega⟩
      simp only [bytesOk, if_pos hlt] at hok
      rw [show s.get! k = s[k]'hlt from get_at s k hlt] at hok
      obtain ⟨c, hc⟩ : ∃ c : Nat, (s[k]'hlt).toNat = c := ⟨_, rfl⟩
      rw [hc] at hok
      have HO : Hid ((fitZ (k == 0) c && bytesOk s f (k + 1)) = bytesOk s s.size 0) := hok
      clear hok
      rcases (show (97 ≤ c ∧ c ≤ 122) ∨ ¬ (97 ≤ c ∧ c ≤ 122) by omega) with ⟨h1, h2⟩ | h1
      · go_wp2
        go_round
        case rel => exact ⟨k + 1, f, by omega, by go_num, by rw [← HO.out, fit_yes0 (by omega) (by omega)]; simp, by omega⟩
        case measure => simp [intOf]; omega
      · by_cases hk0 : k = 0
        · subst hk0
          have HF : Hid (bytesOk s s.size 0 = false) := by
            show _ = _
            rw [← HO.out, show ((0 : Nat) == 0) = true from rfl, fit_no0 (by omega)]
            rfl
          clear HO
          rcases (show c < 97 ∨ 122 < c by omega) with h2 | h2
          · clear h1
            go_wp2
            go_ret
            exact ⟨ret_bool (by rw [HF.out]; rfl), rfl⟩
          · clear h1
            have e122 : decide ((c : Int) ≤ 122) = false := decide_eq_false (by omega)
            go_wp2
            go_ret
            exact ⟨ret_bool (by rw [HF.out]; rfl), rfl⟩
        · have e0 : ((k : Int) == 0) = false := beq_eq_false_iff_ne.2 (by omega)
          have HO2 : Hid ((fitZ false c && bytesOk s f (k + 1)) = bytesOk s s.size 0) := by
            have := HO.out
            rw [show (k == 0) = false from beq_eq_false_iff_ne.2 hk0] at this
            exact this
          clear HO hk0
          rcases (show (48 ≤ c ∧ c ≤ 57) ∨ c = 45 ∨ c = 95 ∨ c < 45 ∨ (46 ≤ c ∧ c < 48) ∨ (58 ≤ c ∧ c < 95) ∨ c = 96 ∨ 122 < c by omega) with ⟨h2, h3⟩ | h2 | h2 | h2 | ⟨h2, h3⟩ | ⟨h2, h3⟩ | h2 | h2
          · have HR : Hid (bytesOk s f (k + 1) = bytesOk s s.size 0) := by
              show _ = _
              rw [← HO2.out, fit_rest, decide_eq_true (by omega)]
              rfl
            clear HO2 h1
            go_wp2
            go_round
            case rel => exact ⟨k + 1, f, by omega, by go_num, HR.out, by omega⟩
            case measure => simp [intOf]; omega
          · have HR : Hid (bytesOk s f (k + 1) = bytesOk s s.size 0) := by
              show _ = _
              rw [← HO2.out, fit_rest, decide_eq_true (by omega)]
              rfl
            clear HO2 h1
            subst h2
            go_wp2
            go_round
            case rel => exact ⟨k + 1, f, by omega, by go_num, HR.out, by omega⟩
            case measure => simp [intOf]; omega
          · have HR : Hid (bytesOk s f (k + 1) = bytesOk s s.size 0) := by
              show _ = _
              rw [← HO2.out, fit_rest, decide_eq_true (by omega)]
              rfl
            clear HO2 h1
            subst h2
            go_wp2
            go_round
            case rel => exact ⟨k + 1, f, by omega, by go_num, HR.out, by omega⟩
            case measure => simp [intOf]; omega
          · have HF : Hid (bytesOk s s.size 0 = false) := by
              show _ = _
              rw [← HO2.out, fit_rest, decide_eq_false (by omega)]
              rfl
            clear HO2 h1
            have e45 : ((c : Int) == 45) = false := beq_eq_false_iff_ne.2 (by omega)
            have e95 : ((c : Int) == 95) = false := beq_eq_false_iff_ne.2 (by omega)
            go_wp2
            go_ret
            exact ⟨ret_bool (by rw [HF.out]; rfl), rfl⟩
          · have HF : Hid (bytesOk s s.size 0 = false) := by
              show _ = _
              rw [← HO2.out, fit_rest, decide_eq_false (by omega)]
              rfl
            clear HO2 h1
            have e45 : ((c : Int) == 45) = false := beq_eq_false_iff_ne.2 (by omega)
            have e95 : ((c : Int) == 95) = false := beq_eq_false_iff_ne.2 (by omega)
            go_wp2
            go_ret
            exact ⟨ret_bool (by rw [HF.out]; rfl), rfl⟩
          · have HF : Hid (bytesOk s s.size 0 = false) := by
              show _ = _
              rw [← HO2.out, fit_rest, decide_eq_false (by omega)]
              rfl
            clear HO2 h1
            have e45 : ((c : Int) == 45) = false := beq_eq_false_iff_ne.2 (by omega)
            have e57 : decide ((c : Int) ≤ 57) = false := decide_eq_false (by omega)
            have e95 : ((c : Int) == 95) = false := beq_eq_false_iff_ne.2 (by omega)
            go_wp2
            go_ret
            exact ⟨ret_bool (by rw [HF.out]; rfl), rfl⟩
          · have HF : Hid (bytesOk s s.size 0 = false) := by
              show _ = _
              rw [← HO2.out, fit_rest, decide_eq_false (by omega)]
              rfl
            clear HO2 h1
            subst h2
            go_wp2
            go_ret
            exact ⟨ret_bool (by rw [HF.out]; rfl), rfl⟩
          · have HF : Hid (bytesOk s s.size 0 = false) := by
              show _ = _
              rw [← HO2.out, fit_rest, decide_eq_false (by omega)]
              rfl
            clear HO2 h1
            have e45 : ((c : Int) == 45) = false := beq_eq_false_iff_ne.2 (by omega)
            have e57 : decide ((c : Int) ≤ 57) = false := decide_eq_false (by omega)
            have e122 : decide ((c : Int) ≤ 122) = false := decide_eq_false (by omega)
            have e95 : ((c : Int) == 95) = false := beq_eq_false_iff_ne.2 (by omega)
            go_wp2
            go_ret
            exact ⟨ret_bool (by rw [HF.out]; rfl), rfl⟩
    · have HT : Hid (bytesOk s s.size 0 = true) := by
        show _ = _
        rw [← hok]
        exact bytesOk_end s f k hlt
      clear hok
      rcases (show s.size < 1 ∨ (1 ≤ s.size ∧ s.size ≤ 64) ∨ 64 < s.size by omega) with h1 | ⟨h1, h2⟩ | h1
      · go_wp2
        go_ret
        exact ⟨ret_bool (by rw [HT.out, Bool.true_and, Bool.eq_iff_iff]; simp; try omega), rfl⟩
      · go_wp2
        go_ret
        exact ⟨ret_bool (by rw [HT.out]; first | (exact decide_eq_true (by omega)) | (rw [Bool.true_and, Bool.eq_iff_iff]; simp; try omega)), rfl⟩
      · go_wp2
        go_ret
        exact ⟨ret_bool (by rw [HT.out, Bool.true_and, Bool.eq_iff_iff]; simp; try omega), rfl⟩

theorem refName_any (s : ByteArray) (w : World) (hs : s.size ≤ 281474976710656) :
    Calls Try.prog 31 #[.string s] w fun e w' => e = .returned (.bool (nameZ s)) ∧ w = w' := by
  have e : nameZ s = (bytesOk s s.size 0 && (decide (1 ≤ s.size) && decide (s.size ≤ 64))) := by
    unfold nameZ
    split
    · rename_i h
      rcases h with h | h
      · simp [h]
      · simp [show ¬ s.size ≤ 64 by omega]
    · have := names_bytes s s.size 0
      unfold chars
      rw [show ((0 : Nat) == 0) = true from rfl] at this
      rw [this]
      simp [show 1 ≤ s.size by omega, show s.size ≤ 64 by omega]
  rw [e]
  exact refName_loop s w hs

/-! ### Fold -/
end Go.Proofs.Ytecbgleidohjpaa.N
