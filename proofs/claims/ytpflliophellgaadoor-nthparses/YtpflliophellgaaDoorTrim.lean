/- strings.Trim at a cutset of one blank. -/
import Derived.Test.YtpflliophellgaaDoorSignAhead
namespace Go.Proofs.YtpflliophellgaaDoor
open Go.RowKit

def leftL : List Int → List Int
  | [] => []
  | c :: r => if c = 32 then leftL r else c :: r
def rightL (l : List Int) : List Int := (leftL l.reverse).reverse

set_option maxHeartbeats 400000 in
set_option maxRecDepth 100000 in
theorem trimLeft_any (l : List Int) (hl : ∀ n ∈ l, 0 ≤ n ∧ n < 256) (hn : l.length ≤ 1000000) (w : World) :
    Calls Tryd.prog 35 #[.string (strOfNums l), .int .u8 32] w fun e w' => e = .returned (.string (strOfNums (leftL l))) ∧ w = w' := by
  go_enter Tryd.func35, Tryd.ntmps35
  go_wp2
  go_loop [0] (fun a0 => ∃ m : List Int, a0 = .string (strOfNums m) ∧ leftL m = leftL l ∧ m.length ≤ l.length ∧ ∀ n ∈ m, 0 ≤ n ∧ n < 256) (fun a0 => match a0 with | .string s => s.size | _ => 0)
  case atStart => exact ⟨l, rfl, rfl, Nat.le_refl _, hl⟩
  case round =>
    obtain ⟨m, rfl, hm, hml, hmb⟩ := hrel
    have HM := hid_mk hm
    clear hm
    have hsz := strOf_size m
    cases m with
    | nil =>
      have HR : Hid (leftL l = []) := HM.out.symm
      have he : strOfNums [] = ⟨#[]⟩ := rfl
      rw [he]
      clear hsz
      go_wp2
      go_ret
      exact ⟨by rw [HR.out]; rfl, rfl⟩
    | cons c r =>
      have h0 : 0 < (strOfNums (c :: r)).size := by rw [hsz]; simp
      have hc := hmb c (by simp)
      have hg : (((strOfNums (c :: r))[0]'h0).toNat : Int) = c := by
        have h1 := get_at (strOfNums (c :: r)) h0
        have h2 := str_get hmb 0
        rw [h1] at h2
        have h3 : ((c :: r).getD 0 0) = c := rfl
        rw [h3] at h2
        omega
      have HX : Hid ((strOfNums (c :: r)).extract 1 (strOfNums (c :: r)).size = strOfNums r) := by
        show _ = _
        rw [hsz]
        apply ByteArray.ext
        simp [strOfNums]
        exact List.take_of_length_le (by simp)
      have HLEN : Hid ((strOfNums (c :: r)).size = r.length + 1) := by show _ = _; rw [hsz]; rfl
      have hsb : (strOfNums (c :: r)).size ≤ 1000000 := by rw [hsz]; omega
      clear hsz
      generalize hse : strOfNums (c :: r) = s at *
      have HSE := hid_mk hse
      clear hse
      by_cases h32 : c = 32
      · have z1 : (((s[0]'h0).toNat : Int) == 32) = true := by rw [hg, h32]; rfl
        have HL : Hid (leftL r = leftL l) := by
          show _ = _
          rw [← HM.out, leftL, if_pos h32]
        clear hg
        go_wp2
        go_round
        case rel => exact ⟨r, congrArg Value.string HX.out, HL.out, by simp at hml; omega, fun n hn => hmb n (by simp [hn])⟩
        case measure =>
          show (s.extract 1 s.size).size < s.size
          rw [HX.out, strOf_size, HLEN.out]
          omega
      · have z1 : (((s[0]'h0).toNat : Int) == 32) = false := by rw [hg]; simpa using h32
        have HL : Hid (strOfNums (leftL l) = s) := by
          show _ = _
          rw [← HM.out, leftL, if_neg h32]
          exact HSE.out
        clear hg
        go_wp2
        go_ret
        exact ⟨by rw [HL.out]; rfl, rfl⟩

theorem nil_or_snoc (m : List Int) : m = [] ∨ ∃ r c, m = r ++ [c] := by
  rcases List.eq_nil_or_concat m with h | ⟨r, c, h⟩
  · exact .inl h
  · exact .inr ⟨r, c, by rw [h, List.concat_eq_append]⟩
theorem rightL_snoc (m : List Int) (c : Int) : rightL (m ++ [c]) = if c = 32 then rightL m else m ++ [c] := by
  unfold rightL
  rw [List.reverse_append, List.reverse_singleton, List.singleton_append, leftL]
  split
  · rfl
  · simp
theorem str_last (m : List Int) (c : Int) (hb : ∀ n ∈ m ++ [c], 0 ≤ n ∧ n < 256) (h : m.length < (strOfNums (m ++ [c])).size) : (((strOfNums (m ++ [c]))[m.length]'h).toNat : Int) = c := by
  have h1 : (strOfNums (m ++ [c])).get! m.length = (strOfNums (m ++ [c]))[m.length]'h := by
    show (strOfNums (m ++ [c])).data[m.length]! = (strOfNums (m ++ [c])).data[m.length]
    rw [getElem!_pos (strOfNums (m ++ [c])).data m.length h]
  have h2 := str_get hb m.length
  rw [h1] at h2
  have h3 : (m ++ [c]).getD m.length 0 = c := by simp [List.getD]
  rw [h3] at h2
  have hc := hb c (by simp)
  omega
set_option maxHeartbeats 400000 in
set_option maxRecDepth 100000 in
theorem trimRight_any (l : List Int) (hl : ∀ n ∈ l, 0 ≤ n ∧ n < 256) (hn : l.length ≤ 1000000) (w : World) :
    Calls Tryd.prog 36 #[.string (strOfNums l), .int .u8 32] w fun e w' => e = .returned (.string (strOfNums (rightL l))) ∧ w = w' := by
  go_enter Tryd.func36, Tryd.ntmps36
  go_wp2
  go_loop [0] (fun a0 => ∃ m : List Int, a0 = .string (strOfNums m) ∧ rightL m = rightL l ∧ m.length ≤ l.length ∧ ∀ n ∈ m, 0 ≤ n ∧ n < 256) (fun a0 => match a0 with | .string s => s.size | _ => 0)
  case atStart => exact ⟨l, rfl, rfl, Nat.le_refl _, hl⟩
  case round =>
    obtain ⟨m, rfl, hm, hml, hmb⟩ := hrel
    have HM := hid_mk hm
    clear hm
    have hsz := strOf_size m
    rcases (show m = [] ∨ ∃ r c, m = r ++ [c] by exact nil_or_snoc m) with rfl | ⟨r, c, rfl⟩
    · have HR : Hid (rightL l = []) := HM.out.symm
      have he : strOfNums [] = ⟨#[]⟩ := rfl
      rw [he]
      clear hsz
      go_wp2
      go_ret
      exact ⟨by rw [HR.out]; rfl, rfl⟩
    · have hlast : r.length < (strOfNums (r ++ [c])).size := by rw [hsz]; simp
      have hg := str_last r c hmb hlast
      have HX : Hid ((strOfNums (r ++ [c])).extract 0 r.length = strOfNums r) := by
        show _ = _
        apply ByteArray.ext
        simp [strOfNums]
      have hlen : (strOfNums (r ++ [c])).size = r.length + 1 := by rw [hsz]; simp
      have hrl : r.length + 1 ≤ 1000000 := by simp at hml; omega
      clear hsz
      generalize hse : strOfNums (r ++ [c]) = s at *
      have HSE := hid_mk hse
      clear hse
      by_cases h32 : c = 32
      · have z1 : (((s[r.length]'hlast).toNat : Int) == 32) = true := by rw [hg, h32]; rfl
        have HL : Hid (rightL r = rightL l) := by
          show _ = _
          rw [← HM.out, rightL_snoc, if_pos h32]
        clear hg
        go_wp2
        go_round
        case rel => exact ⟨r, congrArg Value.string HX.out, HL.out, by simp at hml; omega, fun n hn => hmb n (by simp [hn])⟩
        case measure =>
          show (s.extract 0 r.length).size < s.size
          rw [HX.out, strOf_size, hlen]
          omega
      · have z1 : (((s[r.length]'hlast).toNat : Int) == 32) = false := by rw [hg]; simpa using h32
        have HL : Hid (strOfNums (rightL l) = s) := by
          show _ = _
          rw [← HM.out, rightL_snoc, if_neg h32]
          exact HSE.out
        clear hg
        go_wp2
        go_ret
        exact ⟨by rw [HL.out]; rfl, rfl⟩

theorem leftL_byte : ∀ (l : List Int), (∀ n ∈ l, 0 ≤ n ∧ n < 256) → ∀ n ∈ leftL l, 0 ≤ n ∧ n < 256
  | [], _, n, hn => by cases hn
  | c :: r, h, n, hn => by
    rw [leftL] at hn
    split at hn
    · exact leftL_byte r (fun m hm => h m (by simp [hm])) n hn
    · exact h n hn
theorem rightL_byte (l : List Int) (h : ∀ n ∈ l, 0 ≤ n ∧ n < 256) : ∀ n ∈ rightL l, 0 ≤ n ∧ n < 256 := by
  intro n hn
  unfold rightL at hn
  exact leftL_byte l.reverse (fun m hm => h m (by simpa using hm)) n (by simpa using hn)
theorem leftL_len : ∀ l : List Int, (leftL l).length ≤ l.length
  | [] => Nat.le_refl _
  | c :: r => by
    rw [leftL]
    have := leftL_len r
    split
    · rw [List.length_cons]; omega
    · exact Nat.le_refl _
theorem rightL_len (l : List Int) : (rightL l).length ≤ l.length := by
  unfold rightL
  have := leftL_len l.reverse
  simpa using this
set_option maxHeartbeats 400000 in
set_option maxRecDepth 100000 in
/-- strings.Trim of blanks. -/
theorem trim_any (l : List Int) (hl : ∀ n ∈ l, 0 ≤ n ∧ n < 256) (hn : l.length ≤ 1000000) (w : World) :
    Calls Tryd.prog 19 #[.string (strOfNums l), .string ⟨#[32]⟩] w fun e w' => e = .returned (.string (strOfNums (leftL (rightL l)))) ∧ Below w.heap.size w w' := by
  have hr := fun w => trimRight_any l hl hn w
  have hle := fun w => trimLeft_any (rightL l) (rightL_byte l hl) (Nat.le_trans (rightL_len l) hn) w
  have hsz := strOf_size l
  cases l with
  | nil =>
    have he : strOfNums [] = ⟨#[]⟩ := rfl
    rw [he]
    clear hsz hr hle
    go_enter Tryd.func19, Tryd.ntmps19
    go_wp2
    go_ret
    exact ⟨rfl, Below.refl _ w⟩
  | cons c r =>
    have h0 : 0 < (strOfNums (c :: r)).size := by rw [hsz]; simp
    have h3 : ((strOfNums (c :: r)).toList == []) = false := by
      rw [Bool.eq_false_iff]
      intro h2
      rw [beq_iff_eq, ByteArray.toList_eq] at h2
      have h4 := congrArg List.length h2
      have h5 : (strOfNums (c :: r)).size = 0 := by simpa using h4
      omega
    have h4 : (strOfNums (c :: r) == ⟨#[]⟩) = false := by rw [beq_toListBytes, ByteArray.toList_eq ⟨#[]⟩]; exact h3
    generalize strOfNums (leftL (rightL (c :: r))) = T at *
    generalize strOfNums (rightL (c :: r)) = R at *
    generalize strOfNums (c :: r) = s at *
    clear hsz hl hn h0
    have hb32 : (((⟨#[32]⟩ : ByteArray)[0]'(by decide)).toNat : Int) = 32 := rfl
    go_enter Tryd.func19, Tryd.ntmps19
    go_wp2
    go_quiet (first | (go_at_call 36; refine Calls.quiet_of_same ((hr _).mono fun _ _ ⟨x, y⟩ => ⟨x, y.symm⟩)) | (go_at_call 35; refine Calls.quiet_of_same ((hle _).mono fun _ _ ⟨x, y⟩ => ⟨x, y.symm⟩)))
    go_wp2
    go_ret
    exact ⟨rfl, below_drewN3 _ _ _⟩

end Go.Proofs.YtpflliophellgaaDoor
