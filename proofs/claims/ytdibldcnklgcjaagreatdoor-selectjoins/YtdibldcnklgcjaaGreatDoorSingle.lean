/- The cutter's way over one sign. -/
import Derived.Test.YtdibldcnklgcjaaGreatDoorNames
import Derived.Lib.Bytealg
import Derived.WalkMore
namespace Go.Proofs.YtdibldcnklgcjaaGreatDoor
open Go.RowKit
set_option maxRecDepth 100000

set_option maxHeartbeats 1000000 in
set_option maxRecDepth 100000 in
theorem lite_any (s : ByteArray) (c : Int) (w : World) : Calls Tryz.prog 100 #[.string s, .int .u8 c] w fun e w' => e = .returned (.int .i64 (Lib.indexByte s.data.toList c.toNat.toUInt8)) ∧ w = w' := by
  go_enter Tryz.func100, Tryz.ntmps100
  go_wp2
  rw [run_callFunc_extern Tryz.func109 (by kernel_rfl) (by kernel_rfl) (by kernel_rfl) (e := Extern.BytealgIndexByte.indexByte) (by kernel_rfl), Lib.run_indexByteString]
  simp only [Result.andThen]
  rw [Oper.upon_value]
  go_wp2
  go_ret
  exact ⟨rfl, rfl⟩
theorem index_any (s : ByteArray) (c : Int) (w : World) : Calls Tryz.prog 85 #[.string s, .int .u8 c] w fun e w' => e = .returned (.int .i64 (Lib.indexByte s.data.toList c.toNat.toUInt8)) ∧ w = w' := by
  go_enter Tryz.func85, Tryz.ntmps85
  go_wp2_with (go_at_call 100; fail)
  refine (lite_any _ _ _).mono ?_
  rintro e w' ⟨rfl, rfl⟩
  go_wp2
  go_ret
  exact ⟨rfl, rfl⟩

def signI (c : Int) : Int := if 0 < signZ c then signZ c - 16 else -1
theorem sign_ascii (c : Int) (h0 : 0 ≤ c) (h1 : c < 128) : Lib.indexByte [58, 59, 44, 91, 93, 40, 41, 123, 125] c.toNat.toUInt8 = signI c := by
  obtain ⟨n, rfl⟩ : ∃ n : Nat, c = n := ⟨c.toNat, by omega⟩
  have hn : n < 128 := by omega
  have key : ∀ m : Fin 128, Lib.indexByte [58, 59, 44, 91, 93, 40, 41, 123, 125] ((m.val : Int)).toNat.toUInt8 = signI (m.val : Int) := by decide +kernel
  exact key ⟨n, hn⟩
theorem sign_high (c : Int) (h : 128 ≤ c) : signI c = -1 := by
  unfold signI signZ
  simp only [show ¬ c = 58 by omega, show ¬ c = 59 by omega, show ¬ c = 44 by omega, show ¬ c = 91 by omega, show ¬ c = 93 by omega, show ¬ c = 40 by omega, show ¬ c = 41 by omega, show ¬ c = 123 by omega, show ¬ c = 125 by omega, if_false]
  rfl

set_option maxHeartbeats 2000000 in
set_option maxRecDepth 100000 in
theorem find_ascii (c : Int) (w : World) (h0 : 0 ≤ c) (h1 : c < 128) : Calls Tryz.prog 62 #[.string ⟨#[58, 59, 44, 91, 93, 40, 41, 123, 125]⟩, .int .i32 c] w fun e w' => e = .returned (.int .i64 (signI c)) ∧ Below w.heap.size w w' := by
  have HS : Hid (Lib.indexByte [58, 59, 44, 91, 93, 40, 41, 123, 125] c.toNat.toUInt8 = signI c) := sign_ascii c h0 h1
  go_enter Tryz.func62, Tryz.ntmps62
  go_wp2_with (go_at_call 85; fail)
  refine (index_any _ c _).mono ?_
  rintro e w' ⟨rfl, rfl⟩
  go_wp2
  go_ret
  exact ⟨ret_int HS.out, Below.refl _ _⟩

theorem ascS : ∀ k (h : k < (⟨#[58, 59, 44, 91, 93, 40, 41, 123, 125]⟩ : ByteArray).size), ((⟨#[58, 59, 44, 91, 93, 40, 41, 123, 125]⟩ : ByteArray)[k]'h).toNat < 128 := by decide

set_option maxHeartbeats 2000000 in
set_option maxRecDepth 100000 in
theorem find_bad (w : World) : Calls Tryz.prog 62 #[.string ⟨#[58, 59, 44, 91, 93, 40, 41, 123, 125]⟩, .int .i32 65533] w fun e w' => e = .returned (.int .i64 (signI 65533)) ∧ Below w.heap.size w w' := by
  have HS : Hid (signI 65533 = -1) := sign_high 65533 (by omega)
  go_enter Tryz.func62, Tryz.ntmps62
  go_wp2
  go_loopw [] (fun wr => ∃ k : Nat, k ≤ 9 ∧ wr.heap[w.heap.size]? = some (.stringIter ⟨#[58, 59, 44, 91, 93, 40, 41, 123, 125]⟩ k) ∧ Below w.heap.size w wr) (fun wr => 9 - wr.iterPos w.heap.size)
  case atStart => exact ⟨0, Nat.zero_le _, World.iter_heap w _ 0, Below.iter (Below.refl _ w) (Nat.le_refl _) _ 0⟩
  case round =>
    obtain ⟨k, hk, hit, hbw⟩ := hrel
    have hsz : (⟨#[58, 59, 44, 91, 93, 40, 41, 123, 125]⟩ : ByteArray).size = 9 := rfl
    by_cases hp : k < (⟨#[58, 59, 44, 91, 93, 40, 41, 123, 125]⟩ : ByteArray).size
    · have hnx : ∀ ty, (Instr.next (.pointer (some ⟨w.heap.size, 0, none⟩)) true ty).run Tryz.prog wr = _ := fun ty => Lib.run_next_ascii_at wr w.heap.size _ k ty hit hp (ascS k hp)
      have hit3 := Lib.iterAt_heap wr w.heap.size _ k (k + 1) hit
      have hbw3 := Lib.below_iterAt hbw (k := w.heap.size) (Nat.le_refl _) ⟨#[58, 59, 44, 91, 93, 40, 41, 123, 125]⟩ (k + 1)
      have hc8 := ascS k hp
      generalize (((⟨#[58, 59, 44, 91, 93, 40, 41, 123, 125]⟩ : ByteArray)[k]'hp).toNat) = c at *
      generalize wr.iterAt w.heap.size ⟨#[58, 59, 44, 91, 93, 40, 41, 123, 125]⟩ (k + 1) = W at *
      have hce : ((c : Int) == 65533) = false := by simp; omega
      go_wp2
      go_roundw
      case rel => exact ⟨k + 1, by omega, hit3, hbw3⟩
      case measure =>
        simp only [World.iterPos, hit3, hit]
        omega
    · have hnx : ∀ ty, (Instr.next (.pointer (some ⟨w.heap.size, 0, none⟩)) true ty).run Tryz.prog wr = _ := fun ty => Lib.run_next_end_at wr w.heap.size _ k ty hit hp
      go_wp2
      go_ret
      exact ⟨ret_int (by rw [HS.out]), hbw⟩

theorem index_none : ∀ (l : List UInt8) (c : UInt8), (∀ x ∈ l, x ≠ c) → Lib.indexByte l c = -1
  | [], _, _ => rfl
  | x :: r, c, h => by
    have h1 : (x == c) = false := by simpa using h x (by simp)
    rw [Lib.indexByte, h1, index_none r c (fun y hy => h y (by simp [hy]))]
    rfl
theorem high_index (l : List UInt8) (n : Nat) (hl : ∀ x ∈ l, x.toNat < 128) (h0 : 128 ≤ n) (h1 : n < 256) : Lib.indexByte l ((n : Int)).toNat.toUInt8 = -1 := by
  apply index_none
  intro x hx e
  have := hl x hx
  rw [e] at this
  have e2 : ((n : Int)).toNat.toUInt8.toNat = n := by
    have : ((n : Int)).toNat = n := by omega
    rw [this]
    show (UInt8.ofNat n).toNat = n
    simp only [UInt8.toNat_ofNat']
    omega
  omega

theorem index_high (s : ByteArray) (n : Nat) (w : World) (hs : ∀ x ∈ s.data.toList, x.toNat < 128) (h0 : 128 ≤ n) (h1 : n < 256) : Calls Tryz.prog 85 #[.string s, .int .u8 n] w fun e w' => e = .returned (.int .i64 (-1)) ∧ w = w' := by
  have := index_any s n w
  rw [high_index _ n hs h0 h1] at this
  exact this

set_option maxHeartbeats 2000000 in
set_option maxRecDepth 100000 in
theorem find_2 (c : Int) (w : World) (a z : UInt8) (h0 : 128 ≤ c) (eb : (c == 65533) = false) (hv : ∀ w, Calls Tryz.prog 86 #[.int .i32 c] w fun e w' => e = .returned (.bool true) ∧ w = w') (hz : 128 ≤ z.toNat)
    (hconv : ∀ w, (convert 21 9 (.int .i32 c)).run Tryz.prog w = .ok (.string ⟨#[a, z]⟩) w) :
    Calls Tryz.prog 62 #[.string ⟨#[58, 59, 44, 91, 93, 40, 41, 123, 125]⟩, .int .i32 c] w fun e w' => e = .returned (.int .i64 (-1)) ∧ Below w.heap.size w w' := by
  have hz8 : z.toNat < 256 := z.toNat_lt
  have hz2 : 128 ≤ ((⟨#[a, z]⟩ : ByteArray)[1]'(show 1 < 2 by decide)).toNat := hz
  have hz3 : ((⟨#[a, z]⟩ : ByteArray)[1]'(show 1 < 2 by decide)).toNat < 256 := hz8
  have hn2 : ((((⟨#[58, 59, 44, 91, 93, 40, 41, 123, 125]⟩ : ByteArray)[1]'(show 1 < 9 by decide)).toNat : Int) != (((⟨#[a, z]⟩ : ByteArray)[1]'(show 1 < 2 by decide)).toNat : Int)) = true := by
    have e1 : ((⟨#[58, 59, 44, 91, 93, 40, 41, 123, 125]⟩ : ByteArray)[1]'(show 1 < 9 by decide)).toNat = 59 := rfl
    rw [e1]
    simp
    omega
  go_enter Tryz.func62, Tryz.ntmps62
  go_wp2_with (go_at_call 86; fail)
  refine (hv _).mono ?_
  rintro e w' ⟨rfl, rfl⟩
  go_wp2
  go_step3
  go_wp2
  go_loopw [9, 10] (fun i f wr => i = .int .i64 1 ∧ f = .int .i64 0 ∧ wr = w) (fun _ _ _ => 0)
  case atStart => exact ⟨rfl, rfl, rfl⟩
  case round =>
    obtain ⟨rfl, rfl, rfl⟩ := hrel
    go_wp2
    go_step3
    go_wp2
    go_quiet (fail)
    go_wp2
    go_region_with (go_at_call 85; refine (index_high _ _ _ (by decide) hz2 hz3).mono ?_; rintro e w' ⟨rfl, rfl⟩)
    all_goals go_wp2
    all_goals (try simp only [Exit.noGoto_ret, Exit.inBlock])
    all_goals show bodyPost Tryz.prog Tryz.f62 (fun e w' => e = .returned (.int .i64 (-1)) ∧ Below wr.heap.size wr w') Exit.ret _ _
    all_goals go_ret
    all_goals exact ⟨rfl, (Kept.drewN wr.heap.size wr _).below (Nat.le_refl _)⟩

set_option maxHeartbeats 2000000 in
set_option maxRecDepth 100000 in
theorem find_3 (c : Int) (w : World) (a b1 z : UInt8) (h0 : 128 ≤ c) (eb : (c == 65533) = false) (hv : ∀ w, Calls Tryz.prog 86 #[.int .i32 c] w fun e w' => e = .returned (.bool true) ∧ w = w') (hz : 128 ≤ z.toNat)
    (hconv : ∀ w, (convert 21 9 (.int .i32 c)).run Tryz.prog w = .ok (.string ⟨#[a, b1, z]⟩) w) :
    Calls Tryz.prog 62 #[.string ⟨#[58, 59, 44, 91, 93, 40, 41, 123, 125]⟩, .int .i32 c] w fun e w' => e = .returned (.int .i64 (-1)) ∧ Below w.heap.size w w' := by
  have hz8 : z.toNat < 256 := z.toNat_lt
  have hz2 : 128 ≤ ((⟨#[a, b1, z]⟩ : ByteArray)[2]'(show 2 < 3 by decide)).toNat := hz
  have hz3 : ((⟨#[a, b1, z]⟩ : ByteArray)[2]'(show 2 < 3 by decide)).toNat < 256 := hz8
  have hn2 : ((((⟨#[58, 59, 44, 91, 93, 40, 41, 123, 125]⟩ : ByteArray)[2]'(show 2 < 9 by decide)).toNat : Int) != (((⟨#[a, b1, z]⟩ : ByteArray)[2]'(show 2 < 3 by decide)).toNat : Int)) = true := by
    have e1 : ((⟨#[58, 59, 44, 91, 93, 40, 41, 123, 125]⟩ : ByteArray)[2]'(show 2 < 9 by decide)).toNat = 44 := rfl
    rw [e1]
    simp
    omega
  go_enter Tryz.func62, Tryz.ntmps62
  go_wp2_with (go_at_call 86; fail)
  refine (hv _).mono ?_
  rintro e w' ⟨rfl, rfl⟩
  go_wp2
  go_step3
  go_wp2
  go_loopw [9, 10] (fun i f wr => i = .int .i64 2 ∧ f = .int .i64 0 ∧ wr = w) (fun _ _ _ => 0)
  case atStart => exact ⟨rfl, rfl, rfl⟩
  case round =>
    obtain ⟨rfl, rfl, rfl⟩ := hrel
    go_wp2
    go_step3
    go_wp2
    go_quiet (fail)
    go_wp2
    go_region_with (go_at_call 85; refine (index_high _ _ _ (by decide) hz2 hz3).mono ?_; rintro e w' ⟨rfl, rfl⟩)
    all_goals go_wp2
    all_goals (try simp only [Exit.noGoto_ret, Exit.inBlock])
    all_goals show bodyPost Tryz.prog Tryz.f62 (fun e w' => e = .returned (.int .i64 (-1)) ∧ Below wr.heap.size wr w') Exit.ret _ _
    all_goals go_ret
    all_goals exact ⟨rfl, (Kept.drewN wr.heap.size wr _).below (Nat.le_refl _)⟩

set_option maxHeartbeats 2000000 in
set_option maxRecDepth 100000 in
theorem find_4 (c : Int) (w : World) (a b1 b2 z : UInt8) (h0 : 128 ≤ c) (eb : (c == 65533) = false) (hv : ∀ w, Calls Tryz.prog 86 #[.int .i32 c] w fun e w' => e = .returned (.bool true) ∧ w = w') (hz : 128 ≤ z.toNat)
    (hconv : ∀ w, (convert 21 9 (.int .i32 c)).run Tryz.prog w = .ok (.string ⟨#[a, b1, b2, z]⟩) w) :
    Calls Tryz.prog 62 #[.string ⟨#[58, 59, 44, 91, 93, 40, 41, 123, 125]⟩, .int .i32 c] w fun e w' => e = .returned (.int .i64 (-1)) ∧ Below w.heap.size w w' := by
  have hz8 : z.toNat < 256 := z.toNat_lt
  have hz2 : 128 ≤ ((⟨#[a, b1, b2, z]⟩ : ByteArray)[3]'(show 3 < 4 by decide)).toNat := hz
  have hz3 : ((⟨#[a, b1, b2, z]⟩ : ByteArray)[3]'(show 3 < 4 by decide)).toNat < 256 := hz8
  have hn2 : ((((⟨#[58, 59, 44, 91, 93, 40, 41, 123, 125]⟩ : ByteArray)[3]'(show 3 < 9 by decide)).toNat : Int) != (((⟨#[a, b1, b2, z]⟩ : ByteArray)[3]'(show 3 < 4 by decide)).toNat : Int)) = true := by
    have e1 : ((⟨#[58, 59, 44, 91, 93, 40, 41, 123, 125]⟩ : ByteArray)[3]'(show 3 < 9 by decide)).toNat = 91 := rfl
    rw [e1]
    simp
    omega
  go_enter Tryz.func62, Tryz.ntmps62
  go_wp2_with (go_at_call 86; fail)
  refine (hv _).mono ?_
  rintro e w' ⟨rfl, rfl⟩
  go_wp2
  go_step3
  go_wp2
  go_loopw [9, 10] (fun i f wr => i = .int .i64 3 ∧ f = .int .i64 0 ∧ wr = w) (fun _ _ _ => 0)
  case atStart => exact ⟨rfl, rfl, rfl⟩
  case round =>
    obtain ⟨rfl, rfl, rfl⟩ := hrel
    go_wp2
    go_step3
    go_wp2
    go_quiet (fail)
    go_wp2
    go_region_with (go_at_call 85; refine (index_high _ _ _ (by decide) hz2 hz3).mono ?_; rintro e w' ⟨rfl, rfl⟩)
    all_goals go_wp2
    all_goals (try simp only [Exit.noGoto_ret, Exit.inBlock])
    all_goals show bodyPost Tryz.prog Tryz.f62 (fun e w' => e = .returned (.int .i64 (-1)) ∧ Below wr.heap.size wr w') Exit.ret _ _
    all_goals go_ret
    all_goals exact ⟨rfl, (Kept.drewN wr.heap.size wr _).below (Nat.le_refl _)⟩

theorem find_high (c : Int) (w : World) (h : IsChar c) (h0 : 128 ≤ c) (hb : c ≠ 65533) : Calls Tryz.prog 62 #[.string ⟨#[58, 59, 44, 91, 93, 40, 41, 123, 125]⟩, .int .i32 c] w fun e w' => e = .returned (.int .i64 (signI c)) ∧ Below w.heap.size w w' := by
  have hs : signI c = -1 := sign_high c h0
  have eb : (c == 65533) = false := by simpa using hb
  have ev : validB c = true := by
    unfold validB
    unfold IsChar at h
    simp
    omega
  have hv : ∀ w, Calls Tryz.prog 86 #[.int .i32 c] w fun e w' => e = .returned (.bool true) ∧ w = w' := by
    intro w
    have := valid_any c w
    rw [ev] at this
    exact this
  have hconv : ∀ w, (convert 21 9 (.int .i32 c)).run Tryz.prog w = .ok (.string (strOfNums (Lib.encodeRuneZ c))) w := by
    intro w
    rw [← enc_eq h]
    simp [convert, run_underlying Tryz.underlying21, run_underlying Tryz.underlying9, Conv.intToString]
  have hl : ∀ x : Int, 128 ≤ x → x < 256 → 128 ≤ (UInt8.ofNat x.toNat).toNat := by
    intro x h1 h2
    simp only [UInt8.toNat_ofNat']
    omega
  obtain ⟨_, hc1, hc2⟩ := h
  rw [hs]
  rcases (show c ≤ 2047 ∨ ((2048 ≤ c ∧ c < 55296) ∨ (57343 < c ∧ c ≤ 65535)) ∨ 65536 ≤ c by omega) with g | g | g
  · rw [Lib.encodeRuneZ_two h0 g] at hconv
    exact find_2 c w _ _ h0 eb hv (hl (128 + c % 64) (by omega) (by omega)) hconv
  · rw [Lib.encodeRuneZ_three g] at hconv
    exact find_3 c w _ _ _ h0 eb hv (hl (128 + c % 64) (by omega) (by omega)) hconv
  · rw [Lib.encodeRuneZ_four g hc1] at hconv
    exact find_4 c w _ _ _ _ h0 eb hv (hl (128 + c % 64) (by omega) (by omega)) hconv
theorem find_any (c : Int) (w : World) (h : IsChar c) : Calls Tryz.prog 62 #[.string ⟨#[58, 59, 44, 91, 93, 40, 41, 123, 125]⟩, .int .i32 c] w fun e w' => e = .returned (.int .i64 (signI c)) ∧ Below w.heap.size w w' := by
  by_cases h1 : c < 128
  · exact find_ascii c w h.1 h1
  · by_cases h2 : c = 65533
    · subst h2; exact find_bad w
    · exact find_high c w h (by omega) h2

section
variable {w w1 w2 : World} {b : Nat} {v out : Value} {xs l l' : List Int} {ts : List Tok}
theorem signZ_range (c : Int) : signZ c = 0 ∨ (16 ≤ signZ c ∧ signZ c ≤ 24) := by
  unfold signZ
  repeat (first | (split; (right; decide)) | (left; rfl))
theorem sign_pos (c : Int) : (signI c = -1 ∧ ¬ 0 < signZ c) ∨ (0 ≤ signI c ∧ signI c ≤ 8 ∧ 0 < signZ c ∧ 16 + signI c = signZ c) := by
  have := signZ_range c
  unfold signI
  split
  · right; omega
  · left; exact ⟨rfl, by omega⟩
theorem single_yes (hs : St w b v out xs l ts) (fx : Fine xs) (hts : ts.length ≤ 1000000000) (c : Int) (t : List Int) (hl : l = c :: t) :
    Calls Tryz.prog 27 #[.pointer (some ⟨b, 0, none⟩)] w fun e w' => e = .returned (.bool true) ∧ ∃ out', St w' b v out' xs t (ts ++ [singleZ c]) ∧ Below b w w' := by
  have hch := at_chars fx hs.1 c (by rw [hl]; simp)
  have hn := next_w hs.1 fx c t hl
  have hconv : ∀ w, (convert 21 9 (.int .i32 c)).run Tryz.prog w = .ok (.string (strOfNums (bytesZ [c]))) w := by
    intro w
    rw [bytesZ_one, ← enc_eq hch]
    simp [convert, run_underlying Tryz.underlying21, run_underlying Tryz.underlying9, Conv.intToString]
  rcases sign_pos c with ⟨hs1, hs2⟩ | ⟨g0, g8, gz, ge⟩
  · have HT : Hid (singleZ c = plainTok 9 [c]) := by
      show singleZ c = _
      unfold singleZ
      rw [if_neg hs2]
    go_enter Tryz.func27, Tryz.ntmps27
    go_wp2_with (go_at_call 49; fail)
    refine (hn).mono ?_
    rintro e w1 ⟨rfl, h1, k1⟩
    obtain ⟨s1, q1⟩ := st_move hs k1 h1
    have hf := find_any c w1 hch
    rw [hs1] at hf
    go_wp2_with (go_at_call 62; fail)
    refine (hf).mono ?_
    rintro e w2 ⟨rfl, b2⟩
    obtain ⟨s2, q2⟩ := st_below s1 b2
    have ht := tell_t s2 9 [c] hts
    go_wp2_with (go_at_call 48; fail)
    refine (ht).mono ?_
    rintro e w3 ⟨rfl, out', s3, b3⟩
    go_wp2
    go_ret
    exact ⟨rfl, out', by rw [HT.out]; exact s3, q1.trans (q2.trans b3)⟩
  · have HT : Hid (singleZ c = plainTok (16 + signI c) []) := by
      show singleZ c = _
      unfold singleZ
      rw [if_pos gz, ge]
    clear ge
    go_enter Tryz.func27, Tryz.ntmps27
    go_wp2_with (go_at_call 49; fail)
    refine (hn).mono ?_
    rintro e w1 ⟨rfl, h1, k1⟩
    obtain ⟨s1, q1⟩ := st_move hs k1 h1
    have hf := find_any c w1 hch
    generalize signI c = si at *
    go_wp2_with (go_at_call 62; fail)
    refine (hf).mono ?_
    rintro e w2 ⟨rfl, b2⟩
    obtain ⟨s2, q2⟩ := st_below s1 b2
    have ht := tell_k s2 (16 + si) hts
    go_wp2_with (go_at_call 48; fail)
    refine (ht).mono ?_
    rintro e w3 ⟨rfl, out', s3, b3⟩
    go_wp2
    go_ret
    exact ⟨rfl, out', by rw [HT.out]; exact s3, q1.trans (q2.trans b3)⟩
end
end Go.Proofs.YtdibldcnklgcjaaGreatDoor
