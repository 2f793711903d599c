/- slices.Sort of keys: the pivot. slices.Sort of keys: patterns are broken. slices.Sort of keys: patterns are broken: the walk. -/
import Derived.Test.YtdiljkmlneeboaaGreatBSo7
import Derived.Sort.AssemblyPlain
import Derived.Test.YtdiljkmlneeboaaGreatBLiv
import Derived.Sort.LotD5
import Derived.Laws.Bits64
import Derived.Laws.Bits64b
namespace Go.Proofs.YtdiljkmlneeboaaGreat.B
open Go.RowKit Go.Sort
set_option maxRecDepth 100000

theorem SW.more {w W : World} {g : Nat} {d : Array Int} (h : SW w g d W) (hg : g < w.heap.size) (o : Obj) : SW w g d (W.alloc o) := by
  have hgW : g < W.heap.size := Nat.lt_of_lt_of_le hg h.keep.size
  have e : (W.alloc o).heap[g]? = W.heap[g]? := Below.heap_alloc _ _ _ hgW
  refine ⟨fun j hj => ⟨(World.cell?_of_block e).trans (h.row j hj).1, ?_⟩, h.keep.trans (KeepX.of ((Below.refl _ _).alloc (Nat.le_refl _) _))⟩
  have := (h.row j hj).2
  simp only [World.frozen?, e] at this ⊢
  exact this
theorem alloc_size (w : World) (o : Obj) : (w.alloc o).heap.size = w.heap.size + 1 := by simp
theorem SC.start {w : World} {g : Nat} {d : Array Int} (h : SW w g d w) (hg : g < w.heap.size) (o : Obj) (ho : o = .cells #[.int .i64 0] 3 (0, 0)) : SC (w.alloc o) g w.heap.size d 0 (w.alloc o) :=
  ⟨(h.more hg _).row, by rw [heap_alloc_new, ho]; rfl, KeepX.of (Below.refl _ _)⟩
theorem SC.sw {w W : World} {g n : Nat} {d : Array Int} {o : Obj} (h : SC (w.alloc o) g w.heap.size d n W) : SW w g d W := by
  refine ⟨h.row, h.keep.os, h.keep.tape, h.keep.output, ?_, fun k hk hkg => ?_⟩
  · have := h.keep.size
    rw [alloc_size] at this
    omega
  · have := h.keep.block k (by rw [alloc_size]; omega) (by omega)
    rw [this]
    exact Below.heap_alloc _ _ _ hk

/-- The end of choosePivot: what is told of the count of swaps. -/
def hintN (s : Nat) : Int := if s = 0 then 1 else if s = 12 then 2 else 0
theorem hintN_is (s : Nat) : hintN s = 0 ∨ hintN s = 1 ∨ hintN s = 2 := by
  unfold hintN
  split
  · exact Or.inr (Or.inl rfl)
  · split
    · exact Or.inr (Or.inr rfl)
    · exact Or.inl rfl

set_option maxHeartbeats 600000 in
theorem choose_any {w : World} {g cap a b : Nat} {d : Array Int} (hd : SW w g d w) (hg : g < w.heap.size) (hab : a + 12 < b) (hb : b ≤ d.size) (hsz : d.size ≤ 1000000) :
    Calls Tryz.prog 131 #[.slice (some ⟨g, 0, none⟩) d.size cap, .int .i64 (a : Int), .int .i64 (b : Int)] w fun e w' => (∃ s : Nat, e = .returned (.tuple #[.int .i64 ((Sort.choosePivot ltInt d a b).1 : Int), .int .i64 (hintN s)])) ∧ SW w g d w' := by
  obtain ⟨l, hl⟩ : ∃ l, l = b - a := ⟨_, rfl⟩
  obtain ⟨I, hI⟩ : ∃ I : Nat, I = a + l / 4 * 1 := ⟨_, rfl⟩
  obtain ⟨J, hJ⟩ : ∃ J : Nat, J = a + l / 4 * 2 := ⟨_, rfl⟩
  obtain ⟨K, hK⟩ : ∃ K : Nat, K = a + l / 4 * 3 := ⟨_, rfl⟩
  have el : IntKind.i64.wrap ((b : Int) - (a : Int)) = (l : Int) := by rw [IntKind.wrap_i64]; omega
  have hgs : g ≠ w.heap.size := by omega
  obtain ⟨w0, hw0⟩ : ∃ w0, w0 = w.alloc (.cells #[.int .i64 0] 3 (0, 0)) := ⟨_, rfl⟩
  have HS0 : Hid (SC w0 g w.heap.size d 0 w0) := by rw [hw0]; exact SC.start hd hg _ rfl
  have HS1 : Hid (SC w0 g w.heap.size d 0 (w.alloc (.cells #[.int .i64 0] 3 (0, 0)))) := by rw [Hid, ← hw0]; exact HS0.out
  have HSW : Hid (∀ W n, SC w0 g w.heap.size d n W → SW w g d W) := fun W n h => by rw [hw0] at h; exact h.sw
  have HAD : Hid (∀ W a n, SC w0 g w.heap.size d n W → 1 ≤ a → a + 1 < d.size → n ≤ 900 → Calls Tryz.prog 149 #[.slice (some ⟨g, 0, none⟩) d.size cap, .int .i64 (a : Int), .pointer (some ⟨w.heap.size, 0, none⟩)] W fun e w' => e = .returned (.int .i64 ((Sort.medianAdjacent ltInt d a n).1 : Int)) ∧ SC w0 g w.heap.size d (Sort.medianAdjacent ltInt d a n).2 w' ∧ (Sort.medianAdjacent ltInt d a n).1 < d.size ∧ (Sort.medianAdjacent ltInt d a n).2 ≤ n + 3) := fun W a n h h1 h2 h3 => adjacent_any h hgs h1 h2 h3 hsz
  have HMD : Hid (∀ W a b c n, SC w0 g w.heap.size d n W → a < d.size → b < d.size → c < d.size → n ≤ 900 → Calls Tryz.prog 150 #[.slice (some ⟨g, 0, none⟩) d.size cap, .int .i64 (a : Int), .int .i64 (b : Int), .int .i64 (c : Int), .pointer (some ⟨w.heap.size, 0, none⟩)] W fun e w' => e = .returned (.int .i64 ((Sort.median ltInt d a b c n).1 : Int)) ∧ SC w0 g w.heap.size d (Sort.median ltInt d a b c n).2 w' ∧ (Sort.median ltInt d a b c n).1 < d.size ∧ (Sort.median ltInt d a b c n).2 ≤ n + 3) := fun W a b c n h h1 h2 h3 h4 => median_any h hgs h1 h2 h3 h4
  clear hd
  obtain ⟨q, hq⟩ : ∃ q : Nat, q = l / 4 := ⟨_, rfl⟩
  obtain ⟨q2, hq2⟩ : ∃ q2 : Nat, q2 = q * 2 := ⟨_, rfl⟩
  obtain ⟨q3, hq3⟩ : ∃ q3 : Nat, q3 = q * 3 := ⟨_, rfl⟩
  have eq0 : IntKind.i64.wrap ((l : Int) / 4) = (q : Int) := by rw [IntKind.wrap_i64]; omega
  have eq1 : IntKind.i64.wrap (q : Int) = (q : Int) := by rw [IntKind.wrap_i64]; omega
  have eq2 : IntKind.i64.wrap ((q : Int) * 2) = (q2 : Int) := by rw [IntKind.wrap_i64]; omega
  have eq3 : IntKind.i64.wrap ((q : Int) * 3) = (q3 : Int) := by rw [IntKind.wrap_i64]; omega
  have eI : IntKind.i64.wrap ((a : Int) + (q : Int)) = (I : Int) := by rw [IntKind.wrap_i64]; omega
  have eJ : IntKind.i64.wrap ((a : Int) + (q2 : Int)) = (J : Int) := by rw [IntKind.wrap_i64]; omega
  have eK : IntKind.i64.wrap ((a : Int) + (q3 : Int)) = (K : Int) := by rw [IntKind.wrap_i64]; omega
  have e8 : decide ((8 : Int) ≤ (l : Int)) = true := decide_eq_true (by omega)
  by_cases h50 : 50 ≤ l
  · have HP : Hid ((Sort.choosePivot ltInt d a b).1 = (Sort.median ltInt d (Sort.medianAdjacent ltInt d I 0).1 (Sort.medianAdjacent ltInt d J (Sort.medianAdjacent ltInt d I 0).2).1 (Sort.medianAdjacent ltInt d K (Sort.medianAdjacent ltInt d J (Sort.medianAdjacent ltInt d I 0).2).2).1 (Sort.medianAdjacent ltInt d K (Sort.medianAdjacent ltInt d J (Sort.medianAdjacent ltInt d I 0).2).2).2).1) := by
      rw [Hid]
      unfold Sort.choosePivot
      simp only [← hl]
      rw [if_pos (by omega), if_pos (by omega), ← hI, ← hJ, ← hK]
    have e50 : decide ((50 : Int) ≤ (l : Int)) = true := decide_eq_true (by omega)
    rw [HP.out]
    have h1 := HAD.out _ I 0 HS1.out (by omega) (by omega) (by omega)
    generalize Sort.medianAdjacent ltInt d I 0 = r1 at *
    have H2 : Hid (∀ W, SC w0 g w.heap.size d r1.2 W → r1.2 ≤ 3 → _) := fun W h h3 => HAD.out W J r1.2 h (by omega) (by omega) (by omega)
    generalize Sort.medianAdjacent ltInt d J r1.2 = r2 at *
    have H3 : Hid (∀ W, SC w0 g w.heap.size d r2.2 W → r2.2 ≤ 6 → _) := fun W h h3 => HAD.out W K r2.2 h (by omega) (by omega) (by omega)
    generalize Sort.medianAdjacent ltInt d K r2.2 = r3 at *
    have H4 : Hid (∀ W, SC w0 g w.heap.size d r3.2 W → r1.1 < d.size → r2.1 < d.size → r3.1 < d.size → r3.2 ≤ 9 → _) := fun W h h1 h2 h3 h4 => HMD.out W r1.1 r2.1 r3.1 r3.2 h h1 h2 h3 (by omega)
    generalize Sort.median ltInt d r1.1 r2.1 r3.1 r3.2 = r4 at *
    clear HP HAD HMD hl hI hJ hK HS0 hq hq2 hq3
    obtain ⟨i1, s1⟩ := r1
    obtain ⟨j1, s2⟩ := r2
    obtain ⟨k1, s3⟩ := r3
    obtain ⟨p, s⟩ := r4
    dsimp only at *
    clear hw0 HS1
    go_enter Tryz.func131, Tryz.ntmps131
    go_wp2_with (go_at_call 149; fail)
    refine h1.mono ?_
    rintro e w1 ⟨rfl, hS1, l1, n1⟩
    have h2 := H2.out w1 hS1 (by omega)
    clear h1 hS1 H2
    go_wp2_with (go_at_call 149; fail)
    refine h2.mono ?_
    rintro e w2 ⟨rfl, hS2, l2, n2⟩
    have h3 := H3.out w2 hS2 (by omega)
    clear h2 hS2 H3
    go_wp2_with (go_at_call 149; fail)
    refine h3.mono ?_
    rintro e w3 ⟨rfl, hS3, l3, n3⟩
    have h4 := H4.out w3 hS3 l1 l2 l3 (by omega)
    clear h3 hS3 H4
    go_wp2_with (go_at_call 150; fail)
    refine h4.mono ?_
    rintro e w4 ⟨rfl, hS4, l4, n4⟩
    have HW := hid_mk (HSW.out _ _ hS4)
    have c0 : w4.cell? ⟨w.heap.size, 0, none⟩ = some (.int .i64 (s : Int)) := cellAt hS4.cnt 0
    clear h4 hS4 HSW
    by_cases s0 : s = 0
    · have z : ((s : Int) == 0) = true := by simp [s0]
      have HN : Hid (hintN s = 1) := by rw [Hid, s0]; rfl
      clear s0
      go_wp2
      refine bodyPost_ret (v := .tuple #[.int .i64 (p : Int), .int .i64 1]) (by simp [results, Tryz.results131, go_sem]) rfl ⟨⟨s, by rw [HN.out]⟩, HW.out⟩
    by_cases s12 : s = 12
    · have z : ((s : Int) == 0) = false := by simp; omega
      have z2 : ((s : Int) == 12) = true := by simp [s12]
      have HN : Hid (hintN s = 2) := by rw [Hid, s12]; rfl
      clear s0 s12
      go_wp2
      refine bodyPost_ret (v := .tuple #[.int .i64 (p : Int), .int .i64 2]) (by simp [results, Tryz.results131, go_sem]) rfl ⟨⟨s, by rw [HN.out]⟩, HW.out⟩
    have z : ((s : Int) == 0) = false := by simp; omega
    have z2 : ((s : Int) == 12) = false := by simp; omega
    have HN : Hid (hintN s = 0) := by rw [Hid, hintN, if_neg s0, if_neg s12]
    clear s0 s12
    go_wp2
    refine bodyPost_ret (v := .tuple #[.int .i64 (p : Int), .int .i64 0]) (by simp [results, Tryz.results131, go_sem]) rfl ⟨⟨s, by rw [HN.out]⟩, HW.out⟩
  · have HP : Hid ((Sort.choosePivot ltInt d a b).1 = (Sort.median ltInt d I J K 0).1) := by
      rw [Hid]
      unfold Sort.choosePivot
      simp only [← hl]
      rw [if_pos (by omega), if_neg (by omega), ← hI, ← hJ, ← hK]
    have e50 : decide ((50 : Int) ≤ (l : Int)) = false := decide_eq_false (by omega)
    rw [HP.out]
    have h4 := HMD.out _ I J K 0 HS1.out (by omega) (by omega) (by omega) (by omega)
    generalize Sort.median ltInt d I J K 0 = r4 at *
    clear HP HAD HMD hl hI hJ hK HS0 hq hq2 hq3
    obtain ⟨p, s⟩ := r4
    dsimp only at *
    clear hw0 HS1
    go_enter Tryz.func131, Tryz.ntmps131
    go_wp2_with (go_at_call 150; fail)
    refine h4.mono ?_
    rintro e w4 ⟨rfl, hS4, l4, n4⟩
    have HW := hid_mk (HSW.out _ _ hS4)
    have c0 : w4.cell? ⟨w.heap.size, 0, none⟩ = some (.int .i64 (s : Int)) := cellAt hS4.cnt 0
    clear h4 hS4 HSW
    by_cases s0 : s = 0
    · have z : ((s : Int) == 0) = true := by simp [s0]
      have HN : Hid (hintN s = 1) := by rw [Hid, s0]; rfl
      clear s0
      go_wp2
      refine bodyPost_ret (v := .tuple #[.int .i64 (p : Int), .int .i64 1]) (by simp [results, Tryz.results131, go_sem]) rfl ⟨⟨s, by rw [HN.out]⟩, HW.out⟩
    have s12 : ¬ s = 12 := by omega
    have z : ((s : Int) == 0) = false := by simp; omega
    have z2 : ((s : Int) == 12) = false := by simp; omega
    have HN : Hid (hintN s = 0) := by rw [Hid, hintN, if_neg s0, if_neg s12]
    clear s0 s12
    go_wp2
    refine bodyPost_ret (v := .tuple #[.int .i64 (p : Int), .int .i64 0]) (by simp [results, Tryz.results131, go_sem]) rfl ⟨⟨s, by rw [HN.out]⟩, HW.out⟩
end Go.Proofs.YtdiljkmlneeboaaGreat.B
namespace Go.Proofs.YtdiljkmlneeboaaGreat.B
open Go.RowKit Go.Sort
set_option maxRecDepth 100000

/-- A number in a block of its own. -/
structure RB (w : World) (s : Nat) (X : Nat) (W : World) : Prop where
  cnt : W.heap[s]? = some (.cells #[.int .u64 (X : Int)] 206 (0, 0))
  keep : KeepX s w W
theorem RB.set {w W : World} {s X : Nat} (h : RB w s X W) (Y : Nat) : RB w s Y (W.setCell ⟨s, 0, none⟩ (.int .u64 (Y : Int))) :=
  ⟨by rw [set_at 0 _ _ h.cnt]; rfl, h.keep.trans ⟨rfl, rfl, rfl, by simp, fun k _ hk => Below.heap_setCell _ _ _ _ hk⟩⟩
theorem RB.drewN {w W : World} {s X : Nat} (h : RB w s X W) (n : Nat) : RB w s X (W.drewN n) := ⟨h.cnt, ⟨h.keep.os, h.keep.tape, h.keep.output, h.keep.size, h.keep.block⟩⟩

set_option maxHeartbeats 2000000 in
theorem next_any {w : World} {s X : Nat} (hX : X < 18446744073709551616) (h : RB w s X w) :
    Calls Tryz.prog 148 #[.pointer (some ⟨s, 0, none⟩)] w fun e w' => ∃ Y : Nat, Y < 18446744073709551616 ∧ e = .returned (.int .u64 (Y : Int)) ∧ RB w s Y w' := by
  obtain ⟨A, hA⟩ : ∃ A : Nat, A = X ^^^ (X * 8192 % 18446744073709551616) := ⟨_, rfl⟩
  obtain ⟨B, hB⟩ : ∃ B : Nat, B = A ^^^ (A / 128) := ⟨_, rfl⟩
  obtain ⟨C, hC⟩ : ∃ C : Nat, C = B ^^^ (B * 131072 % 18446744073709551616) := ⟨_, rfl⟩
  have lA : A < 18446744073709551616 := by rw [hA]; exact Nat.xor_lt_two_pow (n := 64) (by omega) (by omega)
  have lB : B < 18446744073709551616 := by rw [hB]; exact Nat.xor_lt_two_pow (n := 64) (by omega) (by omega)
  have lC : C < 18446744073709551616 := by rw [hC]; exact Nat.xor_lt_two_pow (n := 64) (by omega) (by omega)
  have e1 : bits .xor .u64 (X : Int) (IntKind.u64.wrap ((X : Int) * 8192)) = (A : Int) := by
    rw [IntKind.wrap_u64, show ((X : Int) * 8192 % 18446744073709551616) = ((X * 8192 % 18446744073709551616 : Nat) : Int) by omega, bits_xor_u64_nat _ _ hX (by omega), hA]
  have e2 : bits .xor .u64 (A : Int) ((A : Int) / 128) = (B : Int) := by
    rw [show ((A : Int) / 128) = ((A / 128 : Nat) : Int) by omega, bits_xor_u64_nat _ _ lA (by omega), hB]
  have e3 : bits .xor .u64 (B : Int) (IntKind.u64.wrap ((B : Int) * 131072)) = (C : Int) := by
    rw [IntKind.wrap_u64, show ((B : Int) * 131072 % 18446744073709551616) = ((B * 131072 % 18446744073709551616 : Nat) : Int) by omega, bits_xor_u64_nat _ _ lB (by omega), hC]
  have HL : Hid (C < 18446744073709551616) := lC
  have HS : Hid (∀ X W Y, RB w s X W → RB w s Y (W.setCell ⟨s, 0, none⟩ (.int .u64 (Y : Int)))) := fun X W Y h => h.set Y
  have c0 : w.cell? ⟨s, 0, none⟩ = some (.int .u64 (X : Int)) := cellAt h.cnt 0
  have f0 : w.frozen? ⟨s, 0, none⟩ = false := by simp [World.frozen?, h.cnt]
  have HB := hid_mk h
  clear hA hB hC lC h
  go_enter Tryz.func148, Tryz.ntmps148
  go_upto_region 1 with (fail)
  go_region
  all_goals go_upto_region 2 with (fail)
  have H1 : Hid (RB w s A (w.setCell ⟨s, 0, none⟩ (.int .u64 (A : Int))).drew) := (HS.out _ _ A HB.out).drewN 1
  clear HB c0 f0 e1
  generalize (w.setCell ⟨s, 0, none⟩ (.int .u64 (A : Int))).drew = W1 at H1 ⊢
  have c1 : W1.cell? ⟨s, 0, none⟩ = some (.int .u64 (A : Int)) := cellAt H1.out.cnt 0
  have f1 : W1.frozen? ⟨s, 0, none⟩ = false := by simp [World.frozen?, H1.out.cnt]
  go_region
  all_goals go_upto_region 3 with (fail)
  have H2 : Hid (RB w s B (W1.setCell ⟨s, 0, none⟩ (.int .u64 (B : Int))).drew) := (HS.out _ _ B H1.out).drewN 1
  clear H1 c1 f1 e2
  generalize (W1.setCell ⟨s, 0, none⟩ (.int .u64 (B : Int))).drew = W2 at H2 ⊢
  have c2 : W2.cell? ⟨s, 0, none⟩ = some (.int .u64 (B : Int)) := cellAt H2.out.cnt 0
  have f2 : W2.frozen? ⟨s, 0, none⟩ = false := by simp [World.frozen?, H2.out.cnt]
  go_region
  all_goals go_upto_region 4 with (fail)
  have H3 : Hid (RB w s C (W2.setCell ⟨s, 0, none⟩ (.int .u64 (C : Int))).drew) := (HS.out _ _ C H2.out).drewN 1
  clear H2 c2 f2 e3
  generalize (W2.setCell ⟨s, 0, none⟩ (.int .u64 (C : Int))).drew = W3 at H3 ⊢
  have c3 : W3.cell? ⟨s, 0, none⟩ = some (.int .u64 (C : Int)) := cellAt H3.out.cnt 0
  go_wp2
  go_ret
  exact ⟨C, HL.out, rfl, H3.out⟩

theorem bitLen_two : ∀ (n x : Nat), x ≤ n → 0 < x → x < 2 ^ 64 → 2 ^ Lib.bitLen x ≤ 2 * x
  | 0, x, h, h0, _ => by omega
  | n + 1, x, h, h0, h1 => by
    rw [Lib.bitLen_half x (by omega) h1]
    by_cases h2 : x = 1
    · subst h2
      decide
    · have := bitLen_two n (x / 2) (by omega) (by omega) (by omega)
      rw [Nat.add_comm, Nat.pow_succ]
      omega
set_option maxHeartbeats 1000000 in
theorem nextPow_any {l : Nat} (hl : 0 < l) (hl2 : l ≤ 1000000) (w : World) :
    Calls Tryz.prog 147 #[.int .i64 (l : Int)] w fun e w' => e = .returned (.int .u64 ((2 ^ Lib.bitLen l : Nat) : Int)) ∧ w' = w := by
  have h2 : Calls Tryz.prog 109 #[.int .u64 (l : Int)] w _ := Any.bits_Len Tryz.laysLen (l : Int) w (by omega) (by omega)
  rw [Int.toNat_natCast] at h2
  have hM := bitLen_two l l (Nat.le_refl _) hl (by omega)
  generalize Lib.bitLen l = k at *
  obtain ⟨M, hMe⟩ : ∃ M : Nat, M = 2 ^ k := ⟨_, rfl⟩
  have hk : k ≤ 62 := by
    rcases Nat.lt_or_ge 62 k with h | h
    · have := Nat.pow_le_pow_right (n := 2) (by decide) (Nat.le_of_lt h)
      have : (2 : Nat) ^ 62 = 4611686018427387904 := by decide
      omega
    · exact h
  rw [← hMe] at hM ⊢
  have hp : IntKind.u64.wrap ((2 : Int) ^ k) = (M : Int) := by
    rw [IntKind.wrap_u64, hMe, show ((2 : Int) ^ k) = ((2 ^ k : Nat) : Int) by push_cast; rfl, ← hMe]
    omega
  clear hMe
  go_enter Tryz.func147, Tryz.ntmps147
  go_wp2_with (go_at_call 109; fail)
  refine h2.mono ?_
  rintro e w' ⟨rfl, rfl⟩
  clear h2
  go_wp2
  go_ret
  exact ⟨rfl, rfl⟩
end Go.Proofs.YtdiljkmlneeboaaGreat.B
namespace Go.Proofs.YtdiljkmlneeboaaGreat.B
open Go.RowKit Go.Sort
set_option maxRecDepth 100000

theorem SW.other {w W W' : World} {g s : Nat} {d : Array Int} (h : SW w g d W) (hk : KeepX s W W') (hs : s = w.heap.size) (hg : g < w.heap.size) : SW w g d W' := by
  have hgW : g < W.heap.size := Nat.lt_of_lt_of_le hg h.keep.size
  have e : W'.heap[g]? = W.heap[g]? := hk.block g hgW (by omega)
  refine ⟨fun j hj => ⟨(World.cell?_of_block e).trans (h.row j hj).1, ?_⟩, hk.os.trans h.keep.os, hk.tape.trans h.keep.tape, hk.output.trans h.keep.output, Nat.le_trans h.keep.size hk.size, fun k hk1 hk2 => ?_⟩
  · have := (h.row j hj).2
    simp only [World.frozen?, e] at this ⊢
    exact this
  · rw [hk.block k (Nat.lt_of_lt_of_le hk1 h.keep.size) (by omega)]
    exact h.keep.block k hk1 hk2

set_option maxHeartbeats 4000000 in
theorem break_any {w : World} {g cap a b : Nat} {d : Array Int} (hd : SW w g d w) (hg : g < w.heap.size) (hab : a + 12 < b) (hb : b ≤ d.size) (hsz : d.size ≤ 1000000) :
    Calls Tryz.prog 130 #[.slice (some ⟨g, 0, none⟩) d.size cap, .int .i64 (a : Int), .int .i64 (b : Int)] w fun e w' => e = .returned (.tuple #[]) ∧ ∃ d', PermIn a b d d' ∧ SW w g d' w' := by
  obtain ⟨l, hl⟩ : ∃ l, l = b - a := ⟨_, rfl⟩
  have el : IntKind.i64.wrap ((b : Int) - (a : Int)) = (l : Int) := by rw [IntKind.wrap_i64]; omega
  have e8 : decide ((8 : Int) ≤ (l : Int)) = true := decide_eq_true (by omega)
  obtain ⟨M, hM⟩ : ∃ M : Nat, M = 2 ^ Lib.bitLen l := ⟨_, rfl⟩
  have hM2 : M ≤ 2 * l := by rw [hM]; exact bitLen_two l l (Nat.le_refl _) (by omega) (by omega)
  have hM1 : 1 ≤ M := by rw [hM]; exact Nat.two_pow_pos _
  have hNP : ∀ w, Calls Tryz.prog 147 #[.int .i64 (l : Int)] w fun e w' => e = .returned (.int .u64 (M : Int)) ∧ w' = w := fun w => by rw [hM]; exact nextPow_any (by omega) (by omega) w
  obtain ⟨M', hM'⟩ : ∃ M' : Nat, M' = M - 1 := ⟨_, rfl⟩
  have eM : IntKind.u64.wrap ((M : Int) - 1) = (M' : Int) := by rw [IntKind.wrap_u64]; omega
  have lM : M' < 2 * l := by omega
  obtain ⟨q, hq⟩ : ∃ q : Nat, q = l / 4 := ⟨_, rfl⟩
  obtain ⟨q2, hq2⟩ : ∃ q2 : Nat, q2 = q * 2 := ⟨_, rfl⟩
  obtain ⟨J, hJ⟩ : ∃ J : Nat, J = a + q2 := ⟨_, rfl⟩
  obtain ⟨I, hI⟩ : ∃ I : Nat, I = J - 1 := ⟨_, rfl⟩
  obtain ⟨K, hK⟩ : ∃ K : Nat, K = J + 1 := ⟨_, rfl⟩
  have eq0 : IntKind.i64.wrap ((l : Int) / 4) = (q : Int) := by rw [IntKind.wrap_i64]; omega
  have eq2 : IntKind.i64.wrap ((q : Int) * 2) = (q2 : Int) := by rw [IntKind.wrap_i64]; omega
  have eJ : IntKind.i64.wrap ((a : Int) + (q2 : Int)) = (J : Int) := by rw [IntKind.wrap_i64]; omega
  have eI : IntKind.i64.wrap ((J : Int) - 1) = (I : Int) := by rw [IntKind.wrap_i64]; omega
  have eK : IntKind.i64.wrap ((J : Int) + 1) = (K : Int) := by rw [IntKind.wrap_i64]; omega
  have lI : a ≤ I ∧ I + 2 = K ∧ K < b ∧ l ≤ 1000000 ∧ a + l = b := by omega
  have HD0 : Hid (SW w g d (w.alloc (.cells #[.int .u64 (l : Int)] 206 (0, 0)))) := hd.more hg _
  have HB0 : Hid ((w.alloc (.cells #[.int .u64 (l : Int)] 206 (0, 0))).heap[w.heap.size]? = some (.cells #[.int .u64 (l : Int)] 206 (0, 0))) := heap_alloc_new _ _
  clear hd hl hM hM' hq hq2 hJ hI hK
  obtain ⟨s, hs⟩ : ∃ s, s = w.heap.size := ⟨_, rfl⟩
  have HS := hid_mk hs
  go_enter Tryz.func130, Tryz.ntmps130
  go_wp2_with (go_at_call 147; fail)
  refine (hNP _).mono ?_
  rintro e w' ⟨rfl, rfl⟩
  clear hNP
  go_wp2
  go_loopw [9] (fun a9 wq => ∃ (t X : Nat) (dk : Array Int), I ≤ t ∧ t ≤ K + 1 ∧ X < 18446744073709551616 ∧ a9 = .int .i64 (t : Int) ∧ dk.size = d.size ∧ Hid (PermIn a b d dk) ∧ Hid (SW w g dk wq) ∧ Hid (wq.heap[w.heap.size]? = some (.cells #[.int .u64 (X : Int)] 206 (0, 0)))) (fun a9 _ => K + 2 - (intOf a9).toNat)
  case atStart => exact ⟨I, l, d, Nat.le_refl _, by omega, by omega, rfl, rfl, permIn_refl d a b, HD0, HB0⟩
  case round =>
    obtain ⟨t, X, dk, hIt, htK, hX, rfl, hdk, HP, HW, HB⟩ := hrel
    clear HD0 HB0
    by_cases htk : t ≤ K
    · have hd1 : decide ((t : Int) ≤ (K : Int)) = true := decide_eq_true (by omega)
      have hd2 : (t : Int) ≤ (K : Int) := by omega
      have hNX := next_any (w := wr) (s := w.heap.size) hX ⟨HB.out, KeepX.of (Below.refl _ _)⟩
      go_wp2_with (go_at_call 148; fail)
      refine hNX.mono ?_
      rintro e w1 ⟨Y, hY, rfl, hRB⟩
      have HW1 : Hid (SW w g dk w1) := HW.out.other hRB.keep rfl hg
      have HB1 : Hid (w1.heap[w.heap.size]? = some (.cells #[.int .u64 (Y : Int)] 206 (0, 0))) := hRB.cnt
      obtain ⟨O, hO⟩ : ∃ O : Nat, O = Y &&& M' := ⟨_, rfl⟩
      have lO : O ≤ M' := by rw [hO]; exact Nat.and_le_right
      have eAnd : bits .and .u64 (Y : Int) (M' : Int) = (O : Int) := by rw [bits_and_u64_nat _ _ hY (by omega), hO]
      have eO : IntKind.i64.wrap (O : Int) = (O : Int) := by rw [IntKind.wrap_i64]; omega
      obtain ⟨o, ho⟩ : ∃ o : Nat, o = if l ≤ O then O - l else O := ⟨_, rfl⟩
      have lo : o < l := by rw [ho]; split <;> omega
      have HO := hid_mk ho
      clear hNX hRB hO ho HW HB
      obtain ⟨z, hz⟩ : ∃ z, z = a + o := ⟨_, rfl⟩
      have ez : IntKind.i64.wrap ((a : Int) + (o : Int)) = (z : Int) := by rw [IntKind.wrap_i64]; omega
      have lz : z < d.size ∧ a ≤ z ∧ z < b := by omega
      clear hz
      go_upto_if 43 with (fail)
      go_cut [10] (fun s10 wx => s10 = .int .i64 (o : Int) ∧ wx = w1)
      case first =>
        by_cases hlo : l ≤ O
        · have hd3 : decide ((l : Int) ≤ (O : Int)) = true := decide_eq_true (by omega)
          have hd4 : (l : Int) ≤ (O : Int) := by omega
          have e5 : IntKind.i64.wrap ((O : Int) - (l : Int)) = (o : Int) := by rw [IntKind.wrap_i64, HO.out, if_pos hlo]; omega
          go_wp2_with fail
          go_meet
          exact ⟨rfl, rfl⟩
        · have hd3 : decide ((l : Int) ≤ (O : Int)) = false := decide_eq_false (by omega)
          have hd4 : ¬ (l : Int) ≤ (O : Int) := by omega
          have e5 : Hid (O = o) := by rw [Hid, HO.out, if_neg hlo]
          go_wp2_with fail
          go_meet
          exact ⟨by rw [e5.out], rfl⟩
      case rest =>
      obtain ⟨rfl, rfl⟩ := hcut
      clear HO eAnd eO
      have b4 : t < d.size := by omega
      have b5 : z < d.size := lz.1
      have q1 := HW1.out.cell (j := t) (by omega)
      have q2 := HW1.out.cell (j := z) (by omega)
      have q3 : ∀ W, SW w g dk W → (W.setCell ⟨g, t, none⟩ (.int .u32 dk[z]!)).cell? ⟨g, z, none⟩ = some (.int .u32 dk[z]!) := fun W h => by
        have hc := (h.set (i := t) (by omega) dk[z]!).cell (j := z) (by simp; omega)
        by_cases e : z = t
        · rw [e] at hc ⊢
          rwa [getElem!_set_same dk t _ (by omega)] at hc
        · rwa [getElem!_set_other dk t z _ e] at hc
      have q3 := q3 _ HW1.out
      have hf1 := HW1.out.free (j := t) (by omega)
      have hf2 := HW1.out.free (j := z) (by omega)
      have HSW : Hid (SW w g (swp dk t z) ((wc.setCell ⟨g, t, none⟩ (.int .u32 dk[z]!)).setCell ⟨g, z, none⟩ (.int .u32 dk[t]!))) := (HW1.out.set (by omega) _).set (by simp; omega) _
      have HBB : Hid (((wc.setCell ⟨g, t, none⟩ (.int .u32 dk[z]!)).setCell ⟨g, z, none⟩ (.int .u32 dk[t]!)).heap[w.heap.size]? = some (.cells #[.int .u64 (Y : Int)] 206 (0, 0))) := by
        rw [Hid, Below.heap_setCell _ _ _ _ (by simp; omega), Below.heap_setCell _ _ _ _ (by simp; omega)]
        exact HB1.out
      have HSZ : Hid ((swp dk t z).size = d.size) := by rw [Hid, size_swp, hdk]
      have HPP : Hid (PermIn a b d (swp dk t z)) := permIn_trans _ _ _ a b HP.out (swp_permIn dk a b t z (by omega) (by omega) lz.2.1 lz.2.2 (by omega))
      clear HP HW1 HB1
      generalize swp dk t z = D at *
      generalize dk[t]! = x at *
      generalize dk[z]! = y at *
      go_upto_region 10 with (fail)
      go_region
      all_goals go_wp2
      exact ⟨⟨t + 1, Y, D, by omega, by omega, hY, by go_num, HSZ.out, HPP, ((HSW.out).drewN 1 : SW _ _ _ _), HBB⟩, by simp only [intOf]; omega⟩
    · have hd1 : decide ((t : Int) ≤ (K : Int)) = false := decide_eq_false (by omega)
      have hd2 : ¬ (t : Int) ≤ (K : Int) := by omega
      go_wp2
      exact bodyPost_end (v := .tuple #[]) (by simp [results, Tryz.results130, go_sem]) rfl ⟨rfl, dk, HP.out, HW.out⟩
end Go.Proofs.YtdiljkmlneeboaaGreat.B
