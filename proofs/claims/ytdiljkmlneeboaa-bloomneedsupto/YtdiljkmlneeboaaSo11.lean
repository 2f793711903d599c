/- slices.Sort of keys: the pivot. -/
import Derived.Test.YtdiljkmlneeboaaSo6
import Derived.Sort.AssemblyPlain
namespace Go.Proofs.Ytdiljkmlneeboaa
open Go.RowKit Go.Sort
set_option maxRecDepth 100000

theorem SW.more {w W : World} {g : Nat} {d : Array Int} (h : SW w g d W) (hg : g < w.heap.size) (o : Obj) : SW w g d (W.alloc o) := by
  have hgW : g < W.heap.size := Nat.lt_of_lt_of_le hg h.keep.size
  have e : (W.alloc o).heap[g]? = W.heap[g]? := Below.heap_alloc _ _ _ hgW
  refine ⟨fun j hj => ⟨(World.cell?_of_block e).trans (h.row j hj).1, ?_⟩, h.keep.trans (KeepX.of ((Below.refl _ _).alloc (Nat.le_refl _) _))⟩
  have := (h.row j hj).2
  simp only [World.frozen?, e] at this ⊢
  exact this
theorem alloc_size (w : World) (o : Obj) : (w.alloc o).heap.size = w.heap.size + 1 := by simp
theorem SC.start {w : World} {g : Nat} {d : Array Int} (h : SW w g d w) (hg : g < w.heap.size) (o : Obj) (ho : o = .cells #[.int .i64 0] 3 (0, 0)) : SC (w.alloc o) g w.heap.size d 0 (w.alloc o) :=
  ⟨(h.more hg _).row, by rw [heap_alloc_new, ho]; rfl, KeepX.of (Below.refl _ _)⟩
theorem SC.sw {w W : World} {g n : Nat} {d : Array Int} {o : Obj} (h : SC (w.alloc o) g w.heap.size d n W) : SW w g d W := by
  refine ⟨h.row, h.keep.os, h.keep.tape, h.keep.output, ?_, fun k hk hkg => ?_⟩
  · have := h.keep.size
    rw [alloc_size] at this
    omega
  · have := h.keep.block k (by rw [alloc_size]; omega) (by omega)
    rw [this]
    exact Below.heap_alloc _ _ _ hk

/-- The end of choosePivot: what is told of the count of swaps. -/
def hintN (s : Nat) : Int := if s = 0 then 1 else if s = 12 then 2 else 0
theorem hintN_is (s : Nat) : hintN s = 0 ∨ hintN s = 1 ∨ hintN s = 2 := by
  unfold hintN
  split
  · exact Or.inr (Or.inl rfl)
  · split
    · exact Or.inr (Or.inr rfl)
    · exact Or.inl rfl

set_option maxHeartbeats 600000 in
theorem choose_any {w : World} {g cap a b : Nat} {d : Array Int} (hd : SW w g d w) (hg : g < w.heap.size) (hab : a + 12 < b) (hb : b ≤ d.size) (hsz : d.size ≤ 1000000) :
    Calls Try.prog 36 #[.slice (some ⟨g, 0, none⟩) d.size cap, .int .i64 (a : Int), .int .i64 (b : Int)] w fun e w' => (∃ s : Nat, e = .returned (.tuple #[.int .i64 ((Sort.choosePivot ltInt d a b).1 : Int), .int .i64 (hintN s)])) ∧ SW w g d w' := by
  obtain ⟨l, hl⟩ : ∃ l, l = b - a := ⟨_, rfl⟩
  obtain ⟨I, hI⟩ : ∃ I : Nat, I = a + l / 4 * 1 := ⟨_, rfl⟩
  obtain ⟨J, hJ⟩ : ∃ J : Nat, J = a + l / 4 * 2 := ⟨_, rfl⟩
  obtain ⟨K, hK⟩ : ∃ K : Nat, K = a + l / 4 * 3 := ⟨_, rfl⟩
  have el : IntKind.i64.wrap ((b : Int) - (a : Int)) = (l : Int) := by rw [IntKind.wrap_i64]; omega
  have hgs : g ≠ w.heap.size := by omega
  obtain ⟨w0, hw0⟩ : ∃ w0, w0 = w.alloc (.cells #[.int .i64 0] 3 (0, 0)) := ⟨_, rfl⟩
  have HS0 : Hid (SC w0 g w.heap.size d 0 w0) := by rw [hw0]; exact SC.start hd hg _ rfl
  have HS1 : Hid (SC w0 g w.heap.size d 0 (w.alloc (.cells #[.int .i64 0] 3 (0, 0)))) := by rw [Hid, ← hw0]; exact HS0.out
  have HSW : Hid (∀ W n, SC w0 g w.heap.size d n W → SW w g d W) := fun W n h => by rw [hw0] at h; exact h.sw
  have HAD : Hid (∀ W a n, SC w0 g w.heap.size d n W → 1 ≤ a → a + 1 < d.size → n ≤ 900 → Calls Try.prog 47 #[.slice (some ⟨g, 0, none⟩) d.size cap, .int .i64 (a : Int), .pointer (some ⟨w.heap.size, 0, none⟩)] W fun e w' => e = .returned (.int .i64 ((Sort.medianAdjacent ltInt d a n).1 : Int)) ∧ SC w0 g w.heap.size d (Sort.medianAdjacent ltInt d a n).2 w' ∧ (Sort.medianAdjacent ltInt d a n).1 < d.size ∧ (Sort.medianAdjacent ltInt d a n).2 ≤ n + 3) := fun W a n h h1 h2 h3 => adjacent_any h hgs h1 h2 h3 hsz
  have HMD : Hid (∀ W a b c n, SC w0 g w.heap.size d n W → a < d.size → b < d.size → c < d.size → n ≤ 900 → Calls Try.prog 48 #[.slice (some ⟨g, 0, none⟩) d.size cap, .int .i64 (a : Int), .int .i64 (b : Int), .int .i64 (c : Int), .pointer (some ⟨w.heap.size, 0, none⟩)] W fun e w' => e = .returned (.int .i64 ((Sort.median ltInt d a b c n).1 : Int)) ∧ SC w0 g w.heap.size d (Sort.median ltInt d a b c n).2 w' ∧ (Sort.median ltInt d a b c n).1 < d.size ∧ (Sort.median ltInt d a b c n).2 ≤ n + 3) := fun W a b c n h h1 h2 h3 h4 => median_any h hgs h1 h2 h3 h4
  clear hd
  obtain ⟨q, hq⟩ : ∃ q : Nat, q = l / 4 := ⟨_, rfl⟩
  obtain ⟨q2, hq2⟩ : ∃ q2 : Nat, q2 = q * 2 := ⟨_, rfl⟩
  obtain ⟨q3, hq3⟩ : ∃ q3 : Nat, q3 = q * 3 := ⟨_, rfl⟩
  have eq0 : IntKind.i64.wrap ((l : Int) / 4) = (q : Int) := by rw [IntKind.wrap_i64]; omega
  have eq1 : IntKind.i64.wrap (q : Int) = (q : Int) := by rw [IntKind.wrap_i64]; omega
  have eq2 : IntKind.i64.wrap ((q : Int) * 2) = (q2 : Int) := by rw [IntKind.wrap_i64]; omega
  have eq3 : IntKind.i64.wrap ((q : Int) * 3) = (q3 : Int) := by rw [IntKind.wrap_i64]; omega
  have eI : IntKind.i64.wrap ((a : Int) + (q : Int)) = (I : Int) := by rw [IntKind.wrap_i64]; omega
  have eJ : IntKind.i64.wrap ((a : Int) + (q2 : Int)) = (J : Int) := by rw [IntKind.wrap_i64]; omega
  have eK : IntKind.i64.wrap ((a : Int) + (q3 : Int)) = (K : Int) := by rw [IntKind.wrap_i64]; omega
  have e8 : decide ((8 : Int) ≤ (l : Int)) = true := decide_eq_true (by omega)
  by_cases h50 : 50 ≤ l
  · have HP : Hid ((Sort.choosePivot ltInt d a b).1 = (Sort.median ltInt d (Sort.medianAdjacent ltInt d I 0).1 (Sort.medianAdjacent ltInt d J (Sort.medianAdjacent ltInt d I 0).2).1 (Sort.medianAdjacent ltInt d K (Sort.medianAdjacent ltInt d J (Sort.medianAdjacent ltInt d I 0).2).2).1 (Sort.medianAdjacent ltInt d K (Sort.medianAdjacent ltInt d J (Sort.medianAdjacent ltInt d I 0).2).2).2).1) := by
      rw [Hid]
      unfold Sort.choosePivot
      simp only [← hl]
      rw [if_pos (by omega), if_pos (by omega), ← hI, ← hJ, ← hK]
    have e50 : decide ((50 : Int) ≤ (l : Int)) = true := decide_eq_true (by omega)
    rw [HP.out]
    have h1 := HAD.out _ I 0 HS1.out (by omega) (by omega) (by omega)
    generalize Sort.medianAdjacent ltInt d I 0 = r1 at *
    have H2 : Hid (∀ W, SC w0 g w.heap.size d r1.2 W → r1.2 ≤ 3 → _) := fun W h h3 => HAD.out W J r1.2 h (by omega) (by omega) (by omega)
    generalize Sort.medianAdjacent ltInt d J r1.2 = r2 at *
    have H3 : Hid (∀ W, SC w0 g w.heap.size d r2.2 W → r2.2 ≤ 6 → _) := fun W h h3 => HAD.out W K r2.2 h (by omega) (by omega) (by omega)
    generalize Sort.medianAdjacent ltInt d K r2.2 = r3 at *
    have H4 : Hid (∀ W, SC w0 g w.heap.size d r3.2 W → r1.1 < d.size → r2.1 < d.size → r3.1 < d.size → r3.2 ≤ 9 → _) := fun W h h1 h2 h3 h4 => HMD.out W r1.1 r2.1 r3.1 r3.2 h h1 h2 h3 (by omega)
    generalize Sort.median ltInt d r1.1 r2.1 r3.1 r3.2 = r4 at *
    clear HP HAD HMD hl hI hJ hK HS0 hq hq2 hq3
    obtain ⟨i1, s1⟩ := r1
    obtain ⟨j1, s2⟩ := r2
    obtain ⟨k1, s3⟩ := r3
    obtain ⟨p, s⟩ := r4
    dsimp only at *
    clear hw0 HS1
    go_enter Try.func36, Try.ntmps36
    go_wp2_with (go_at_call 47; fail)
    refine h1.mono ?_
    rintro e w1 ⟨rfl, hS1, l1, n1⟩
    have h2 := H2.out w1 hS1 (by omega)
    clear h1 hS1 H2
    go_wp2_with (go_at_call 47; fail)
    refine h2.mono ?_
    rintro e w2 ⟨rfl, hS2, l2, n2⟩
    have h3 := H3.out w2 hS2 (by omega)
    clear h2 hS2 H3
    go_wp2_with (go_at_call 47; fail)
    refine h3.mono ?_
    rintro e w3 ⟨rfl, hS3, l3, n3⟩
    have h4 := H4.out w3 hS3 l1 l2 l3 (by omega)
    clear h3 hS3 H4
    go_wp2_with (go_at_call 48; fail)
    refine h4.mono ?_
    rintro e w4 ⟨rfl, hS4, l4, n4⟩
    have HW := hid_mk (HSW.out _ _ hS4)
    have c0 : w4.cell? ⟨w.heap.size, 0, none⟩ = some (.int .i64 (s : Int)) := cellAt hS4.cnt 0
    clear h4 hS4 HSW
    by_cases s0 : s = 0
    · have z : ((s : Int) == 0) = true := by simp [s0]
      have HN : Hid (hintN s = 1) := by rw [Hid, s0]; rfl
      clear s0
      go_wp2
      refine bodyPost_ret (v := .tuple #[.int .i64 (p : Int), .int .i64 1]) (by simp [results, Try.results36, go_sem]) rfl ⟨⟨s, by rw [HN.out]⟩, HW.out⟩
    by_cases s12 : s = 12
    · have z : ((s : Int) == 0) = false := by simp; omega
      have z2 : ((s : Int) == 12) = true := by simp [s12]
      have HN : Hid (hintN s = 2) := by rw [Hid, s12]; rfl
      clear s0 s12
      go_wp2
      refine bodyPost_ret (v := .tuple #[.int .i64 (p : Int), .int .i64 2]) (by simp [results, Try.results36, go_sem]) rfl ⟨⟨s, by rw [HN.out]⟩, HW.out⟩
    have z : ((s : Int) == 0) = false := by simp; omega
    have z2 : ((s : Int) == 12) = false := by simp; omega
    have HN : Hid (hintN s = 0) := by rw [Hid, hintN, if_neg s0, if_neg s12]
    clear s0 s12
    go_wp2
    refine bodyPost_ret (v := .tuple #[.int .i64 (p : Int), .int .i64 0]) (by simp [results, Try.results36, go_sem]) rfl ⟨⟨s, by rw [HN.out]⟩, HW.out⟩
  · have HP : Hid ((Sort.choosePivot ltInt d a b).1 = (Sort.median ltInt d I J K 0).1) := by
      rw [Hid]
      unfold Sort.choosePivot
      simp only [← hl]
      rw [if_pos (by omega), if_neg (by omega), ← hI, ← hJ, ← hK]
    have e50 : decide ((50 : Int) ≤ (l : Int)) = false := decide_eq_false (by omega)
    rw [HP.out]
    have h4 := HMD.out _ I J K 0 HS1.out (by omega) (by omega) (by omega) (by omega)
    generalize Sort.median ltInt d I J K 0 = r4 at *
    clear HP HAD HMD hl hI hJ hK HS0 hq hq2 hq3
    obtain ⟨p, s⟩ := r4
    dsimp only at *
    clear hw0 HS1
    go_enter Try.func36, Try.ntmps36
    go_wp2_with (go_at_call 48; fail)
    refine h4.mono ?_
    rintro e w4 ⟨rfl, hS4, l4, n4⟩
    have HW := hid_mk (HSW.out _ _ hS4)
    have c0 : w4.cell? ⟨w.heap.size, 0, none⟩ = some (.int .i64 (s : Int)) := cellAt hS4.cnt 0
    clear h4 hS4 HSW
    by_cases s0 : s = 0
    · have z : ((s : Int) == 0) = true := by simp [s0]
      have HN : Hid (hintN s = 1) := by rw [Hid, s0]; rfl
      clear s0
      go_wp2
      refine bodyPost_ret (v := .tuple #[.int .i64 (p : Int), .int .i64 1]) (by simp [results, Try.results36, go_sem]) rfl ⟨⟨s, by rw [HN.out]⟩, HW.out⟩
    have s12 : ¬ s = 12 := by omega
    have z : ((s : Int) == 0) = false := by simp; omega
    have z2 : ((s : Int) == 12) = false := by simp; omega
    have HN : Hid (hintN s = 0) := by rw [Hid, hintN, if_neg s0, if_neg s12]
    clear s0 s12
    go_wp2
    refine bodyPost_ret (v := .tuple #[.int .i64 (p : Int), .int .i64 0]) (by simp [results, Try.results36, go_sem]) rfl ⟨⟨s, by rw [HN.out]⟩, HW.out⟩
end Go.Proofs.Ytdiljkmlneeboaa
