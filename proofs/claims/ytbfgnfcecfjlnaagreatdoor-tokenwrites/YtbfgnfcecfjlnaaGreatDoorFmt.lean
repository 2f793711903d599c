/- strconv.FormatInt to base 16, where it is wanted. -/
import Derived.Test.YtbfgnfcecfjlnaaGreatDoorToksAll
namespace Go.Proofs.YtbfgnfcecfjlnaaGreatDoor
open Go.RowKit
set_option maxRecDepth 100000

/-- What the laid table of math/bits holds at the place that is looked at. -/
def Tab (w : World) : Prop := w.cell? ⟨3, 15, none⟩ = some (.int .u8 4)

set_option maxHeartbeats 1000000 in
theorem tz_16 (w : World) (h : Tab w) : Calls Tryz.prog 135 #[.int .u64 16] w fun e w' => e = .returned (.int .i64 4) ∧ w = w' := by
  unfold Tab at h
  have hw1 : IntKind.u64.wrap (-16) = 18446744073709551600 := by decide +kernel
  have hw2 : bits BinOp.and IntKind.u64 16 18446744073709551600 = 16 := by decide +kernel
  have hw3 : IntKind.u64.wrap (16 * 285870213051353865) = 4573923408821661840 := by decide +kernel
  have hw4 : IntKind.u64.wrap 4573923408821661840 = 4573923408821661840 := by decide +kernel
  go_enter Tryz.func135, Tryz.ntmps135
  go_wp2
  go_ret
  exact ⟨rfl, rfl⟩
theorem tz16 (w : World) (h : Tab w) : Calls Tryz.prog 133 #[.int .u64 16] w fun e w' => e = .returned (.int .i64 4) ∧ w = w' := by
  go_enter Tryz.func133, Tryz.ntmps133
  go_wp2_with (go_at_call 135; fail)
  refine (tz_16 _ h).mono ?_
  rintro e w' ⟨rfl, rfl⟩
  go_wp2
  go_ret
  exact ⟨rfl, rfl⟩
theorem pow16 (w : World) : Calls Tryz.prog 132 #[.int .i64 16] w fun e w' => e = .returned (.bool true) ∧ w = w' := by
  go_enter Tryz.func132, Tryz.ntmps132
  go_wp2
  go_ret
  exact ⟨rfl, rfl⟩

def digS : ByteArray := ⟨#[48, 49, 50, 51, 52, 53, 54, 55, 56, 57, 97, 98, 99, 100, 101, 102, 103, 104, 105, 106, 107, 108, 109, 110, 111, 112, 113, 114, 115, 116, 117, 118, 119, 120, 121, 122]⟩
def digZ (n : Nat) : Int := if n < 10 then 48 + n else 87 + n

theorem dig_at (n : Nat) (hn : n < 16) (p : n < digS.size) : (((digS[n]'p).toNat : Nat) : Int) = digZ n := by
  have key : ∀ m : Fin 16, (((digS[m.val]'(Nat.lt_of_lt_of_le m.isLt (by decide))).toNat : Nat) : Int) = digZ m.val := by decide +kernel
  exact key ⟨n, hn⟩
theorem digZ_byte (n : Nat) (hn : n < 16) : 0 ≤ digZ n ∧ digZ n < 256 := by
  unfold digZ
  split <;> omega
theorem one_conv {W : World} {B o c : Nat} {d : Int} (h : W.cell? ⟨B, o, none⟩ = some (.int .u8 d)) (hd : 0 ≤ d ∧ d < 256) : (convert 22 9 (.slice (some ⟨B, o, none⟩) 1 c)).run Tryz.prog W = .ok (.string (strOfNums [d])) W := by
  have hs : (strOfNums [d]).size = 1 := strOf_size [d]
  have := conv (w := W) (b := B) (off := o) (cap := c) (s := strOfNums [d]) (by
    intro j hj
    have hj0 : j = 0 := by omega
    subst hj0
    have e : (((strOfNums [d]).get! 0).toNat : Int) = d := byte_back hd
    rw [e]
    exact h)
  rw [hs] at this
  exact this

set_option maxHeartbeats 2000000 in
set_option maxRecDepth 100000 in
theorem bits_small (n : Nat) (hn : n < 16) (w : World) (h : Tab w) (h3 : 3 < w.heap.size) :
    Calls Tryz.prog 128 #[.slice none 0 0, .int .u64 n, .int .i64 16, .bool false, .bool false] w fun e w' => e = .returned (.tuple #[.slice none 0 0, .string (strOfNums [digZ n])]) ∧ Below w.heap.size w w' := by
  have hT : ∀ o, Tab (w.alloc o) := by
    intro o
    have e : (w.alloc o).cell? ⟨3, 15, none⟩ = w.cell? ⟨3, 15, none⟩ := World.cell?_of_block (w := w) (Below.heap_alloc w o 3 h3)
    exact e.trans h
  have htz := fun o => tz16 _ (hT o)
  clear h hT
  go_enter Tryz.func128, Tryz.ntmps128
  go_wp2_with (go_at_call 132; fail)
  refine (pow16 _).mono ?_
  rintro e w1 ⟨rfl, rfl⟩
  go_wp2_with (go_at_call 133; fail)
  refine (htz _).mono ?_
  rintro e w2 ⟨rfl, rfl⟩
  go_wp2
  have hB : (w.alloc (.cells Tryz.zeroCells107 107)).heap[w.heap.size]? = some (.cells Tryz.zeroCells107 107 (0, 0)) := heap_alloc_new w _
  have c64 : (w.alloc (.cells Tryz.zeroCells107 107)).cell? ⟨w.heap.size, 64, none⟩ = some (.int .u8 0) := by
    rw [Lib.cell_of_heap hB]; kernel_rfl
  have f64 : (w.alloc (.cells Tryz.zeroCells107 107)).frozen? ⟨w.heap.size, 64, none⟩ = false := Lib.frozen_of_heap hB 64
  have HBel : Hid (Below w.heap.size w (w.alloc (.cells Tryz.zeroCells107 107))) := (Below.refl _ w).alloc (Nat.le_refl _) _
  clear hB htz
  generalize (w.alloc (.cells Tryz.zeroCells107 107)) = W0 at *
  go_loopw [1, 13] (fun u i wr => u = .int .u64 n ∧ i = .int .i64 65 ∧ wr = W0) (fun _ _ _ => 0)
  case atStart => exact ⟨rfl, rfl, rfl⟩
  case round =>
    obtain ⟨rfl, rfl, rfl⟩ := hrel
    have HD : ∀ (p : n < digS.size), (((digS[n]'p).toNat : Nat) : Int) = digZ n := fun p => dig_at n hn p
    have hdz := digZ_byte n hn
    have hset : ∀ x : Value, (wr.setCell ⟨w.heap.size, 64, none⟩ x).cell? ⟨w.heap.size, 64, none⟩ = some x := fun x => World.cell?_setCell_same _ _ _ c64
    go_wp2
    have hx := HD (by show n < 36; omega)
    unfold digS at hx
    rw [hx, one_conv (hset _) hdz]
    simp only [Result.andThen]
    rw [Oper.upon_value]
    go_wp2
    go_ret2
    exact ⟨rfl, HBel.out.setCell (p := ⟨w.heap.size, 64, none⟩) (Nat.le_refl _) _⟩

theorem two_conv {W : World} {B o c : Nat} {d e : Int} (h : W.cell? ⟨B, o, none⟩ = some (.int .u8 d)) (h2 : W.cell? ⟨B, o + 1, none⟩ = some (.int .u8 e)) (hd : 0 ≤ d ∧ d < 256) (he : 0 ≤ e ∧ e < 256) : (convert 22 9 (.slice (some ⟨B, o, none⟩) 2 c)).run Tryz.prog W = .ok (.string (strOfNums [d, e])) W := by
  have hs : (strOfNums [d, e]).size = 2 := strOf_size [d, e]
  have := conv (w := W) (b := B) (off := o) (cap := c) (s := strOfNums [d, e]) (by
    intro j hj
    rcases (show j = 0 ∨ j = 1 by omega) with hj0 | hj0
    · subst hj0
      have e1 : (((strOfNums [d, e]).get! 0).toNat : Int) = d := byte_back hd
      rw [e1]
      exact h
    · subst hj0
      have e1 : (((strOfNums [d, e]).get! 1).toNat : Int) = e := byte_back he
      rw [e1]
      exact h2)
  rw [hs] at this
  exact this
theorem and_15 (n : Nat) (hn : n < 128) : bits BinOp.and IntKind.u64 n 15 = ((n % 16 : Nat) : Int) := by
  have key : ∀ m : Fin 128, bits BinOp.and IntKind.u64 (m.val : Int) 15 = ((m.val % 16 : Nat) : Int) := by decide +kernel
  exact key ⟨n, hn⟩
def BitsGo (n B : Nat) (W0 : World) (u i : Value) (wr : World) : Prop :=
  (u = .int .u64 n ∧ i = .int .i64 65 ∧ wr = W0) ∨ (u = .int .u64 (n / 16 : Nat) ∧ i = .int .i64 64 ∧ wr = W0.setCell ⟨B, 64, none⟩ (.int .u8 (digZ (n % 16))))

set_option maxHeartbeats 2000000 in
set_option maxRecDepth 100000 in
theorem bits_two (n : Nat) (hn : 16 ≤ n) (hn2 : n < 128) (w : World) (h : Tab w) (h3 : 3 < w.heap.size) :
    Calls Tryz.prog 128 #[.slice none 0 0, .int .u64 n, .int .i64 16, .bool false, .bool false] w fun e w' => e = .returned (.tuple #[.slice none 0 0, .string (strOfNums [digZ (n / 16), digZ (n % 16)])]) ∧ Below w.heap.size w w' := by
  have hT : ∀ o, Tab (w.alloc o) := by
    intro o
    have e : (w.alloc o).cell? ⟨3, 15, none⟩ = w.cell? ⟨3, 15, none⟩ := World.cell?_of_block (w := w) (Below.heap_alloc w o 3 h3)
    exact e.trans h
  have htz := fun o => tz16 _ (hT o)
  clear h hT
  go_enter Tryz.func128, Tryz.ntmps128
  go_wp2_with (go_at_call 132; fail)
  refine (pow16 _).mono ?_
  rintro e w1 ⟨rfl, rfl⟩
  go_wp2_with (go_at_call 133; fail)
  refine (htz _).mono ?_
  rintro e w2 ⟨rfl, rfl⟩
  go_wp2
  have hB : (w.alloc (.cells Tryz.zeroCells107 107)).heap[w.heap.size]? = some (.cells Tryz.zeroCells107 107 (0, 0)) := heap_alloc_new w _
  have c64 : (w.alloc (.cells Tryz.zeroCells107 107)).cell? ⟨w.heap.size, 64, none⟩ = some (.int .u8 0) := by
    rw [Lib.cell_of_heap hB]; kernel_rfl
  have c63 : (w.alloc (.cells Tryz.zeroCells107 107)).cell? ⟨w.heap.size, 63, none⟩ = some (.int .u8 0) := by
    rw [Lib.cell_of_heap hB]; kernel_rfl
  have f64 : (w.alloc (.cells Tryz.zeroCells107 107)).frozen? ⟨w.heap.size, 64, none⟩ = false := Lib.frozen_of_heap hB 64
  have f63 : (w.alloc (.cells Tryz.zeroCells107 107)).frozen? ⟨w.heap.size, 63, none⟩ = false := Lib.frozen_of_heap hB 63
  have HBel : Hid (Below w.heap.size w (w.alloc (.cells Tryz.zeroCells107 107))) := (Below.refl _ w).alloc (Nat.le_refl _) _
  have hand := and_15 n hn2
  clear hB htz
  generalize (w.alloc (.cells Tryz.zeroCells107 107)) = W0 at *
  go_loopw [1, 13] (fun u i wr => BitsGo n w.heap.size W0 u i wr) (fun u _ _ => (intOf u).toNat)
  case atStart => exact .inl ⟨rfl, rfl, rfl⟩
  case round =>
    rcases hrel with ⟨rfl, rfl, rfl⟩ | ⟨rfl, rfl, rfl⟩
    · go_wp2
      have hx := dig_at (n % 16) (by omega) (by show n % 16 < 36; omega)
      unfold digS at hx
      refine ⟨.inr ⟨?_, rfl, ?_⟩, ?_⟩
      · exact congrArg (Value.int IntKind.u64) (by omega)
      · rw [hx]
      · simp only [intOf]
        omega
    · clear hand
      have hr := digZ_byte (n % 16) (by omega)
      have hq16 : n / 16 < 16 := by omega
      generalize hq : n / 16 = q at *
      generalize hdr : digZ (n % 16) = dr at *
      have HQ : Hid (n / 16 = q) := hq
      have HR : Hid (digZ (n % 16) = dr) := hdr
      clear hq hdr
      have hdq := digZ_byte q hq16
      have hx := dig_at q hq16 (by show q < 36; omega)
      unfold digS at hx
      have g63 : (W0.setCell ⟨w.heap.size, 64, none⟩ (.int .u8 dr)).cell? ⟨w.heap.size, 63, none⟩ = some (.int .u8 0) := (World.cell?_setCell_other _ _ _ _ (by simp)).trans c63
      have g64 : (W0.setCell ⟨w.heap.size, 64, none⟩ (.int .u8 dr)).cell? ⟨w.heap.size, 64, none⟩ = some (.int .u8 dr) := World.cell?_setCell_same _ _ _ c64
      have HB2 : Hid (Below w.heap.size w (W0.setCell ⟨w.heap.size, 64, none⟩ (.int .u8 dr))) := HBel.out.setCell (p := ⟨w.heap.size, 64, none⟩) (Nat.le_refl _) _
      have ff : (W0.setCell ⟨w.heap.size, 64, none⟩ (.int .u8 dr)).frozen? ⟨w.heap.size, 63, none⟩ = false := by simp [f63]
      clear c63 c64 f63 f64 HBel
      generalize W0.setCell ⟨w.heap.size, 64, none⟩ (.int .u8 dr) = W1 at *
      have hset : ∀ x : Value, (W1.setCell ⟨w.heap.size, 63, none⟩ x).cell? ⟨w.heap.size, 63, none⟩ = some x := fun x => World.cell?_setCell_same _ _ _ g63
      have hset2 : ∀ x : Value, (W1.setCell ⟨w.heap.size, 63, none⟩ x).cell? ⟨w.heap.size, 63 + 1, none⟩ = some (.int .u8 dr) := fun x => (World.cell?_setCell_other _ _ _ _ (by simp)).trans g64
      have HXX : Hid (((((⟨#[48, 49, 50, 51, 52, 53, 54, 55, 56, 57, 97, 98, 99, 100, 101, 102, 103, 104, 105, 106, 107, 108, 109, 110, 111, 112, 113, 114, 115, 116, 117, 118, 119, 120, 121, 122]⟩ : ByteArray)[q]'(show q < 36 by omega)).toNat : Nat) : Int) = digZ q) := hx
      clear hx
      go_wp2
      rw [HXX.out, two_conv (hset _) (hset2 _) hdq hr]
      simp only [Result.andThen]
      rw [Oper.upon_value]
      go_wp2
      go_ret2
      exact ⟨by rw [HQ.out, HR.out]; rfl, HB2.out.setCell (p := ⟨w.heap.size, 63, none⟩) (Nat.le_refl _) _⟩

def hexL (n : Nat) : List Int := if n < 16 then [digZ n] else [digZ (n / 16), digZ (n % 16)]
theorem fmt_in (n : Nat) (hn : n < 128) (w : World) (h : Tab w) (h3 : 3 < w.heap.size) :
    Calls Tryz.prog 123 #[.int .i64 n, .int .i64 16] w fun e w' => e = .returned (.string (strOfNums (hexL n))) ∧ Below w.heap.size w w' := by
  have hb : Calls Tryz.prog 128 #[.slice none 0 0, .int .u64 n, .int .i64 16, .bool false, .bool false] w fun e w' => e = .returned (.tuple #[.slice none 0 0, .string (strOfNums (hexL n))]) ∧ Below w.heap.size w w' := by
    unfold hexL
    by_cases h16 : n < 16
    · rw [if_pos h16]; exact bits_small n h16 w h h3
    · rw [if_neg h16]; exact bits_two n (by omega) hn w h h3
  generalize strOfNums (hexL n) = S at *
  clear h
  go_enter Tryz.func123, Tryz.ntmps123
  go_wp2_with (go_at_call 128; fail)
  refine hb.mono ?_
  rintro e w1 ⟨rfl, b1⟩
  go_wp2
  go_ret
  exact ⟨rfl, b1⟩
theorem fmt_any (n : Nat) (hn : n < 128) (w : World) (h : Tab w) (h3 : 3 < w.heap.size) :
    Calls Tryz.prog 112 #[.int .i64 n, .int .i64 16] w fun e w' => e = .returned (.string (strOfNums (hexL n))) ∧ Below w.heap.size w w' := by
  go_enter Tryz.func112, Tryz.ntmps112
  go_wp2_with (go_at_call 123; fail)
  refine (fmt_in n hn w h h3).mono ?_
  rintro e w1 ⟨rfl, b1⟩
  go_wp2
  go_ret
  exact ⟨rfl, b1⟩
end Go.Proofs.YtbfgnfcecfjlnaaGreatDoor
