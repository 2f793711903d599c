/- The document's Source of each kind. -/
import Derived.Test.YtbfgnfcecfjlnaaGreatDoorWUnit
import Derived.Test.YtbfgnfcecfjlnaaGreatDoorWQuote
import Derived.Test.YtbfgnfcecfjlnaaGreatDoorRRefMoves
namespace Go.Proofs.YtbfgnfcecfjlnaaGreatDoor
open Go.RowKit

theorem partsL_len (s : ByteArray) : (partsL s).length ≤ 5 * s.size := by
  have h1 : ∀ l : List Int, (l.flatMap partL).length ≤ 5 * l.length := by
    intro l
    induction l with
    | nil => simp
    | cons c r ih =>
      have := partL_len c
      rw [List.flatMap_cons, List.length_append, List.length_cons]
      omega
  have h2 := h1 (chars s)
  have h4 : (chars s).length ≤ s.size := charsFrom_len s s.size 0
  unfold partsL
  omega
theorem unitL_len (s : ByteArray) : (unitL s).length ≤ 5 * s.size + 5 := by
  unfold unitL
  split
  · have h1 := numL_len ((s.get! 0).toNat : Int)
    have h2 := partsL_len (s.extract 1 s.size)
    have h3 : (s.extract 1 s.size).size ≤ s.size := by simp
    rw [List.length_append]
    omega
  · exact escL_len' s

section
variable (tx un : ByteArray) (wh fl : Bool) (w : World)

set_option maxHeartbeats 1000000 in
set_option maxRecDepth 100000 in
theorem rsource_1 (hs : tx.size ≤ 5000) : Calls Tryz.prog 18 #[.agg #[.int .i64 1, .string tx, .string un, .bool wh, .bool fl]] w fun e w' => e = .returned (.string (strOfNums (escL tx))) ∧ Below w.heap.size w w' := by
  have hB : Below w.heap.size w (w.alloc (.cells #[.int .i64 1, .string tx, .string un, .bool wh, .bool fl] 31)) := (Below.refl _ w).alloc (Nat.le_refl _) _
  have hc := rescape_any tx hs (w.alloc (.cells #[.int .i64 1, .string tx, .string un, .bool wh, .bool fl] 31))
  generalize strOfNums (escL tx) = E at *
  go_enter Tryz.func18, Tryz.ntmps18
  go_wp2_with (go_at_call 14; fail)
  refine (hc).mono ?_
  rintro e w1 ⟨rfl, b1⟩
  go_wp2
  go_ret
  exact ⟨rfl, hB.trans (b1.mono hB.size)⟩

set_option maxHeartbeats 1000000 in
set_option maxRecDepth 100000 in
theorem rsource_2 (hs : tx.size ≤ 5000) : Calls Tryz.prog 18 #[.agg #[.int .i64 2, .string tx, .string un, .bool wh, .bool fl]] w fun e w' => e = .returned (.string (strOfNums (escL tx) ++ ⟨#[40]⟩)) ∧ Below w.heap.size w w' := by
  have hB : Below w.heap.size w (w.alloc (.cells #[.int .i64 2, .string tx, .string un, .bool wh, .bool fl] 31)) := (Below.refl _ w).alloc (Nat.le_refl _) _
  have hsz : (strOfNums (escL tx)).size ≤ 30000 := by
    rw [strOf_size, escL_eq]
    have h1 := ref_len (chars tx).length (hd (chars tx) 0) (chars tx) 0
    have h2 : (chars tx).length ≤ tx.size := charsFrom_len tx tx.size 0
    unfold escR
    omega
  have hc := rescape_any tx hs (w.alloc (.cells #[.int .i64 2, .string tx, .string un, .bool wh, .bool fl] 31))
  generalize strOfNums (escL tx) = E at *
  go_enter Tryz.func18, Tryz.ntmps18
  go_wp2_with (go_at_call 14; fail)
  refine (hc).mono ?_
  rintro e w1 ⟨rfl, b1⟩
  go_wp2
  go_ret
  exact ⟨rfl, hB.trans (b1.mono hB.size)⟩

set_option maxHeartbeats 1000000 in
set_option maxRecDepth 100000 in
theorem rsource_3 (hs : tx.size ≤ 5000) : Calls Tryz.prog 18 #[.agg #[.int .i64 3, .string tx, .string un, .bool wh, .bool fl]] w fun e w' => e = .returned (.string (⟨#[64]⟩ ++ strOfNums (escL tx))) ∧ Below w.heap.size w w' := by
  have hB : Below w.heap.size w (w.alloc (.cells #[.int .i64 3, .string tx, .string un, .bool wh, .bool fl] 31)) := (Below.refl _ w).alloc (Nat.le_refl _) _
  have hsz : (strOfNums (escL tx)).size ≤ 30000 := by
    rw [strOf_size, escL_eq]
    have h1 := ref_len (chars tx).length (hd (chars tx) 0) (chars tx) 0
    have h2 : (chars tx).length ≤ tx.size := charsFrom_len tx tx.size 0
    unfold escR
    omega
  have hc := rescape_any tx hs (w.alloc (.cells #[.int .i64 3, .string tx, .string un, .bool wh, .bool fl] 31))
  generalize strOfNums (escL tx) = E at *
  go_enter Tryz.func18, Tryz.ntmps18
  go_wp2_with (go_at_call 14; fail)
  refine (hc).mono ?_
  rintro e w1 ⟨rfl, b1⟩
  go_wp2
  go_ret
  exact ⟨rfl, hB.trans (b1.mono hB.size)⟩

set_option maxHeartbeats 1000000 in
set_option maxRecDepth 100000 in
theorem rsource_4t (hs : tx.size ≤ 5000) : Calls Tryz.prog 18 #[.agg #[.int .i64 4, .string tx, .string un, .bool wh, .bool true]] w fun e w' => e = .returned (.string (⟨#[35]⟩ ++ strOfNums (escL tx))) ∧ Below w.heap.size w w' := by
  have hB : Below w.heap.size w (w.alloc (.cells #[.int .i64 4, .string tx, .string un, .bool wh, .bool true] 31)) := (Below.refl _ w).alloc (Nat.le_refl _) _
  have hsz : (strOfNums (escL tx)).size ≤ 30000 := by
    rw [strOf_size, escL_eq]
    have h1 := ref_len (chars tx).length (hd (chars tx) 0) (chars tx) 0
    have h2 : (chars tx).length ≤ tx.size := charsFrom_len tx tx.size 0
    unfold escR
    omega
  have hc := rescape_any tx hs (w.alloc (.cells #[.int .i64 4, .string tx, .string un, .bool wh, .bool true] 31))
  generalize strOfNums (escL tx) = E at *
  go_enter Tryz.func18, Tryz.ntmps18
  go_wp2_with (go_at_call 14; fail)
  refine (hc).mono ?_
  rintro e w1 ⟨rfl, b1⟩
  go_wp2
  go_ret
  exact ⟨rfl, hB.trans (b1.mono hB.size)⟩

set_option maxHeartbeats 1000000 in
set_option maxRecDepth 100000 in
theorem rsource_4f (hs : tx.size ≤ 5000) : Calls Tryz.prog 18 #[.agg #[.int .i64 4, .string tx, .string un, .bool wh, .bool false]] w fun e w' => e = .returned (.string (strOfNums ([35] ++ partsL tx))) ∧ Below w.heap.size w w' := by
  have hB : Below w.heap.size w (w.alloc (.cells #[.int .i64 4, .string tx, .string un, .bool wh, .bool false] 31)) := (Below.refl _ w).alloc (Nat.le_refl _) _
  have hc := rhash_any tx hs (w.alloc (.cells #[.int .i64 4, .string tx, .string un, .bool wh, .bool false] 31))
  generalize strOfNums ([35] ++ partsL tx) = E at *
  go_enter Tryz.func18, Tryz.ntmps18
  go_wp2_with (go_at_call 51; fail)
  refine (hc).mono ?_
  rintro e w1 ⟨rfl, b1⟩
  go_wp2
  go_ret
  exact ⟨rfl, hB.trans (b1.mono hB.size)⟩

set_option maxHeartbeats 1000000 in
set_option maxRecDepth 100000 in
theorem rsource_5 (hs : tx.size ≤ 5000) : Calls Tryz.prog 18 #[.agg #[.int .i64 5, .string tx, .string un, .bool wh, .bool fl]] w fun e w' => e = .returned (.string (strOfNums (quoL tx))) ∧ Below w.heap.size w w' := by
  have hB : Below w.heap.size w (w.alloc (.cells #[.int .i64 5, .string tx, .string un, .bool wh, .bool fl] 31)) := (Below.refl _ w).alloc (Nat.le_refl _) _
  have hc := rquote_any tx hs (w.alloc (.cells #[.int .i64 5, .string tx, .string un, .bool wh, .bool fl] 31))
  generalize strOfNums (quoL tx) = E at *
  go_enter Tryz.func18, Tryz.ntmps18
  go_wp2_with (go_at_call 16; fail)
  refine (hc).mono ?_
  rintro e w1 ⟨rfl, b1⟩
  go_wp2
  go_ret
  exact ⟨rfl, hB.trans (b1.mono hB.size)⟩

set_option maxHeartbeats 1000000 in
set_option maxRecDepth 100000 in
theorem rsource_9 : Calls Tryz.prog 18 #[.agg #[.int .i64 9, .string tx, .string un, .bool wh, .bool fl]] w fun e w' => e = .returned (.string (tx)) ∧ Below w.heap.size w w' := by
  have hB : Below w.heap.size w (w.alloc (.cells #[.int .i64 9, .string tx, .string un, .bool wh, .bool fl] 31)) := (Below.refl _ w).alloc (Nat.le_refl _) _
  go_enter Tryz.func18, Tryz.ntmps18
  go_wp2
  go_ret
  exact ⟨rfl, hB⟩

set_option maxHeartbeats 1000000 in
set_option maxRecDepth 100000 in
theorem rsource_10 : Calls Tryz.prog 18 #[.agg #[.int .i64 10, .string tx, .string un, .bool wh, .bool fl]] w fun e w' => e = .returned (.string (tx)) ∧ Below w.heap.size w w' := by
  have hB : Below w.heap.size w (w.alloc (.cells #[.int .i64 10, .string tx, .string un, .bool wh, .bool fl] 31)) := (Below.refl _ w).alloc (Nat.le_refl _) _
  go_enter Tryz.func18, Tryz.ntmps18
  go_wp2
  go_ret
  exact ⟨rfl, hB⟩

set_option maxHeartbeats 1000000 in
set_option maxRecDepth 100000 in
theorem rsource_11 (hs : tx.size ≤ 5000) : Calls Tryz.prog 18 #[.agg #[.int .i64 11, .string tx, .string un, .bool wh, .bool fl]] w fun e w' => e = .returned (.string (tx ++ ⟨#[37]⟩)) ∧ Below w.heap.size w w' := by
  have hB : Below w.heap.size w (w.alloc (.cells #[.int .i64 11, .string tx, .string un, .bool wh, .bool fl] 31)) := (Below.refl _ w).alloc (Nat.le_refl _) _
  go_enter Tryz.func18, Tryz.ntmps18
  go_wp2
  go_ret
  exact ⟨rfl, hB⟩

set_option maxHeartbeats 1000000 in
set_option maxRecDepth 100000 in
theorem rsource_12 (hs : tx.size ≤ 5000) (hu : un.size ≤ 5000) : Calls Tryz.prog 18 #[.agg #[.int .i64 12, .string tx, .string un, .bool wh, .bool fl]] w fun e w' => e = .returned (.string (tx ++ strOfNums (unitL un))) ∧ Below w.heap.size w w' := by
  have hB : Below w.heap.size w (w.alloc (.cells #[.int .i64 12, .string tx, .string un, .bool wh, .bool fl] 31)) := (Below.refl _ w).alloc (Nat.le_refl _) _
  have hsz : (strOfNums (unitL un)).size ≤ 60000 := by
    rw [strOf_size]
    have := unitL_len un
    omega
  have hc := fun w => runit_any un hu w
  have hnew := heap_alloc_new w (.cells #[.int .i64 12, .string tx, .string un, .bool wh, .bool fl] 31)
  have hcc : ∀ m w1, Below ((w.alloc (.cells #[.int .i64 12, .string tx, .string un, .bool wh, .bool fl] 31)).drewN m).heap.size ((w.alloc (.cells #[.int .i64 12, .string tx, .string un, .bool wh, .bool fl] 31)).drewN m) w1 → w1.cell? ⟨w.heap.size, 1, none⟩ = some (.string tx) ∧ Below w.heap.size w w1 := by
    intro m w1 b1
    have h5 := cells5 ((b1.block w.heap.size (by show w.heap.size < (w.alloc (.cells #[.int .i64 12, .string tx, .string un, .bool wh, .bool fl] 31)).heap.size; simp)).trans (show ((w.alloc (.cells #[.int .i64 12, .string tx, .string un, .bool wh, .bool fl] 31)).drewN m).heap[w.heap.size]? = _ from hnew))
    exact ⟨h5.2.1, (hB.trans (below_drewN _ _ m)).trans (b1.mono (by show w.heap.size ≤ (w.alloc (.cells #[.int .i64 12, .string tx, .string un, .bool wh, .bool fl] 31)).heap.size; simp))⟩
  have HCC := hid_mk hcc
  clear hcc hnew
  generalize strOfNums (unitL un) = E at *
  go_enter Tryz.func18, Tryz.ntmps18
  go_wp2
  go_region_with (go_at_call 52; refine (hc _).mono ?_; rintro e w1 ⟨rfl, b1⟩; have c1 := (HCC.out _ _ b1).1; have B1 := (HCC.out _ _ b1).2)
  all_goals
    go_wp2
    go_ret
    exact ⟨rfl, B1⟩

set_option maxHeartbeats 1000000 in
set_option maxRecDepth 100000 in
theorem rsource_13 : Calls Tryz.prog 18 #[.agg #[.int .i64 13, .string tx, .string un, .bool wh, .bool fl]] w fun e w' => e = .returned (.string (⟨#[32]⟩)) ∧ Below w.heap.size w w' := by
  have hB : Below w.heap.size w (w.alloc (.cells #[.int .i64 13, .string tx, .string un, .bool wh, .bool fl] 31)) := (Below.refl _ w).alloc (Nat.le_refl _) _
  go_enter Tryz.func18, Tryz.ntmps18
  go_wp2
  go_ret
  exact ⟨rfl, hB⟩

set_option maxHeartbeats 1000000 in
set_option maxRecDepth 100000 in
theorem rsource_14 : Calls Tryz.prog 18 #[.agg #[.int .i64 14, .string tx, .string un, .bool wh, .bool fl]] w fun e w' => e = .returned (.string (⟨#[60, 33, 45, 45]⟩)) ∧ Below w.heap.size w w' := by
  have hB : Below w.heap.size w (w.alloc (.cells #[.int .i64 14, .string tx, .string un, .bool wh, .bool fl] 31)) := (Below.refl _ w).alloc (Nat.le_refl _) _
  go_enter Tryz.func18, Tryz.ntmps18
  go_wp2
  go_ret
  exact ⟨rfl, hB⟩

set_option maxHeartbeats 1000000 in
set_option maxRecDepth 100000 in
theorem rsource_15 : Calls Tryz.prog 18 #[.agg #[.int .i64 15, .string tx, .string un, .bool wh, .bool fl]] w fun e w' => e = .returned (.string (⟨#[45, 45, 62]⟩)) ∧ Below w.heap.size w w' := by
  have hB : Below w.heap.size w (w.alloc (.cells #[.int .i64 15, .string tx, .string un, .bool wh, .bool fl] 31)) := (Below.refl _ w).alloc (Nat.le_refl _) _
  go_enter Tryz.func18, Tryz.ntmps18
  go_wp2
  go_ret
  exact ⟨rfl, hB⟩

theorem R2.ascS2 : ∀ k (h : k < (⟨#[58, 59, 44, 91, 93, 40, 41, 123, 125]⟩ : ByteArray).size), ((⟨#[58, 59, 44, 91, 93, 40, 41, 123, 125]⟩ : ByteArray)[k]'h).toNat < 128 := by decide
theorem sign_of : ∀ p (h : p < (⟨#[58, 59, 44, 91, 93, 40, 41, 123, 125]⟩ : ByteArray).size), signZ ((((⟨#[58, 59, 44, 91, 93, 40, 41, 123, 125]⟩ : ByteArray)[p]'h).toNat : Nat) : Int) = 16 + (p : Int) ∧ strOfNums (Lib.encodeRuneZ ((((⟨#[58, 59, 44, 91, 93, 40, 41, 123, 125]⟩ : ByteArray)[p]'h).toNat : Nat) : Int)) = strOfNums [signL (16 + (p : Int))] := by decide +kernel
def lastS (k : Int) : ByteArray := if 16 ≤ k ∧ k ≤ 24 then strOfNums [signL k] else ⟨#[]⟩

set_option maxHeartbeats 1000000 in
set_option maxRecDepth 100000 in
theorem rsource_last (k : Int) (hk : ¬ (1 ≤ k ∧ k ≤ 5) ∧ ¬ (9 ≤ k ∧ k ≤ 15)) : Calls Tryz.prog 18 #[.agg #[.int .i64 k, .string tx, .string un, .bool wh, .bool fl]] w fun e w' => e = .returned (.string (lastS k)) ∧ Below w.heap.size w w' := by
  have hB : Below w.heap.size w (w.alloc (.cells #[.int .i64 k, .string tx, .string un, .bool wh, .bool fl] 31)) := (Below.refl _ w).alloc (Nat.le_refl _) _
  have h1 : (k == 1) = false := by simp; omega
  have h2 : (k == 2) = false := by simp; omega
  have h3 : (k == 3) = false := by simp; omega
  have h4 : (k == 4) = false := by simp; omega
  have h5 : (k == 5) = false := by simp; omega
  have h9 : (k == 9) = false := by simp; omega
  have h10 : (k == 10) = false := by simp; omega
  have h11 : (k == 11) = false := by simp; omega
  have h12 : (k == 12) = false := by simp; omega
  have h13 : (k == 13) = false := by simp; omega
  have h14 : (k == 14) = false := by simp; omega
  have h15 : (k == 15) = false := by simp; omega
  have hnew := heap_alloc_new w (.cells #[.int .i64 k, .string tx, .string un, .bool wh, .bool fl] 31)
  have hlt0 : w.heap.size < (w.alloc (.cells #[.int .i64 k, .string tx, .string un, .bool wh, .bool fl] 31)).heap.size := by simp
  clear hk
  have e9 : (w.alloc (.cells #[.int .i64 k, .string tx, .string un, .bool wh, .bool fl] 31)).heap.size = w.heap.size + 1 := by simp
  go_enter Tryz.func18, Tryz.ntmps18
  go_wp2
  generalize (w.alloc (.cells #[.int .i64 k, .string tx, .string un, .bool wh, .bool fl] 31)) = W1 at *
  go_loopw [] (fun wr => ∃ p : Nat, p ≤ 9 ∧ (∀ j : Nat, j < p → k ≠ 16 + (j : Int)) ∧ wr.heap[w.heap.size + 1]? = some (.stringIter ⟨#[58, 59, 44, 91, 93, 40, 41, 123, 125]⟩ p) ∧ wr.heap[w.heap.size]? = some (.cells #[.int .i64 k, .string tx, .string un, .bool wh, .bool fl] 31 (0, 0)) ∧ Below w.heap.size w wr) (fun wr => 9 - wr.iterPos (w.heap.size + 1))
  case atStart =>
    have hi := World.iter_heap W1 ⟨#[58, 59, 44, 91, 93, 40, 41, 123, 125]⟩ 0
    rw [e9] at hi
    have hbi := Below.iter (Below.refl _ W1) (Nat.le_refl _) ⟨#[58, 59, 44, 91, 93, 40, 41, 123, 125]⟩ 0
    exact ⟨0, Nat.zero_le _, fun j hj => by omega, hi, (hbi.block _ hlt0).trans hnew, hB.trans (hbi.mono hB.size)⟩
  case round =>
    obtain ⟨p, hp9, hno, hit, hblk, hbw⟩ := hrel
    have hsz : (⟨#[58, 59, 44, 91, 93, 40, 41, 123, 125]⟩ : ByteArray).size = 9 := rfl
    by_cases hp : p < (⟨#[58, 59, 44, 91, 93, 40, 41, 123, 125]⟩ : ByteArray).size
    · have hnx : ∀ ty, (Instr.next (.pointer (some ⟨w.heap.size + 1, 0, none⟩)) true ty).run Tryz.prog wr = _ := fun ty => Lib.run_next_ascii_at wr (w.heap.size + 1) _ p ty hit hp (R2.ascS2 p hp)
      have hit3 := Lib.iterAt_heap wr (w.heap.size + 1) _ p (p + 1) hit
      have hbw3 := Lib.below_iterAt hbw (k := w.heap.size + 1) (by omega) ⟨#[58, 59, 44, 91, 93, 40, 41, 123, 125]⟩ (p + 1)
      have hblk3 := (Lib.iterAt_other wr (w.heap.size + 1) w.heap.size ⟨#[58, 59, 44, 91, 93, 40, 41, 123, 125]⟩ (p + 1) (by omega)).trans hblk
      obtain ⟨sg1, sg2⟩ := sign_of p hp
      have hc8 := R2.ascS2 p hp
      have hic : IsChar ((((⟨#[58, 59, 44, 91, 93, 40, 41, 123, 125]⟩ : ByteArray)[p]'hp).toNat : Nat) : Int) := ⟨by omega, by omega, by omega⟩
      have hcv1 := fun w' => conv_one w' ((((⟨#[58, 59, 44, 91, 93, 40, 41, 123, 125]⟩ : ByteArray)[p]'hp).toNat : Nat) : Int) hic
      have hsg := fun w' => R2.rsign_any ((((⟨#[58, 59, 44, 91, 93, 40, 41, 123, 125]⟩ : ByteArray)[p]'hp).toNat : Nat) : Int) w'
      rw [sg1] at hsg
      rw [sg2] at hcv1
      generalize (((⟨#[58, 59, 44, 91, 93, 40, 41, 123, 125]⟩ : ByteArray)[p]'hp).toNat) = c at *
      generalize wr.iterAt (w.heap.size + 1) ⟨#[58, 59, 44, 91, 93, 40, 41, 123, 125]⟩ (p + 1) = W3 at *
      obtain ⟨d0, d1, d2, d3, d4, df⟩ := cells5 hblk3
      have hal := hbw3.alloc hbw3.size (.cells #[.int .i32 (c : Int)] 21)
      by_cases hkk : k = 16 + (p : Int)
      · have zk : (16 + (p : Int) == k) = true := by rw [hkk]; simp
        have HS : Hid (lastS k = strOfNums [signL (16 + (p : Int))]) := by
          show _ = _
          unfold lastS
          rw [hkk, if_pos (by omega)]
        have hcv4 := hcv1 W3.drew
        generalize strOfNums [signL (16 + (p : Int))] = E at *
        clear hno hit hblk hbw hit3 hblk3 sg1 sg2 hcv1 hic hnew
        have hcv3 : (convert 27 9 (.slice (some ⟨W3.heap.size, 0, none⟩) 1 1)).run Tryz.prog (W3.alloc (.cells #[.int .i32 (c : Int)] 21)).drew = .ok (.string E) (W3.alloc (.cells #[.int .i32 (c : Int)] 21)).drew := hcv4
        have hal2 : Below w.heap.size w (W3.alloc (.cells #[.int .i32 (c : Int)] 21)).drew := hal.trans (below_drewN _ _ 1)
        go_wp2
        go_region_with (go_at_call 53; refine (hsg _).mono ?_; rintro e w' ⟨rfl, rfl⟩)
        all_goals
          go_wp2
          go_ret
          exact ⟨by rw [HS.out]; rfl, hal2⟩
      · have zk : (16 + (p : Int) == k) = false := by simp; omega
        clear hcv1 hic
        have HN : Hid (∀ j : Nat, j < p + 1 → k ≠ 16 + (j : Int)) := by
          intro j hj
          by_cases hjp : j = p
          · rw [hjp]; exact hkk
          · exact hno j (by omega)
        go_wp2
        go_region_with (go_at_call 53; refine (hsg _).mono ?_; rintro e w' ⟨rfl, rfl⟩)
        all_goals
          go_wp2
          go_roundw
          case rel => exact ⟨_, _, _, _, _, _, _, _, _, _, _, _, _, ⟨p + 1, by omega, HN.out, hit3, hblk3, hbw3.trans (below_drewN _ _ 1)⟩, rfl⟩
          case measure =>
            show 9 - World.iterPos W3 (w.heap.size + 1) < _
            simp only [World.iterPos, hit3, hit]
            omega
    · have hnx : ∀ ty, (Instr.next (.pointer (some ⟨w.heap.size + 1, 0, none⟩)) true ty).run Tryz.prog wr = _ := fun ty => Lib.run_next_end_at wr (w.heap.size + 1) _ p ty hit hp
      have HS : Hid (lastS k = ⟨#[]⟩) := by
        show _ = _
        unfold lastS
        rw [if_neg]
        rintro ⟨k1, k2⟩
        exact hno (k - 16).toNat (by omega) (by omega)
      go_wp2
      go_ret
      exact ⟨by rw [HS.out]; rfl, hbw⟩
end

end Go.Proofs.YtbfgnfcecfjlnaaGreatDoor
