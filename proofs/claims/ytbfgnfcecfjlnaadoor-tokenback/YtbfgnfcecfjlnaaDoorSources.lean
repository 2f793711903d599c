/- What the writer writes of a Hash, and Source of the kinds that are written at once. -/
import Derived.Test.YtbfgnfcecfjlnaaDoorUnitsInts
namespace Go.Proofs.YtbfgnfcecfjlnaaDoor
open Go.RowKit

set_option maxHeartbeats 1000000 in
set_option maxRecDepth 100000 in
theorem hash_k (b : Nat) (k : Int) (tx un : ByteArray) (wh fl : Bool) (hs : tx.size ≤ 1000000000) (w : World) (h : Wr b [] w) (ht : Tab w) (h3 : 3 < b) :
    Calls Tryd.prog 23 #[.pointer (some ⟨b, 0, none⟩), .agg #[.int .i64 k, .string tx, .string un, .bool wh, .bool fl]] w fun e w' => e = .returned (.tuple #[]) ∧ Wr b ([35] ++ (if fl then escL tx else partsL tx)) w' ∧ Below b w w' := by
  have hlt := wr_lt h
  have hal : Below w.heap.size w (w.alloc (.cells #[.int .i64 k, .string tx, .string un, .bool wh, .bool fl] 28)) := (Below.refl _ w).alloc (Nat.le_refl _) _
  have h1 := wr_below h hal (by omega)
  have hby := wr_byte_k b [] 35 (by omega) _ h1 (by simp)
  rw [List.nil_append] at hby
  have hbx := heap_alloc_new w (.cells #[.int .i64 k, .string tx, .string un, .bool wh, .bool fl] 28)
  have ht1 : Tab (w.alloc (.cells #[.int .i64 k, .string tx, .string un, .bool wh, .bool fl] 28)) := tab_below ht hal (by omega)
  have hne : w.heap.size ≠ b := by omega
  clear h h1
  go_enter Tryd.func23, Tryd.ntmps23
  go_wp2_with (go_at_call 22; fail)
  refine (hby).mono ?_
  rintro e w1 ⟨rfl, h2, b2, k2⟩
  have hb1 := k2 w.heap.size _ hbx (fun e => hne (Option.some.inj e)) (fun _ _ e => by simp at e)
  obtain ⟨c0, c1, c2, c3, c4, cf⟩ := cells5 hb1
  have ht2 := tab_below ht1 b2 h3
  have hB : Below b w w1 := (hal.mono (by omega)).trans b2
  clear cf hbx hby k2
  cases fl
  · have hp := parts_k b [35] tx hs w1 h2 ht2 h3 (by simp)
    go_wp2_with (go_at_call 48; fail)
    refine (hp).mono ?_
    rintro e w3 ⟨rfl, h4, b4, k4⟩
    go_wp2
    go_end0
    exact ⟨rfl, h4, hB.trans b4⟩
  · have hp := name_all b [35] tx hs w1 h2 ht2 h3 (by simp)
    go_wp2_with (go_at_call 21; fail)
    refine (hp).mono ?_
    rintro e w3 ⟨rfl, h4, b4, k4⟩
    go_wp2
    go_end0
    exact ⟨rfl, h4, hB.trans b4⟩

theorem escFrom_len' (s : ByteArray) : ∀ (f pos : Nat), (escFrom s f pos).length ≤ 5 * f
  | 0, _ => by simp [escFrom]
  | f + 1, pos => by
    rw [escFrom]
    split
    · have h1 := escFrom_len' s f (pos + (Utf8.decode s pos).2)
      have h2 : (escAt s pos (Utf8.decode s pos).1).length ≤ 5 := by
        unfold escAt
        split
        · have := numL_len ((Utf8.decode s pos).1 : Int); omega
        · exact partL_len _
      rw [List.length_append]
      omega
    · simp
theorem escL_len' (s : ByteArray) : (escL s).length ≤ 5 * s.size + 5 := by
  unfold escL
  split
  · have : (slashL 45).length = 2 := by decide +kernel
    omega
  · have := escFrom_len' s s.size 0
    omega
section
variable (tx un : ByteArray) (wh fl : Bool) (w : World)

set_option maxHeartbeats 1000000 in
set_option maxRecDepth 100000 in
theorem source_ident (hs : tx.size ≤ 1000000000) (ht : Tab w) (h3 : 3 < w.heap.size) :
    Calls Tryd.prog 13 #[.agg #[.int .i64 1, .string tx, .string un, .bool wh, .bool fl]] w fun e w' => e = .returned (.string (strOfNums (escL tx))) ∧ Below w.heap.size w w' := by
  have hB1 : Below w.heap.size w ((w.alloc (.cells #[.int .i64 1, .string tx, .string un, .bool wh, .bool fl] 28)).alloc (.cells #[.pointer none, .slice none 0 0] 44)) := ((Below.refl _ w).alloc (Nat.le_refl _) _).alloc (by simp) _
  have hw := wr_new (w.alloc (.cells #[.int .i64 1, .string tx, .string un, .bool wh, .bool fl] 28))
  have e9 : (w.alloc (.cells #[.int .i64 1, .string tx, .string un, .bool wh, .bool fl] 28)).heap.size = w.heap.size + 1 := by simp
  rw [e9] at hw
  have ht0 : Tab ((w.alloc (.cells #[.int .i64 1, .string tx, .string un, .bool wh, .bool fl] 28)).alloc (.cells #[.pointer none, .slice none 0 0] 44)) := tab_below ht hB1 h3
  have hn := name_all (w.heap.size + 1) [] tx hs _ hw ht0 (by omega) (by simp)
  rw [List.nil_append] at hn
  clear e9 hw
  go_enter Tryd.func13, Tryd.ntmps13
  go_wp2_with (go_at_call 21; fail)
  refine (hn).mono ?_
  rintro e w1 ⟨rfl, h2, b2, k2⟩
  go_wp2_with (go_at_call 20; fail)
  refine (wr_string (w.heap.size + 1) (escL tx) w1 h2).mono ?_
  rintro e w9 ⟨rfl, b9⟩
  go_wp2
  go_ret
  exact ⟨rfl, hB1.trans ((b2.trans b9).mono (by omega))⟩

set_option maxHeartbeats 1000000 in
set_option maxRecDepth 100000 in
theorem source_func (hs : tx.size ≤ 1000000000) (ht : Tab w) (h3 : 3 < w.heap.size) :
    Calls Tryd.prog 13 #[.agg #[.int .i64 2, .string tx, .string un, .bool wh, .bool fl]] w fun e w' => e = .returned (.string (strOfNums (escL tx ++ [40]))) ∧ Below w.heap.size w w' := by
  have hB1 : Below w.heap.size w ((w.alloc (.cells #[.int .i64 2, .string tx, .string un, .bool wh, .bool fl] 28)).alloc (.cells #[.pointer none, .slice none 0 0] 44)) := ((Below.refl _ w).alloc (Nat.le_refl _) _).alloc (by simp) _
  have hw := wr_new (w.alloc (.cells #[.int .i64 2, .string tx, .string un, .bool wh, .bool fl] 28))
  have e9 : (w.alloc (.cells #[.int .i64 2, .string tx, .string un, .bool wh, .bool fl] 28)).heap.size = w.heap.size + 1 := by simp
  rw [e9] at hw
  have ht0 : Tab ((w.alloc (.cells #[.int .i64 2, .string tx, .string un, .bool wh, .bool fl] 28)).alloc (.cells #[.pointer none, .slice none 0 0] 44)) := tab_below ht hB1 h3
  have hn := name_all (w.heap.size + 1) [] tx hs _ hw ht0 (by omega) (by simp)
  rw [List.nil_append] at hn
  have hel : (escL tx).length ≤ 10000000000 := by have := escL_len' tx; omega
  clear e9 hw
  go_enter Tryd.func13, Tryd.ntmps13
  go_wp2_with (go_at_call 21; fail)
  refine (hn).mono ?_
  rintro e w1 ⟨rfl, h1, b1, k1⟩
  go_wp2_with (go_at_call 22; fail)
  refine (wr_byte_k (w.heap.size + 1) (escL tx) 40 (by omega) w1 h1 (by omega)).mono ?_
  rintro e w2 ⟨rfl, h2, b2, k2⟩
  go_wp2_with (go_at_call 20; fail)
  refine (wr_string (w.heap.size + 1) (escL tx ++ [40]) w2 h2).mono ?_
  rintro e w9 ⟨rfl, b9⟩
  go_wp2
  go_ret
  exact ⟨rfl, hB1.trans (((b1.trans b2).trans b9).mono (by omega))⟩

set_option maxHeartbeats 1000000 in
set_option maxRecDepth 100000 in
theorem source_at (hs : tx.size ≤ 1000000000) (ht : Tab w) (h3 : 3 < w.heap.size) :
    Calls Tryd.prog 13 #[.agg #[.int .i64 3, .string tx, .string un, .bool wh, .bool fl]] w fun e w' => e = .returned (.string (strOfNums ([64] ++ escL tx))) ∧ Below w.heap.size w w' := by
  have hB1 : Below w.heap.size w ((w.alloc (.cells #[.int .i64 3, .string tx, .string un, .bool wh, .bool fl] 28)).alloc (.cells #[.pointer none, .slice none 0 0] 44)) := ((Below.refl _ w).alloc (Nat.le_refl _) _).alloc (by simp) _
  have hw := wr_new (w.alloc (.cells #[.int .i64 3, .string tx, .string un, .bool wh, .bool fl] 28))
  have e9 : (w.alloc (.cells #[.int .i64 3, .string tx, .string un, .bool wh, .bool fl] 28)).heap.size = w.heap.size + 1 := by simp
  rw [e9] at hw
  have ht0 : Tab ((w.alloc (.cells #[.int .i64 3, .string tx, .string un, .bool wh, .bool fl] 28)).alloc (.cells #[.pointer none, .slice none 0 0] 44)) := tab_below ht hB1 h3
  have hy := wr_byte_k (w.heap.size + 1) [] 64 (by omega) _ hw (by simp)
  rw [List.nil_append] at hy
  have hbx := heap_alloc_new w (.cells #[.int .i64 3, .string tx, .string un, .bool wh, .bool fl] 28)
  have hbx2 := (Below.heap_alloc (w.alloc (.cells #[.int .i64 3, .string tx, .string un, .bool wh, .bool fl] 28)) (.cells #[.pointer none, .slice none 0 0] 44) w.heap.size (by simp)).trans hbx
  clear e9 hw hbx
  go_enter Tryd.func13, Tryd.ntmps13
  go_wp2_with (go_at_call 22; fail)
  refine (hy).mono ?_
  rintro e w1 ⟨rfl, h1, b1, k1⟩
  obtain ⟨c0, c1, c2, c3, c4, cf⟩ := cells5 ((b1.block w.heap.size (by omega)).trans hbx2)
  have hn := name_all (w.heap.size + 1) [64] tx hs w1 h1 (tab_below ht0 b1 (by omega)) (by omega) (by simp)
  clear cf hbx2
  go_wp2_with (go_at_call 21; fail)
  refine (hn).mono ?_
  rintro e w2 ⟨rfl, h2, b2, k2⟩
  go_wp2_with (go_at_call 20; fail)
  refine (wr_string (w.heap.size + 1) ([64] ++ escL tx) w2 h2).mono ?_
  rintro e w9 ⟨rfl, b9⟩
  go_wp2
  go_ret
  exact ⟨rfl, hB1.trans (((b1.trans b2).trans b9).mono (by omega))⟩

set_option maxHeartbeats 1000000 in
set_option maxRecDepth 100000 in
theorem source_hash (hs : tx.size ≤ 1000000000) (ht : Tab w) (h3 : 3 < w.heap.size) :
    Calls Tryd.prog 13 #[.agg #[.int .i64 4, .string tx, .string un, .bool wh, .bool fl]] w fun e w' => e = .returned (.string (strOfNums ([35] ++ (if fl then escL tx else partsL tx)))) ∧ Below w.heap.size w w' := by
  have hB1 : Below w.heap.size w ((w.alloc (.cells #[.int .i64 4, .string tx, .string un, .bool wh, .bool fl] 28)).alloc (.cells #[.pointer none, .slice none 0 0] 44)) := ((Below.refl _ w).alloc (Nat.le_refl _) _).alloc (by simp) _
  have hw := wr_new (w.alloc (.cells #[.int .i64 4, .string tx, .string un, .bool wh, .bool fl] 28))
  have e9 : (w.alloc (.cells #[.int .i64 4, .string tx, .string un, .bool wh, .bool fl] 28)).heap.size = w.heap.size + 1 := by simp
  rw [e9] at hw
  have ht0 : Tab ((w.alloc (.cells #[.int .i64 4, .string tx, .string un, .bool wh, .bool fl] 28)).alloc (.cells #[.pointer none, .slice none 0 0] 44)) := tab_below ht hB1 h3
  have hh := hash_k (w.heap.size + 1) 4 tx un wh fl hs _ hw ht0 (by omega)
  generalize ([35] ++ (if fl then escL tx else partsL tx)) = hx at hh ⊢
  clear e9 hw
  go_enter Tryd.func13, Tryd.ntmps13
  go_wp2_with (go_at_call 23; fail)
  refine (hh).mono ?_
  rintro e w1 ⟨rfl, h2, b2⟩
  go_wp2_with (go_at_call 20; fail)
  refine (wr_string (w.heap.size + 1) (hx) w1 h2).mono ?_
  rintro e w9 ⟨rfl, b9⟩
  go_wp2
  go_ret
  exact ⟨rfl, hB1.trans ((b2.trans b9).mono (by omega))⟩

set_option maxHeartbeats 1000000 in
set_option maxRecDepth 100000 in
theorem source_string (hs : tx.size ≤ 1000000000) (ht : Tab w) (h3 : 3 < w.heap.size) :
    Calls Tryd.prog 13 #[.agg #[.int .i64 5, .string tx, .string un, .bool wh, .bool fl]] w fun e w' => e = .returned (.string (strOfNums (quoL tx))) ∧ Below w.heap.size w w' := by
  have hB1 : Below w.heap.size w ((w.alloc (.cells #[.int .i64 5, .string tx, .string un, .bool wh, .bool fl] 28)).alloc (.cells #[.pointer none, .slice none 0 0] 44)) := ((Below.refl _ w).alloc (Nat.le_refl _) _).alloc (by simp) _
  have hw := wr_new (w.alloc (.cells #[.int .i64 5, .string tx, .string un, .bool wh, .bool fl] 28))
  have e9 : (w.alloc (.cells #[.int .i64 5, .string tx, .string un, .bool wh, .bool fl] 28)).heap.size = w.heap.size + 1 := by simp
  rw [e9] at hw
  have ht0 : Tab ((w.alloc (.cells #[.int .i64 5, .string tx, .string un, .bool wh, .bool fl] 28)).alloc (.cells #[.pointer none, .slice none 0 0] 44)) := tab_below ht hB1 h3
  have hn := quoted_k (w.heap.size + 1) [] tx hs _ hw ht0 (by omega) (by simp)
  rw [List.nil_append] at hn
  clear e9 hw
  go_enter Tryd.func13, Tryd.ntmps13
  go_wp2_with (go_at_call 19; fail)
  refine (hn).mono ?_
  rintro e w1 ⟨rfl, h2, b2, k2⟩
  go_wp2_with (go_at_call 20; fail)
  refine (wr_string (w.heap.size + 1) (quoL tx) w1 h2).mono ?_
  rintro e w9 ⟨rfl, b9⟩
  go_wp2
  go_ret
  exact ⟨rfl, hB1.trans ((b2.trans b9).mono (by omega))⟩

set_option maxHeartbeats 1000000 in
set_option maxRecDepth 100000 in
theorem source_space (_hs : tx.size ≤ 1000000000) (ht : Tab w) (h3 : 3 < w.heap.size) :
    Calls Tryd.prog 13 #[.agg #[.int .i64 13, .string tx, .string un, .bool wh, .bool fl]] w fun e w' => e = .returned (.string (strOfNums ([32]))) ∧ Below w.heap.size w w' := by
  have hB1 : Below w.heap.size w ((w.alloc (.cells #[.int .i64 13, .string tx, .string un, .bool wh, .bool fl] 28)).alloc (.cells #[.pointer none, .slice none 0 0] 44)) := ((Below.refl _ w).alloc (Nat.le_refl _) _).alloc (by simp) _
  have hw := wr_new (w.alloc (.cells #[.int .i64 13, .string tx, .string un, .bool wh, .bool fl] 28))
  have e9 : (w.alloc (.cells #[.int .i64 13, .string tx, .string un, .bool wh, .bool fl] 28)).heap.size = w.heap.size + 1 := by simp
  rw [e9] at hw
  have ht0 : Tab ((w.alloc (.cells #[.int .i64 13, .string tx, .string un, .bool wh, .bool fl] 28)).alloc (.cells #[.pointer none, .slice none 0 0] 44)) := tab_below ht hB1 h3
  have hy := wr_byte_k (w.heap.size + 1) [] 32 (by omega) _ hw (by simp)
  rw [List.nil_append] at hy
  clear e9 hw ht0
  go_enter Tryd.func13, Tryd.ntmps13
  go_wp2_with (go_at_call 22; fail)
  refine (hy).mono ?_
  rintro e w1 ⟨rfl, h2, b2, k2⟩
  go_wp2_with (go_at_call 20; fail)
  refine (wr_string (w.heap.size + 1) ([32]) w1 h2).mono ?_
  rintro e w9 ⟨rfl, b9⟩
  go_wp2
  go_ret
  exact ⟨rfl, hB1.trans ((b2.trans b9).mono (by omega))⟩

set_option maxHeartbeats 1000000 in
set_option maxRecDepth 100000 in
theorem source_cdo (_hs : tx.size ≤ 1000000000) (ht : Tab w) (h3 : 3 < w.heap.size) :
    Calls Tryd.prog 13 #[.agg #[.int .i64 14, .string tx, .string un, .bool wh, .bool fl]] w fun e w' => e = .returned (.string (strOfNums ([60, 33, 45, 45]))) ∧ Below w.heap.size w w' := by
  have hB1 : Below w.heap.size w ((w.alloc (.cells #[.int .i64 14, .string tx, .string un, .bool wh, .bool fl] 28)).alloc (.cells #[.pointer none, .slice none 0 0] 44)) := ((Below.refl _ w).alloc (Nat.le_refl _) _).alloc (by simp) _
  have hw := wr_new (w.alloc (.cells #[.int .i64 14, .string tx, .string un, .bool wh, .bool fl] 28))
  have e9 : (w.alloc (.cells #[.int .i64 14, .string tx, .string un, .bool wh, .bool fl] 28)).heap.size = w.heap.size + 1 := by simp
  rw [e9] at hw
  have ht0 : Tab ((w.alloc (.cells #[.int .i64 14, .string tx, .string un, .bool wh, .bool fl] 28)).alloc (.cells #[.pointer none, .slice none 0 0] 44)) := tab_below ht hB1 h3
  have hy := wr_str_k (w.heap.size + 1) [] [60, 33, 45, 45] (by decide) (by simp) _ hw (by simp)
  rw [List.nil_append] at hy
  have es : strOfNums [60, 33, 45, 45] = ⟨#[60, 33, 45, 45]⟩ := rfl
  rw [es] at hy
  clear e9 hw ht0 es
  go_enter Tryd.func13, Tryd.ntmps13
  go_wp2_with (go_at_call 24; fail)
  refine (hy).mono ?_
  rintro e w1 ⟨⟨rn, rfl⟩, h2, b2, k2⟩
  go_wp2_with (go_at_call 20; fail)
  refine (wr_string (w.heap.size + 1) ([60, 33, 45, 45]) w1 h2).mono ?_
  rintro e w9 ⟨rfl, b9⟩
  go_wp2
  go_ret
  exact ⟨rfl, hB1.trans ((b2.trans b9).mono (by omega))⟩

set_option maxHeartbeats 1000000 in
set_option maxRecDepth 100000 in
theorem source_cdc (_hs : tx.size ≤ 1000000000) (ht : Tab w) (h3 : 3 < w.heap.size) :
    Calls Tryd.prog 13 #[.agg #[.int .i64 15, .string tx, .string un, .bool wh, .bool fl]] w fun e w' => e = .returned (.string (strOfNums ([45, 45, 62]))) ∧ Below w.heap.size w w' := by
  have hB1 : Below w.heap.size w ((w.alloc (.cells #[.int .i64 15, .string tx, .string un, .bool wh, .bool fl] 28)).alloc (.cells #[.pointer none, .slice none 0 0] 44)) := ((Below.refl _ w).alloc (Nat.le_refl _) _).alloc (by simp) _
  have hw := wr_new (w.alloc (.cells #[.int .i64 15, .string tx, .string un, .bool wh, .bool fl] 28))
  have e9 : (w.alloc (.cells #[.int .i64 15, .string tx, .string un, .bool wh, .bool fl] 28)).heap.size = w.heap.size + 1 := by simp
  rw [e9] at hw
  have ht0 : Tab ((w.alloc (.cells #[.int .i64 15, .string tx, .string un, .bool wh, .bool fl] 28)).alloc (.cells #[.pointer none, .slice none 0 0] 44)) := tab_below ht hB1 h3
  have hy := wr_str_k (w.heap.size + 1) [] [45, 45, 62] (by decide) (by simp) _ hw (by simp)
  rw [List.nil_append] at hy
  have es : strOfNums [45, 45, 62] = ⟨#[45, 45, 62]⟩ := rfl
  rw [es] at hy
  clear e9 hw ht0 es
  go_enter Tryd.func13, Tryd.ntmps13
  go_wp2_with (go_at_call 24; fail)
  refine (hy).mono ?_
  rintro e w1 ⟨⟨rn, rfl⟩, h2, b2, k2⟩
  go_wp2_with (go_at_call 20; fail)
  refine (wr_string (w.heap.size + 1) ([45, 45, 62]) w1 h2).mono ?_
  rintro e w9 ⟨rfl, b9⟩
  go_wp2
  go_ret
  exact ⟨rfl, hB1.trans ((b2.trans b9).mono (by omega))⟩

set_option maxHeartbeats 1000000 in
set_option maxRecDepth 100000 in
theorem source_num (ds : List Int) (hds : ∀ n ∈ ds, 0 ≤ n ∧ n < 256) (hd0 : ds ≠ []) (hdl : ds.length ≤ 1000000000) (ht : Tab w) (h3 : 3 < w.heap.size) :
    Calls Tryd.prog 13 #[.agg #[.int .i64 10, .string (strOfNums ds), .string un, .bool wh, .bool fl]] w fun e w' => e = .returned (.string (strOfNums (ds))) ∧ Below w.heap.size w w' := by
  have hB1 : Below w.heap.size w ((w.alloc (.cells #[.int .i64 10, .string (strOfNums ds), .string un, .bool wh, .bool fl] 28)).alloc (.cells #[.pointer none, .slice none 0 0] 44)) := ((Below.refl _ w).alloc (Nat.le_refl _) _).alloc (by simp) _
  have hw := wr_new (w.alloc (.cells #[.int .i64 10, .string (strOfNums ds), .string un, .bool wh, .bool fl] 28))
  have e9 : (w.alloc (.cells #[.int .i64 10, .string (strOfNums ds), .string un, .bool wh, .bool fl] 28)).heap.size = w.heap.size + 1 := by simp
  rw [e9] at hw
  have ht0 : Tab ((w.alloc (.cells #[.int .i64 10, .string (strOfNums ds), .string un, .bool wh, .bool fl] 28)).alloc (.cells #[.pointer none, .slice none 0 0] 44)) := tab_below ht hB1 h3
  have hy := wr_str_k (w.heap.size + 1) [] ds hds hd0 _ hw (by simp; omega)
  rw [List.nil_append] at hy
  clear e9 hw ht0
  go_enter Tryd.func13, Tryd.ntmps13
  go_wp2_with (go_at_call 24; fail)
  refine (hy).mono ?_
  rintro e w1 ⟨⟨rn, rfl⟩, h2, b2, k2⟩
  go_wp2_with (go_at_call 20; fail)
  refine (wr_string (w.heap.size + 1) (ds) w1 h2).mono ?_
  rintro e w9 ⟨rfl, b9⟩
  go_wp2
  go_ret
  exact ⟨rfl, hB1.trans ((b2.trans b9).mono (by omega))⟩

set_option maxHeartbeats 1000000 in
set_option maxRecDepth 100000 in
theorem source_pc (ds : List Int) (hds : ∀ n ∈ ds, 0 ≤ n ∧ n < 256) (hd0 : ds ≠ []) (hdl : ds.length ≤ 1000000000) (ht : Tab w) (h3 : 3 < w.heap.size) :
    Calls Tryd.prog 13 #[.agg #[.int .i64 11, .string (strOfNums ds), .string un, .bool wh, .bool fl]] w fun e w' => e = .returned (.string (strOfNums (ds ++ [37]))) ∧ Below w.heap.size w w' := by
  have hB1 : Below w.heap.size w ((w.alloc (.cells #[.int .i64 11, .string (strOfNums ds), .string un, .bool wh, .bool fl] 28)).alloc (.cells #[.pointer none, .slice none 0 0] 44)) := ((Below.refl _ w).alloc (Nat.le_refl _) _).alloc (by simp) _
  have hw := wr_new (w.alloc (.cells #[.int .i64 11, .string (strOfNums ds), .string un, .bool wh, .bool fl] 28))
  have e9 : (w.alloc (.cells #[.int .i64 11, .string (strOfNums ds), .string un, .bool wh, .bool fl] 28)).heap.size = w.heap.size + 1 := by simp
  rw [e9] at hw
  have ht0 : Tab ((w.alloc (.cells #[.int .i64 11, .string (strOfNums ds), .string un, .bool wh, .bool fl] 28)).alloc (.cells #[.pointer none, .slice none 0 0] 44)) := tab_below ht hB1 h3
  have hy := wr_str_k (w.heap.size + 1) [] ds hds hd0 _ hw (by simp; omega)
  rw [List.nil_append] at hy
  clear e9 hw ht0
  go_enter Tryd.func13, Tryd.ntmps13
  go_wp2_with (go_at_call 24; fail)
  refine (hy).mono ?_
  rintro e w1 ⟨⟨rn, rfl⟩, h1, b1, k1⟩
  go_wp2_with (go_at_call 22; fail)
  refine (wr_byte_k (w.heap.size + 1) ds 37 (by omega) w1 h1 (by omega)).mono ?_
  rintro e w2 ⟨rfl, h2, b2, k2⟩
  go_wp2_with (go_at_call 20; fail)
  refine (wr_string (w.heap.size + 1) (ds ++ [37]) w2 h2).mono ?_
  rintro e w9 ⟨rfl, b9⟩
  go_wp2
  go_ret
  exact ⟨rfl, hB1.trans (((b1.trans b2).trans b9).mono (by omega))⟩
end
end Go.Proofs.YtbfgnfcecfjlnaaDoor
