/- What TokenWrites asks, whatever the text and the token. -/
import Derived.Test.YtbfgnfcecfjlnaaGreatDoorWritesYes
import Derived.Test.YtbfgnfcecfjlnaaGreatDoorWritesNo
namespace Go.Proofs.YtbfgnfcecfjlnaaGreatDoor
open Go.RowKit

set_option maxHeartbeats 1000000 in
set_option maxRecDepth 100000 in
theorem writes_walk (w : World) (s tx un : ByteArray) (k : Int) (wh fl : Bool) (ss : s.size ≤ 140737488351232) (st : tx.size ≤ 140737488351232) (su : un.size ≤ 140737488351232) (ht : Tab w) :
    Calls Tryz.prog 4 #[.string s, .agg #[.int .i64 k, .string tx, .string un, .bool wh, .bool fl]] w fun e w' => e = .returned (.bool true) ∧ Below w.heap.size w w' := by
  have h3 : 3 < w.heap.size := World.block_lt_of_cell? w _ ht
  have hB1 : Below w.heap.size w (w.alloc (.cells #[.int .i64 k, .string tx, .string un, .bool wh, .bool fl] 31)) := (Below.refl _ w).alloc (Nat.le_refl _) _
  by_cases hbig : 5000 < s.size + tx.size + un.size
  · have hb2 : (5000 : Int) < (s.size : Int) + (tx.size : Int) + (un.size : Int) := by omega
    have hli := lives_any (w.alloc (.cells #[.int .i64 k, .string tx, .string un, .bool wh, .bool fl] 31)) (tab_below ht hB1 h3) (by simp; omega)
    clear hbig
    go_enter Tryz.func4, Tryz.ntmps4
    go_wp2_with (go_at_call 5; fail)
    refine (hli).mono ?_
    rintro e w1 ⟨rfl, b1⟩
    go_wp2
    go_ret
    exact ⟨rfl, hB1.trans (b1.mono hB1.size)⟩
  · have hb2 : ¬ (5000 : Int) < (s.size : Int) + (tx.size : Int) + (un.size : Int) := by omega
    obtain ⟨n, ok, hi1, hi2⟩ := int_pair k tx un wh fl (by omega)
    obtain ⟨src, hs1, hs2⟩ := source_pair k tx un wh fl (by omega) (by omega)
    have HB : ∀ w', Stay k tx un wh fl w w' → Tab w' ∧ 3 < w'.heap.size := fun w' g => ⟨tab_below ht g.1 h3, by have := g.1.size; omega⟩
    cases ok
    · exact writes_false w s tx un k n wh fl _ _ src hb2 (fun w' g => (hi1 w').mono fun e w'' ⟨x, y⟩ => ⟨x, stay_on g y⟩) (fun w' g => (hi2 w').mono fun e w'' ⟨x, y⟩ => ⟨x, stay_on g y⟩)
        (fun w' g => (escape_str s (by omega) w' (HB _ g).1 (HB _ g).2).mono fun e w'' ⟨x, y⟩ => ⟨x, stay_on g y⟩) (fun w' g => (rescape_any s (by omega) w').mono fun e w'' ⟨x, y⟩ => ⟨x, stay_on g y⟩)
        (fun w' g => (quote_str s (by omega) w' (HB _ g).1 (HB _ g).2).mono fun e w'' ⟨x, y⟩ => ⟨x, stay_on g y⟩) (fun w' g => (rquote_any s (by omega) w').mono fun e w'' ⟨x, y⟩ => ⟨x, stay_on g y⟩)
        (fun w' g => (hs1 w' (HB _ g).1 (HB _ g).2).mono fun e w'' ⟨x, y⟩ => ⟨x, stay_on g y⟩) (fun w' g => (hs2 w').mono fun e w'' ⟨x, y⟩ => ⟨x, stay_on g y⟩)
        (fun w' g => (lives_any w' (HB _ g).1 (HB _ g).2).mono fun e w'' ⟨x, y⟩ => ⟨x, stay_on g y⟩)
    · exact writes_true w s tx un k n wh fl _ _ src hb2 (fun w' g => (hi1 w').mono fun e w'' ⟨x, y⟩ => ⟨x, stay_on g y⟩) (fun w' g => (hi2 w').mono fun e w'' ⟨x, y⟩ => ⟨x, stay_on g y⟩)
        (fun w' g => (escape_str s (by omega) w' (HB _ g).1 (HB _ g).2).mono fun e w'' ⟨x, y⟩ => ⟨x, stay_on g y⟩) (fun w' g => (rescape_any s (by omega) w').mono fun e w'' ⟨x, y⟩ => ⟨x, stay_on g y⟩)
        (fun w' g => (quote_str s (by omega) w' (HB _ g).1 (HB _ g).2).mono fun e w'' ⟨x, y⟩ => ⟨x, stay_on g y⟩) (fun w' g => (rquote_any s (by omega) w').mono fun e w'' ⟨x, y⟩ => ⟨x, stay_on g y⟩)
        (fun w' g => (hs1 w' (HB _ g).1 (HB _ g).2).mono fun e w'' ⟨x, y⟩ => ⟨x, stay_on g y⟩) (fun w' g => (hs2 w').mono fun e w'' ⟨x, y⟩ => ⟨x, stay_on g y⟩)
        (fun w' g => (lives_any w' (HB _ g).1 (HB _ g).2).mono fun e w'' ⟨x, y⟩ => ⟨x, stay_on g y⟩)

end Go.Proofs.YtbfgnfcecfjlnaaGreatDoor
