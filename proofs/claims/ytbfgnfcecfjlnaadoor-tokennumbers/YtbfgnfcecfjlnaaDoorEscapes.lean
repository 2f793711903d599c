/- What token.Escape gives. -/
import Derived.Test.YtbfgnfcecfjlnaaDoorEscape
namespace Go.Proofs.YtbfgnfcecfjlnaaDoor
open Go.RowKit

theorem tab_alloc {w : World} (h : Tab w) (h3 : 3 < w.heap.size) (o : Obj) : Tab (w.alloc o) := tab_below h ((Below.refl _ w).alloc (Nat.le_refl _) o) h3

theorem name_dash (b : Nat) (ns : List Int) (w : World) (h : Wr b ns w) (hlen : ns.length ≤ 100000000000) :
    Calls Tryd.prog 21 #[.pointer (some ⟨b, 0, none⟩), .string ⟨#[45]⟩] w fun e w' => e = .returned (.tuple #[]) ∧ Wr b (ns ++ slashL 45) w' ∧ Below b w w' ∧ Lib.OthersKept 5 (some b) w w' := by
  have hs := slashed_k b ns 45 ⟨by omega, by omega, by omega⟩ w h hlen
  go_enter Tryd.func21, Tryd.ntmps21
  go_wp2_with (go_at_call 43; fail)
  refine (hs).mono ?_
  rintro e w1 ⟨rfl, h1, b1, k1⟩
  go_wp2
  refine bodyPost_ret (results_none rfl _ _ _) rfl ?_
  exact ⟨rfl, h1, b1, k1⟩
theorem name_all (b : Nat) (ns : List Int) (s : ByteArray) (hs : s.size ≤ 1000000000) (w : World) (h : Wr b ns w) (ht : Tab w) (h3 : 3 < b) (hlen : ns.length ≤ 10000000000) :
    Calls Tryd.prog 21 #[.pointer (some ⟨b, 0, none⟩), .string s] w fun e w' => e = .returned (.tuple #[]) ∧ Wr b (ns ++ escL s) w' ∧ Below b w w' ∧ Lib.OthersKept 5 (some b) w w' := by
  by_cases h45 : s = ⟨#[45]⟩
  · subst h45
    exact name_dash b ns w h (by omega)
  · have e : escL s = escFrom s s.size 0 := by unfold escL; rw [if_neg h45]
    rw [e]
    exact name_k b ns s hs h45 w h ht h3 hlen

set_option maxHeartbeats 1000000 in
theorem escape_str (s : ByteArray) (hs : s.size ≤ 1000000000) (w : World) (ht : Tab w) (h3 : 3 < w.heap.size) :
    Calls Tryd.prog 11 #[.string s] w fun e w' => e = .returned (.string (strOfNums (escL s))) ∧ Below w.heap.size w w' := by
  have hw := wr_new w
  have htA := tab_alloc ht h3 (.cells #[.pointer none, .slice none 0 0] 44)
  have hB : Below w.heap.size w (w.alloc (.cells #[.pointer none, .slice none 0 0] 44)) := (Below.refl _ w).alloc (Nat.le_refl _) _
  have hn := name_all w.heap.size [] s hs _ hw htA h3 (by simp)
  rw [List.nil_append] at hn
  clear ht htA hw
  go_enter Tryd.func11, Tryd.ntmps11
  go_wp2_with (go_at_call 21; fail)
  refine (hn).mono ?_
  rintro e w1 ⟨rfl, h1, b1, k1⟩
  go_wp2_with (go_at_call 20; fail)
  refine (wr_string w.heap.size (escL s) w1 h1).mono ?_
  rintro e w2 ⟨rfl, b2⟩
  go_wp2
  go_ret
  exact ⟨rfl, hB.trans (b1.trans b2)⟩
end Go.Proofs.YtbfgnfcecfjlnaaDoor
