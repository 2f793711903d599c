/- trie's top, Len, Nodes, find, Get, New, Fresh. -/
import Derived.Test.YtdiljkmlneeboaaGreatDropN
import Derived.Test.YtdiljkmlneeboaaGreatMath2
namespace Go.Proofs.YtdiljkmlneeboaaGreat.N
open Go.RowKit
set_option maxRecDepth 100000

set_option maxHeartbeats 400000 in
theorem top_any {w : World} {tp : Value} {t : T} (h : TrAt (151, 76) 153 w tp t) : Calls Tryz.prog 118 #[tp] w fun e w' => e = .returned t.bp ∧ w' = w := by
  rcases h.lies with ⟨rfl, rfl⟩ | ⟨b, rfl, hb⟩
  · clear h
    go_enter Tryz.func118, Tryz.ntmps118
    go_wp2
    go_ret
    exact ⟨rfl, rfl⟩
  · have c0 : w.cell? ⟨b, 0, none⟩ = some t.bp := by rw [cell_of_row _ _ _ _ _ _ hb]; rfl
    clear h hb
    generalize t.bp = P at *
    go_enter Tryz.func118, Tryz.ntmps118
    go_wp2
    go_ret
    exact ⟨rfl, rfl⟩
set_option maxHeartbeats 400000 in
theorem len_any {w : World} {tp : Value} {t : T} (h : TrAt (151, 76) 153 w tp t) : Calls Tryz.prog 117 #[tp] w fun e w' => e = .returned (.int .i64 (szT t)) ∧ w' = w := by
  rcases h.lies with ⟨rfl, rfl⟩ | ⟨b, rfl, hb⟩
  · clear h
    go_enter Tryz.func117, Tryz.ntmps117
    go_wp2
    go_ret
    exact ⟨rfl, rfl⟩
  · have c0 : w.cell? ⟨b, 1, none⟩ = some (.int .i64 (szT t)) := by rw [cell_of_row _ _ _ _ _ _ hb]; rfl
    clear h hb
    go_enter Tryz.func117, Tryz.ntmps117
    go_wp2
    go_ret
    exact ⟨rfl, rfl⟩
set_option maxHeartbeats 400000 in
theorem nodes_any {w : World} {tp : Value} {t : T} (h : TrAt (151, 76) 153 w tp t) : Calls Tryz.prog 120 #[tp] w fun e w' => e = .returned (.int .i64 (cntT t)) ∧ w' = w := by
  rcases h.lies with ⟨rfl, rfl⟩ | ⟨b, rfl, hb⟩
  · clear h
    go_enter Tryz.func120, Tryz.ntmps120
    go_wp2
    go_ret
    exact ⟨rfl, rfl⟩
  · have c0 : w.cell? ⟨b, 2, none⟩ = some (.int .i64 (cntT t)) := by rw [cell_of_row _ _ _ _ _ _ hb]; rfl
    clear h hb
    go_enter Tryz.func120, Tryz.ntmps120
    go_wp2
    go_ret
    exact ⟨rfl, rfl⟩
set_option maxHeartbeats 400000 in
theorem tfind_any {w : World} {tp : Value} {t : T} (h : TrAt (151, 76) 153 w tp t) (n : Int) : Calls Tryz.prog 91 #[tp, .int .i64 n] w fun e w' => e = .returned (gotT t n).vp ∧ Below w.heap.size w w' := by
  by_cases hn : 0 ≤ n ∧ n < 1048576
  · obtain ⟨m, rfl⟩ : ∃ m : Nat, n = m := ⟨n.toNat, by omega⟩
    have hwi : ∀ w', Calls Tryz.prog 116 #[.int .i64 m] w' fun e w'' => e = .returned (.bool true) ∧ w'' = w' := fun w' => (within_any m w').mono fun e w'' ⟨he, hw⟩ => ⟨by rw [he]; simp only [hn.1, hn.2, decide_true, Bool.and_self], hw⟩
    have htop := top_any h
    have hfind := find_any h.held w (Below.refl _ _) m
    rw [got_in (by omega)]
    clear h hn
    obtain ⟨a, rfl⟩ : ∃ a, a = tp := ⟨_, rfl⟩
    generalize (findT 5 t m).vp = R at *
    generalize t.bp = P at *
    go_enter Tryz.func91, Tryz.ntmps91
    go_wp2_with (first | (go_at_call 116; refine (hwi _).mono ?_; rintro e w1 ⟨rfl, rfl⟩) | (go_at_call 118; refine htop.mono ?_; rintro e w1 ⟨rfl, rfl⟩) | (go_at_call 122; refine hfind.mono ?_; rintro e w1 ⟨rfl, hb1⟩))
    go_ret
    exact ⟨rfl, hb1⟩
  · have hwi : ∀ w', Calls Tryz.prog 116 #[.int .i64 n] w' fun e w'' => e = .returned (.bool false) ∧ w'' = w' := fun w' => (within_any n w').mono fun e w'' ⟨he, hw⟩ => ⟨by rw [he]; by_cases h0 : 0 ≤ n <;> by_cases h1 : n < 1048576 <;> simp_all, hw⟩
    rw [got_out hn]
    clear h hn
    go_enter Tryz.func91, Tryz.ntmps91
    go_wp2_with (go_at_call 116; refine (hwi _).mono ?_; rintro e w1 ⟨rfl, rfl⟩)
    go_ret
    exact ⟨rfl, Below.refl _ _⟩
theorem below_five {W w : World} (h : Below W.heap.size W w) (a0 a1 a2 a3 a4 : Value) : Below W.heap.size W (((((w.setCell ⟨W.heap.size, 0, none⟩ a0).setCell ⟨W.heap.size, 1, none⟩ a1).setCell ⟨W.heap.size, 2, none⟩ a2).setCell ⟨W.heap.size, 3, none⟩ a3).setCell ⟨W.heap.size, 4, none⟩ a4) :=
  ((((h.setCell (p := ⟨W.heap.size, 0, none⟩) (Nat.le_refl _) a0).setCell (p := ⟨W.heap.size, 1, none⟩) (Nat.le_refl _) a1).setCell (p := ⟨W.heap.size, 2, none⟩) (Nat.le_refl _) a2).setCell (p := ⟨W.heap.size, 3, none⟩) (Nat.le_refl _) a3).setCell (p := ⟨W.heap.size, 4, none⟩) (Nat.le_refl _) a4
set_option maxHeartbeats 400000 in
theorem get_none {w : World} {tp : Value} {t : T} (h : TrAt (151, 76) 153 w tp t) (n : Int) (hg : gotT t n = .nil) : Calls Tryz.prog 83 #[tp, .int .i64 n] w fun e w' => e = .returned (.tuple #[.agg #[.int .i64 0, .string ⟨#[]⟩, .int .i64 0, .slice none 0 0, .slice none 0 0], .bool false]) ∧ Below w.heap.size w w' := by
  have hal : Below w.heap.size w (w.alloc (.cells #[.int .i64 0, .string ⟨#[]⟩, .int .i64 0, .slice none 0 0, .slice none 0 0] 76)) := (Below.refl _ w).alloc (Nat.le_refl _) _
  have hf := tfind_any (h.keep hal) n
  have hx := heap_alloc_last w (.cells #[.int .i64 0, .string ⟨#[]⟩, .int .i64 0, .slice none 0 0, .slice none 0 0] 76)
  have hs : (w.alloc (.cells #[.int .i64 0, .string ⟨#[]⟩, .int .i64 0, .slice none 0 0, .slice none 0 0] 76)).heap.size = w.heap.size + 1 := by simp
  rw [hg] at hf
  clear h hg
  go_enter Tryz.func83, Tryz.ntmps83
  go_wp2_with (go_at_call 91; fail)
  generalize w.alloc (.cells #[.int .i64 0, .string ⟨#[]⟩, .int .i64 0, .slice none 0 0, .slice none 0 0] 76) = WR at *
  refine hf.mono ?_
  rintro e w1 ⟨rfl, hb1⟩
  have hR := (hb1.block w.heap.size (by omega)).trans hx
  have k0 : w1.cell? ⟨w.heap.size, 0, none⟩ = some (.int .i64 0) := by simp [World.cell?, hR]
  have k1 : w1.cell? ⟨w.heap.size, 1, none⟩ = some (.string ⟨#[]⟩) := by simp [World.cell?, hR]
  have k2 : w1.cell? ⟨w.heap.size, 2, none⟩ = some (.int .i64 0) := by simp [World.cell?, hR]
  have k3 : w1.cell? ⟨w.heap.size, 3, none⟩ = some (.slice none 0 0) := by simp [World.cell?, hR]
  have k4 : w1.cell? ⟨w.heap.size, 4, none⟩ = some (.slice none 0 0) := by simp [World.cell?, hR]
  have f0 : w1.frozen? ⟨w.heap.size, 0, none⟩ = false := by simp [World.frozen?, hR]
  have f1 : w1.frozen? ⟨w.heap.size, 1, none⟩ = false := by simp [World.frozen?, hR]
  have f2 : w1.frozen? ⟨w.heap.size, 2, none⟩ = false := by simp [World.frozen?, hR]
  have f3 : w1.frozen? ⟨w.heap.size, 3, none⟩ = false := by simp [World.frozen?, hR]
  have f4 : w1.frozen? ⟨w.heap.size, 4, none⟩ = false := by simp [World.frozen?, hR]
  have hRl : w.heap.size < w1.heap.size := (Array.getElem?_eq_some_iff.1 hR).1
  have HB1 : Hid (Below w.heap.size w w1) := hal.trans (hb1.mono hal.size)
  clear hR hb1 hf hx hal hs
  rw [show T.nil.vp = .pointer none from rfl]
  go_wp2
  refine bodyPost_ret (v := .tuple #[.agg #[.int .i64 0, .string ⟨#[]⟩, .int .i64 0, .slice none 0 0, .slice none 0 0], .bool false]) (by simp [results, Tryz.results83, go_sem, k0, k1, k2, k3, k4, hRl]) rfl ⟨rfl, (below_five HB1.out _ _ _ _ _).alloc (by simpa using HB1.out.size) _⟩
set_option maxHeartbeats 400000 in
theorem get_some {w : World} {tp : Value} {t : T} (h : TrAt (151, 76) 153 w tp t) (n : Int) {b : Nat} {v : Value} (hg : gotT t n = .val b v) : Calls Tryz.prog 83 #[tp, .int .i64 n] w fun e w' => e = .returned (.tuple #[v, .bool true]) ∧ Below w.heap.size w w' := by
  have hal : Below w.heap.size w (w.alloc (.cells #[.int .i64 0, .string ⟨#[]⟩, .int .i64 0, .slice none 0 0, .slice none 0 0] 76)) := (Below.refl _ w).alloc (Nat.le_refl _) _
  have hf := tfind_any (h.keep hal) n
  have hx := heap_alloc_last w (.cells #[.int .i64 0, .string ⟨#[]⟩, .int .i64 0, .slice none 0 0, .slice none 0 0] 76)
  have hs : (w.alloc (.cells #[.int .i64 0, .string ⟨#[]⟩, .int .i64 0, .slice none 0 0, .slice none 0 0] 76)).heap.size = w.heap.size + 1 := by simp
  have hh := h.held.got n
  rw [hg] at hf hh
  obtain ⟨s, rfl, hh⟩ := hh
  have hbl : b < w.heap.size := (Array.getElem?_eq_some_iff.1 hh).1
  clear h hg
  go_enter Tryz.func83, Tryz.ntmps83
  go_wp2_with (go_at_call 91; fail)
  generalize w.alloc (.cells #[.int .i64 0, .string ⟨#[]⟩, .int .i64 0, .slice none 0 0, .slice none 0 0] 76) = WR at *
  refine hf.mono ?_
  rintro e w1 ⟨rfl, hb1⟩
  have hR := (hb1.block w.heap.size (by omega)).trans hx
  have k0 : w1.cell? ⟨w.heap.size, 0, none⟩ = some (.int .i64 0) := by simp [World.cell?, hR]
  have k1 : w1.cell? ⟨w.heap.size, 1, none⟩ = some (.string ⟨#[]⟩) := by simp [World.cell?, hR]
  have k2 : w1.cell? ⟨w.heap.size, 2, none⟩ = some (.int .i64 0) := by simp [World.cell?, hR]
  have k3 : w1.cell? ⟨w.heap.size, 3, none⟩ = some (.slice none 0 0) := by simp [World.cell?, hR]
  have k4 : w1.cell? ⟨w.heap.size, 4, none⟩ = some (.slice none 0 0) := by simp [World.cell?, hR]
  have f0 : w1.frozen? ⟨w.heap.size, 0, none⟩ = false := by simp [World.frozen?, hR]
  have f1 : w1.frozen? ⟨w.heap.size, 1, none⟩ = false := by simp [World.frozen?, hR]
  have f2 : w1.frozen? ⟨w.heap.size, 2, none⟩ = false := by simp [World.frozen?, hR]
  have f3 : w1.frozen? ⟨w.heap.size, 3, none⟩ = false := by simp [World.frozen?, hR]
  have f4 : w1.frozen? ⟨w.heap.size, 4, none⟩ = false := by simp [World.frozen?, hR]
  have hRl : w.heap.size < w1.heap.size := (Array.getElem?_eq_some_iff.1 hR).1
  have HB1 : Hid (Below w.heap.size w w1) := hal.trans (hb1.mono hal.size)
  have hcr := (HB1.out.block b hbl).trans hh
  have c0 : w1.cell? ⟨b, 0, none⟩ = some (.int .i64 s.id) := by rw [cell_of_row _ _ _ _ _ _ hcr]; rfl
  have c1 : w1.cell? ⟨b, 1, none⟩ = some (.string s.tag) := by rw [cell_of_row _ _ _ _ _ _ hcr]; rfl
  have c2 : w1.cell? ⟨b, 2, none⟩ = some (.int .i64 s.par) := by rw [cell_of_row _ _ _ _ _ _ hcr]; rfl
  have c3 : w1.cell? ⟨b, 3, none⟩ = some (.slice s.ka s.kn s.kc) := by rw [cell_of_row _ _ _ _ _ _ hcr]; rfl
  have c4 : w1.cell? ⟨b, 4, none⟩ = some (.slice s.aa s.an s.ac) := by rw [cell_of_row _ _ _ _ _ _ hcr]; rfl
  clear hR hb1 hf hx hal hs hcr hh
  rw [show (T.val b s.val).vp = .pointer (some ⟨b, 0, none⟩) from rfl]
  go_wp2
  refine bodyPost_ret (v := .tuple #[s.val, .bool true]) (by simp [results, Tryz.results83, go_sem, k0, k1, k2, k3, k4, N5.val]) rfl ⟨rfl, below_five HB1.out _ _ _ _ _⟩
set_option maxHeartbeats 400000 in
theorem new_any (w : World) : Calls Tryz.prog 50 #[] w fun e w' => ∃ b b0, e = .returned (.pointer (some ⟨b, 0, none⟩)) ∧ w.heap.size ≤ b ∧ w.heap.size ≤ b0 ∧ TrAt (151, 76) 153 w' (.pointer (some ⟨b, 0, none⟩)) (newT b0) ∧ Below w.heap.size w w' := by
  go_enter Tryz.func50, Tryz.ntmps50
  go_wp2
  go_ret
  have hs1 : ∀ o, (w.alloc o).heap.size = w.heap.size + 1 := fun o => by simp
  have hA := fun o => (Below.refl _ w).alloc (Nat.le_refl _) o
  have hB := fun o o' => ((Below.refl _ w).alloc (Nat.le_refl _) o).alloc (o := o') (by rw [hs1]; omega)
  have e1 : (w.alloc (.cells (kidCells fun _ => T.nil).toArray 151)).heap[w.heap.size]? = some (.cells (kidCells fun _ => T.nil).toArray 151) := heap_alloc_last w _
  refine ⟨w.heap.size + 1, w.heap.size, rfl, by omega, Nat.le_refl _, ⟨⟨?_, fun _ _ => trivial⟩, new_wf _, new_pr _, .inr ⟨_, rfl, ?_⟩⟩, hB _ _⟩
  · exact (Below.heap_alloc (w.alloc (.cells (kidCells fun _ => T.nil).toArray 151)) _ _ (by rw [hs1]; omega)).trans e1
  · have := heap_alloc_last (w.alloc (.cells (kidCells fun _ => T.nil).toArray 151)) (.cells #[.pointer (some ⟨w.heap.size, 0, none⟩), .int .i64 0, .int .i64 1] 153)
    rw [hs1] at this
    exact this
set_option maxHeartbeats 400000 in
theorem put_out (w : World) (tp : Value) (n : Int) (hn : ¬ (0 ≤ n ∧ n < 1048576)) (s : N5) : Calls Tryz.prog 84 #[tp, .int .i64 n, .agg #[.int .i64 s.id, .string s.tag, .int .i64 s.par, .slice s.ka s.kn s.kc, .slice s.aa s.an s.ac]] w fun e w' => e = .returned tp ∧ Below w.heap.size w w' := by
  have hwi : ∀ w', Calls Tryz.prog 116 #[.int .i64 n] w' fun e w'' => e = .returned (.bool false) ∧ w'' = w' := fun w' => (within_any n w').mono fun e w'' ⟨he, hw⟩ => ⟨by rw [he]; by_cases h0 : 0 ≤ n <;> by_cases h1 : n < 1048576 <;> simp_all, hw⟩
  have hal : ∀ o, Below w.heap.size w (w.alloc o) := fun o => (Below.refl _ w).alloc (Nat.le_refl _) o
  clear hn
  go_enter Tryz.func84, Tryz.ntmps84
  go_wp2_with (go_at_call 116; refine (hwi _).mono ?_; rintro e w1 ⟨rfl, rfl⟩)
  go_ret
  exact ⟨rfl, hal _⟩
set_option maxHeartbeats 1000000 in
theorem put_in {w : World} {tp : Value} {t : T} (h : TrAt (151, 76) 153 w tp t) (n : Nat) (hn : n < 1048576) (s : N5) : Calls Tryz.prog 84 #[tp, .int .i64 n, .agg #[.int .i64 s.id, .string s.tag, .int .i64 s.par, .slice s.ka s.kn s.kc, .slice s.aa s.an s.ac]] w fun e w' =>
    ∃ b bv t', e = .returned (.pointer (some ⟨b, 0, none⟩)) ∧ w.heap.size ≤ b ∧ TrAt (151, 76) 153 w' (.pointer (some ⟨b, 0, none⟩)) t' ∧ PutT w.heap.size 4 t n (.val bv (.agg #[.int .i64 s.id, .string s.tag, .int .i64 s.par, .slice s.ka s.kn s.kc, .slice s.aa s.an s.ac])) t' ∧ Below w.heap.size w w' := by
  have hwi : ∀ w', Calls Tryz.prog 116 #[.int .i64 n] w' fun e w'' => e = .returned (.bool true) ∧ w'' = w' := fun w' => (within_any n w').mono fun e w'' ⟨he, hw⟩ => ⟨by rw [he, decide_eq_true (by omega), decide_eq_true (by omega)]; rfl, hw⟩
  obtain ⟨wA, hwA⟩ : ∃ wA, wA = w.alloc (.cells #[.int .i64 s.id, .string s.tag, .int .i64 s.par, .slice s.ka s.kn s.kc, .slice s.aa s.an s.ac] 76) := ⟨_, rfl⟩
  have hBA : Below w.heap.size w wA := by rw [hwA]; exact (Below.refl _ w).alloc (Nat.le_refl _) _
  have hval : wA.heap[w.heap.size]? = some (.cells #[.int .i64 s.id, .string s.tag, .int .i64 s.par, .slice s.ka s.kn s.kc, .slice s.aa s.an s.ac] 76 (0, 0)) := by rw [hwA]; exact heap_alloc_last w _
  have hA := h.keep hBA
  obtain ⟨hb1, hb2⟩ := h.bounds
  have HWF := hid_mk h.wf
  have HPR := hid_mk h.pr
  have hlen := len_any hA
  have hfi := tfind_any hA n
  have HTOP : Hid (∀ w', Below wA.heap.size wA w' → _) := fun w' hw' => top_any (hA.keep hw')
  have HPUT : Hid (∀ w', Below wA.heap.size wA w' → _) := fun w' hw' => put_any n w.heap.size (.agg #[.int .i64 s.id, .string s.tag, .int .i64 s.par, .slice s.ka s.kn s.kc, .slice s.aa s.an s.ac]) 4 (Nat.le_refl _) t w' (hA.held.keep hw') (Held.keep (t := .val w.heap.size (.agg #[.int .i64 s.id, .string s.tag, .int .i64 s.par, .slice s.ka s.kn s.kc, .slice s.aa s.an s.ac])) hw' ⟨s, rfl, hval⟩)
  have HNOD : Hid (∀ w', Below wA.heap.size wA w' → _) := fun w' hw' => nodes_any (hA.keep hw')
  have HWAY : Hid (∀ w', Below wA.heap.size wA w' → _) := fun w' hw' => way_any (hA.held.keep hw') h.wf w' (Below.refl _ _) n
  have hwl := way_le 5 t n
  rw [got_in hn] at hfi
  have hgc := got_cases h.wf n
  rw [got_in hn] at hgc
  have HBA := hid_mk hBA
  clear h hA hval hn hBA
  have hwA' := hwA.symm
  have HWA := hid_mk hwA'
  clear hwA hwA'
  obtain ⟨c, hc⟩ : ∃ c, c = cntT t := ⟨_, rfl⟩
  obtain ⟨z, hz⟩ : ∃ z, z = szT t := ⟨_, rfl⟩
  obtain ⟨y, hy⟩ : ∃ y, y = wayT 5 t n := ⟨_, rfl⟩
  obtain ⟨P, hP⟩ : ∃ P, P = t.bp := ⟨_, rfl⟩
  rw [← hc] at HNOD hb2
  rw [← hz] at hlen hb1
  rw [← hy] at HWAY hwl
  rw [← hP] at HTOP HPUT HWAY
  have HC := hid_mk hc
  have HZ := hid_mk hz
  have HY := hid_mk hy
  clear hc hz hy hP
  rcases hgc with hg | ⟨bo, vo, hg⟩
  · rw [hg] at hfi
    have HG := hid_mk hg
    clear hg
    go_enter Tryz.func84, Tryz.ntmps84
    go_wp2_with (first | (go_at_call 116; rw [HWA.out]; refine (hwi _).mono ?_; rintro e w1 ⟨rfl, rfl⟩) | (go_at_call 117; refine hlen.mono ?_; rintro e w1 ⟨rfl, rfl⟩) | (go_at_call 91; refine hfi.mono ?_; rintro e w1 ⟨rfl, hB1⟩; rw [show T.nil.vp = .pointer none from rfl]) | (go_at_call 118; refine (HTOP.out _ hB1).mono ?_; rintro e w2 ⟨rfl, rfl⟩) | (go_at_call 119; refine (HPUT.out _ hB1).mono ?_; rintro e w2 ⟨t2, rfl, hH2, hP2, hB2⟩; obtain ⟨b2, k2, hb2', rfl⟩ := hP2.node; rw [show (T.node b2 k2).bp = .pointer (some ⟨b2, 0, none⟩) from rfl]; have hB12 := hB1.trans (hB2.mono hB1.size)) | (go_at_call 120; refine (HNOD.out _ hB12).mono ?_; rintro e w3 ⟨rfl, rfl⟩) | (go_at_call 93; refine (HWAY.out _ hB12).mono ?_; rintro e w3 ⟨rfl, hB3⟩))
    go_ret
    have hB03 : Below w.heap.size w w3 := HBA.out.trans ((hB12.trans (hB3.mono hB12.size)).mono HBA.out.size)
    have hP3 := hP2.mono (Nat.le_trans HBA.out.size hB1.size)
    have hx : wfT 0 (.val w.heap.size (.agg #[.int .i64 s.id, .string s.tag, .int .i64 s.par, .slice s.ka s.kn s.kc, .slice s.aa s.an s.ac])) := fun _ _ e => by cases e
    have e1 := put_cnt hx HWF.out hP3
    have e2 := put_sz hx HWF.out hP3
    rw [HG.out, ← HZ.out, show T.one .nil = 0 from rfl, show (T.val w.heap.size (.agg #[.int .i64 s.id, .string s.tag, .int .i64 s.par, .slice s.ka s.kn s.kc, .slice s.aa s.an s.ac])).one = 1 from rfl] at e2
    rw [← HC.out, ← HY.out] at e1
    have hal : Below w3.heap.size w3 (w3.alloc (.cells #[.pointer (some ⟨b2, 0, none⟩), .int .i64 ((z : Int) + 1), .int .i64 ((c : Int) - y + 5)] 153)) := (Below.refl _ w3).alloc (Nat.le_refl _) _
    refine ⟨w3.heap.size, w.heap.size, .node b2 k2, rfl, hB03.size, ⟨(hH2.keep hB3).keep hal, put_wf hx HWF.out hP3, (put_pr HPR.out hP3).kids, .inr ⟨_, rfl, ?_⟩⟩, hP3, hB03.trans (hal.mono hB03.size)⟩
    rw [show ((szT (.node b2 k2) : Nat) : Int) = ((z : Int) + 1) by omega, show ((cntT (.node b2 k2) : Nat) : Int) = (c : Int) - y + 5 by omega]
    exact heap_alloc_last _ _
  · rw [hg] at hfi
    have HG := hid_mk hg
    clear hg
    go_enter Tryz.func84, Tryz.ntmps84
    go_wp2_with (first | (go_at_call 116; rw [HWA.out]; refine (hwi _).mono ?_; rintro e w1 ⟨rfl, rfl⟩) | (go_at_call 117; refine hlen.mono ?_; rintro e w1 ⟨rfl, rfl⟩) | (go_at_call 91; refine hfi.mono ?_; rintro e w1 ⟨rfl, hB1⟩; rw [show (T.val bo vo).vp = .pointer (some ⟨bo, 0, none⟩) from rfl]) | (go_at_call 118; refine (HTOP.out _ hB1).mono ?_; rintro e w2 ⟨rfl, rfl⟩) | (go_at_call 119; refine (HPUT.out _ hB1).mono ?_; rintro e w2 ⟨t2, rfl, hH2, hP2, hB2⟩; obtain ⟨b2, k2, hb2', rfl⟩ := hP2.node; rw [show (T.node b2 k2).bp = .pointer (some ⟨b2, 0, none⟩) from rfl]; have hB12 := hB1.trans (hB2.mono hB1.size)) | (go_at_call 120; refine (HNOD.out _ hB12).mono ?_; rintro e w3 ⟨rfl, rfl⟩) | (go_at_call 93; refine (HWAY.out _ hB12).mono ?_; rintro e w3 ⟨rfl, hB3⟩))
    go_ret
    have hB03 : Below w.heap.size w w3 := HBA.out.trans ((hB12.trans (hB3.mono hB12.size)).mono HBA.out.size)
    have hP3 := hP2.mono (Nat.le_trans HBA.out.size hB1.size)
    have hx : wfT 0 (.val w.heap.size (.agg #[.int .i64 s.id, .string s.tag, .int .i64 s.par, .slice s.ka s.kn s.kc, .slice s.aa s.an s.ac])) := fun _ _ e => by cases e
    have e1 := put_cnt hx HWF.out hP3
    have e2 := put_sz hx HWF.out hP3
    rw [HG.out, ← HZ.out, show T.one (.val bo vo) = 1 from rfl, show (T.val w.heap.size (.agg #[.int .i64 s.id, .string s.tag, .int .i64 s.par, .slice s.ka s.kn s.kc, .slice s.aa s.an s.ac])).one = 1 from rfl] at e2
    rw [← HC.out, ← HY.out] at e1
    have hal : Below w3.heap.size w3 (w3.alloc (.cells #[.pointer (some ⟨b2, 0, none⟩), .int .i64 (z : Int), .int .i64 ((c : Int) - y + 5)] 153)) := (Below.refl _ w3).alloc (Nat.le_refl _) _
    refine ⟨w3.heap.size, w.heap.size, .node b2 k2, rfl, hB03.size, ⟨(hH2.keep hB3).keep hal, put_wf hx HWF.out hP3, (put_pr HPR.out hP3).kids, .inr ⟨_, rfl, ?_⟩⟩, hP3, hB03.trans (hal.mono hB03.size)⟩
    rw [show ((szT (.node b2 k2) : Nat) : Int) = (z : Int) by omega, show ((cntT (.node b2 k2) : Nat) : Int) = (c : Int) - y + 5 by omega]
    exact heap_alloc_last _ _

end Go.Proofs.YtdiljkmlneeboaaGreat.N
