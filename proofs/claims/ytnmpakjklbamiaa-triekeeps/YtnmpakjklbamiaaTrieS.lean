/- trie's top, Len, Nodes, find, Get, New, Fresh. -/
import Derived.Test.YtnmpakjklbamiaaDropS
import Derived.Test.YtnmpakjklbamiaaTrAt
namespace Go.Proofs.Ytnmpakjklbamiaa.S
open Go.RowKit
set_option maxRecDepth 100000

set_option maxHeartbeats 400000 in
theorem top_any {w : World} {tp : Value} {t : T} (h : TrAt (66, 9) 53 w tp t) : Calls Try.prog 33 #[tp] w fun e w' => e = .returned t.bp ∧ w' = w := by
  rcases h.lies with ⟨rfl, rfl⟩ | ⟨b, rfl, hb⟩
  · clear h
    go_enter Try.func33, Try.ntmps33
    go_wp2
    go_ret
    exact ⟨rfl, rfl⟩
  · have c0 : w.cell? ⟨b, 0, none⟩ = some t.bp := by rw [cell_of_row _ _ _ _ _ _ hb]; rfl
    clear h hb
    generalize t.bp = P at *
    go_enter Try.func33, Try.ntmps33
    go_wp2
    go_ret
    exact ⟨rfl, rfl⟩
set_option maxHeartbeats 400000 in
theorem len_any {w : World} {tp : Value} {t : T} (h : TrAt (66, 9) 53 w tp t) : Calls Try.prog 26 #[tp] w fun e w' => e = .returned (.int .i64 (szT t)) ∧ w' = w := by
  rcases h.lies with ⟨rfl, rfl⟩ | ⟨b, rfl, hb⟩
  · clear h
    go_enter Try.func26, Try.ntmps26
    go_wp2
    go_ret
    exact ⟨rfl, rfl⟩
  · have c0 : w.cell? ⟨b, 1, none⟩ = some (.int .i64 (szT t)) := by rw [cell_of_row _ _ _ _ _ _ hb]; rfl
    clear h hb
    go_enter Try.func26, Try.ntmps26
    go_wp2
    go_ret
    exact ⟨rfl, rfl⟩
set_option maxHeartbeats 400000 in
theorem nodes_any {w : World} {tp : Value} {t : T} (h : TrAt (66, 9) 53 w tp t) : Calls Try.prog 27 #[tp] w fun e w' => e = .returned (.int .i64 (cntT t)) ∧ w' = w := by
  rcases h.lies with ⟨rfl, rfl⟩ | ⟨b, rfl, hb⟩
  · clear h
    go_enter Try.func27, Try.ntmps27
    go_wp2
    go_ret
    exact ⟨rfl, rfl⟩
  · have c0 : w.cell? ⟨b, 2, none⟩ = some (.int .i64 (cntT t)) := by rw [cell_of_row _ _ _ _ _ _ hb]; rfl
    clear h hb
    go_enter Try.func27, Try.ntmps27
    go_wp2
    go_ret
    exact ⟨rfl, rfl⟩
set_option maxHeartbeats 400000 in
theorem tfind_any {w : World} {tp : Value} {t : T} (h : TrAt (66, 9) 53 w tp t) (n : Int) : Calls Try.prog 29 #[tp, .int .i64 n] w fun e w' => e = .returned (gotT t n).vp ∧ Below w.heap.size w w' := by
  by_cases hn : 0 ≤ n ∧ n < 1048576
  · obtain ⟨m, rfl⟩ : ∃ m : Nat, n = m := ⟨n.toNat, by omega⟩
    have hwi : ∀ w', Calls Try.prog 32 #[.int .i64 m] w' fun e w'' => e = .returned (.bool true) ∧ w'' = w' := fun w' => (within_any m w').mono fun e w'' ⟨he, hw⟩ => ⟨by rw [he]; simp only [hn.1, hn.2, decide_true, Bool.and_self], hw⟩
    have htop := top_any h
    have hfind := find_any h.held w (Below.refl _ _) m
    rw [got_in (by omega)]
    clear h hn
    obtain ⟨a, rfl⟩ : ∃ a, a = tp := ⟨_, rfl⟩
    generalize (findT 5 t m).vp = R at *
    generalize t.bp = P at *
    go_enter Try.func29, Try.ntmps29
    go_wp2_with (first | (go_at_call 32; refine (hwi _).mono ?_; rintro e w1 ⟨rfl, rfl⟩) | (go_at_call 33; refine htop.mono ?_; rintro e w1 ⟨rfl, rfl⟩) | (go_at_call 45; refine hfind.mono ?_; rintro e w1 ⟨rfl, hb1⟩))
    go_ret
    exact ⟨rfl, hb1⟩
  · have hwi : ∀ w', Calls Try.prog 32 #[.int .i64 n] w' fun e w'' => e = .returned (.bool false) ∧ w'' = w' := fun w' => (within_any n w').mono fun e w'' ⟨he, hw⟩ => ⟨by rw [he]; by_cases h0 : 0 ≤ n <;> by_cases h1 : n < 1048576 <;> simp_all, hw⟩
    rw [got_out hn]
    clear h hn
    go_enter Try.func29, Try.ntmps29
    go_wp2_with (go_at_call 32; refine (hwi _).mono ?_; rintro e w1 ⟨rfl, rfl⟩)
    go_ret
    exact ⟨rfl, Below.refl _ _⟩
set_option maxHeartbeats 400000 in
theorem get_none {w : World} {tp : Value} {t : T} (h : TrAt (66, 9) 53 w tp t) (n : Int) (hg : gotT t n = .nil) : Calls Try.prog 15 #[tp, .int .i64 n] w fun e w' => e = .returned (.tuple #[.string ByteArray.empty, .bool false]) ∧ Below w.heap.size w w' := by
  have hf := tfind_any h n
  rw [hg] at hf
  clear h hg
  go_enter Try.func15, Try.ntmps15
  go_wp2_with (go_at_call 29; refine hf.mono ?_; rintro e w1 ⟨rfl, hb1⟩; rw [show T.nil.vp = .pointer none from rfl])
  go_ret2
  exact ⟨rfl, hb1⟩
set_option maxHeartbeats 400000 in
theorem get_some {w : World} {tp : Value} {t : T} (h : TrAt (66, 9) 53 w tp t) (n : Int) {b : Nat} {v : Value} (hg : gotT t n = .val b v) : Calls Try.prog 15 #[tp, .int .i64 n] w fun e w' => e = .returned (.tuple #[v, .bool true]) ∧ Below w.heap.size w w' := by
  have hf := tfind_any h n
  have hh := h.held.got n
  rw [hg] at hf hh
  have HH := hid_mk hh
  clear h hg hh
  go_enter Try.func15, Try.ntmps15
  go_wp2_with (go_at_call 29; refine hf.mono ?_; rintro e w1 ⟨rfl, hb1⟩; rw [show (T.val b v).vp = .pointer (some ⟨b, 0, none⟩) from rfl]; have c0 : w1.cell? ⟨b, 0, none⟩ = some v := by rw [cell_of_row _ _ _ _ _ _ (HH.out.keep hb1)]; rfl)
  go_ret2
  exact ⟨rfl, hb1⟩
set_option maxHeartbeats 400000 in
theorem new_any (w : World) : Calls Try.prog 10 #[] w fun e w' => ∃ b b0, e = .returned (.pointer (some ⟨b, 0, none⟩)) ∧ w.heap.size ≤ b ∧ w.heap.size ≤ b0 ∧ TrAt (66, 9) 53 w' (.pointer (some ⟨b, 0, none⟩)) (newT b0) ∧ Below w.heap.size w w' := by
  go_enter Try.func10, Try.ntmps10
  go_wp2
  go_ret
  have hs1 : ∀ o, (w.alloc o).heap.size = w.heap.size + 1 := fun o => by simp
  have hA := fun o => (Below.refl _ w).alloc (Nat.le_refl _) o
  have hB := fun o o' => ((Below.refl _ w).alloc (Nat.le_refl _) o).alloc (o := o') (by rw [hs1]; omega)
  have e1 : (w.alloc (.cells (kidCells fun _ => T.nil).toArray 66)).heap[w.heap.size]? = some (.cells (kidCells fun _ => T.nil).toArray 66) := heap_alloc_last w _
  refine ⟨w.heap.size + 1, w.heap.size, rfl, by omega, Nat.le_refl _, ⟨⟨?_, fun _ _ => trivial⟩, new_wf _, new_pr _, .inr ⟨_, rfl, ?_⟩⟩, hB _ _⟩
  · exact (Below.heap_alloc (w.alloc (.cells (kidCells fun _ => T.nil).toArray 66)) _ _ (by rw [hs1]; omega)).trans e1
  · have := heap_alloc_last (w.alloc (.cells (kidCells fun _ => T.nil).toArray 66)) (.cells #[.pointer (some ⟨w.heap.size, 0, none⟩), .int .i64 0, .int .i64 1] 53)
    rw [hs1] at this
    exact this
set_option maxHeartbeats 400000 in
theorem tfresh_any {w : World} {op tp : Value} {o t : T} (ho : TrAt (66, 9) 53 w op o) (ht : TrAt (66, 9) 53 w tp t) : Calls Try.prog 18 #[op, tp] w fun e w' => e = .returned (.int .i64 (freshT t o)) ∧ Below w.heap.size w w' := by
  have h1 := top_any ho
  have h2 := top_any ht
  have h3 := fresh_any w t ht.held o ho.held 5 ht.wf (Nat.le_refl _) w (Below.refl _ _)
  clear ho ht
  generalize freshT t o = R at *
  generalize t.bp = P at *
  generalize o.bp = Q at *
  go_enter Try.func18, Try.ntmps18
  go_wp2_with (first | (go_at_call 33; refine h2.mono ?_; clear h2; rintro e w1 ⟨rfl, rfl⟩) | (go_at_call 33; refine h1.mono ?_; clear h1; rintro e w1 ⟨rfl, rfl⟩) | (go_at_call 36; refine h3.mono ?_; rintro e w1 ⟨rfl, hb1⟩))
  go_ret
  exact ⟨rfl, hb1⟩
set_option maxHeartbeats 400000 in
theorem put_out (w : World) (tp : Value) (n : Int) (hn : ¬ (0 ≤ n ∧ n < 1048576)) (s : ByteArray) : Calls Try.prog 13 #[tp, .int .i64 n, .string s] w fun e w' => e = .returned tp ∧ Below w.heap.size w w' := by
  have hwi : ∀ w', Calls Try.prog 32 #[.int .i64 n] w' fun e w'' => e = .returned (.bool false) ∧ w'' = w' := fun w' => (within_any n w').mono fun e w'' ⟨he, hw⟩ => ⟨by rw [he]; by_cases h0 : 0 ≤ n <;> by_cases h1 : n < 1048576 <;> simp_all, hw⟩
  have hal : ∀ o, Below w.heap.size w (w.alloc o) := fun o => (Below.refl _ w).alloc (Nat.le_refl _) o
  clear hn
  go_enter Try.func13, Try.ntmps13
  go_wp2_with (go_at_call 32; refine (hwi _).mono ?_; rintro e w1 ⟨rfl, rfl⟩)
  go_ret
  exact ⟨rfl, hal _⟩
set_option maxHeartbeats 1000000 in
theorem put_in {w : World} {tp : Value} {t : T} (h : TrAt (66, 9) 53 w tp t) (n : Nat) (hn : n < 1048576) (s : ByteArray) : Calls Try.prog 13 #[tp, .int .i64 n, .string s] w fun e w' =>
    ∃ b bv t', e = .returned (.pointer (some ⟨b, 0, none⟩)) ∧ w.heap.size ≤ b ∧ TrAt (66, 9) 53 w' (.pointer (some ⟨b, 0, none⟩)) t' ∧ PutT w.heap.size 4 t n (.val bv (.string s)) t' ∧ Below w.heap.size w w' := by
  have hwi : ∀ w', Calls Try.prog 32 #[.int .i64 n] w' fun e w'' => e = .returned (.bool true) ∧ w'' = w' := fun w' => (within_any n w').mono fun e w'' ⟨he, hw⟩ => ⟨by rw [he, decide_eq_true (by omega), decide_eq_true (by omega)]; rfl, hw⟩
  obtain ⟨wA, hwA⟩ : ∃ wA, wA = w.alloc (.cells #[.string s] 9) := ⟨_, rfl⟩
  have hBA : Below w.heap.size w wA := by rw [hwA]; exact (Below.refl _ w).alloc (Nat.le_refl _) _
  have hval : wA.heap[w.heap.size]? = some (.cells #[.string s] 9 (0, 0)) := by rw [hwA]; exact heap_alloc_last w _
  have hA := h.keep hBA
  obtain ⟨hb1, hb2⟩ := h.bounds
  have HWF := hid_mk h.wf
  have HPR := hid_mk h.pr
  have hlen := len_any hA
  have hfi := tfind_any hA n
  have HTOP : Hid (∀ w', Below wA.heap.size wA w' → _) := fun w' hw' => top_any (hA.keep hw')
  have HPUT : Hid (∀ w', Below wA.heap.size wA w' → _) := fun w' hw' => put_any n w.heap.size (.string s) 4 (Nat.le_refl _) t w' (hA.held.keep hw') (Held.keep (t := .val w.heap.size (.string s)) hw' hval)
  have HNOD : Hid (∀ w', Below wA.heap.size wA w' → _) := fun w' hw' => nodes_any (hA.keep hw')
  have HWAY : Hid (∀ w', Below wA.heap.size wA w' → _) := fun w' hw' => way_any (hA.held.keep hw') h.wf w' (Below.refl _ _) n
  have hwl := way_le 5 t n
  rw [got_in hn] at hfi
  have hgc := got_cases h.wf n
  rw [got_in hn] at hgc
  have HBA := hid_mk hBA
  clear h hA hval hn hBA
  have hwA' := hwA.symm
  have HWA := hid_mk hwA'
  clear hwA hwA'
  obtain ⟨c, hc⟩ : ∃ c, c = cntT t := ⟨_, rfl⟩
  obtain ⟨z, hz⟩ : ∃ z, z = szT t := ⟨_, rfl⟩
  obtain ⟨y, hy⟩ : ∃ y, y = wayT 5 t n := ⟨_, rfl⟩
  obtain ⟨P, hP⟩ : ∃ P, P = t.bp := ⟨_, rfl⟩
  rw [← hc] at HNOD hb2
  rw [← hz] at hlen hb1
  rw [← hy] at HWAY hwl
  rw [← hP] at HTOP HPUT HWAY
  have HC := hid_mk hc
  have HZ := hid_mk hz
  have HY := hid_mk hy
  clear hc hz hy hP
  rcases hgc with hg | ⟨bo, vo, hg⟩
  · rw [hg] at hfi
    have HG := hid_mk hg
    clear hg
    go_enter Try.func13, Try.ntmps13
    go_wp2_with (first | (go_at_call 32; rw [HWA.out]; refine (hwi _).mono ?_; rintro e w1 ⟨rfl, rfl⟩) | (go_at_call 26; refine hlen.mono ?_; rintro e w1 ⟨rfl, rfl⟩) | (go_at_call 29; refine hfi.mono ?_; rintro e w1 ⟨rfl, hB1⟩; rw [show T.nil.vp = .pointer none from rfl]) | (go_at_call 33; refine (HTOP.out _ hB1).mono ?_; rintro e w2 ⟨rfl, rfl⟩) | (go_at_call 34; refine (HPUT.out _ hB1).mono ?_; rintro e w2 ⟨t2, rfl, hH2, hP2, hB2⟩; obtain ⟨b2, k2, hb2', rfl⟩ := hP2.node; rw [show (T.node b2 k2).bp = .pointer (some ⟨b2, 0, none⟩) from rfl]; have hB12 := hB1.trans (hB2.mono hB1.size)) | (go_at_call 27; refine (HNOD.out _ hB12).mono ?_; rintro e w3 ⟨rfl, rfl⟩) | (go_at_call 31; refine (HWAY.out _ hB12).mono ?_; rintro e w3 ⟨rfl, hB3⟩))
    go_ret
    have hB03 : Below w.heap.size w w3 := HBA.out.trans ((hB12.trans (hB3.mono hB12.size)).mono HBA.out.size)
    have hP3 := hP2.mono (Nat.le_trans HBA.out.size hB1.size)
    have hx : wfT 0 (.val w.heap.size (.string s)) := fun _ _ e => by cases e
    have e1 := put_cnt hx HWF.out hP3
    have e2 := put_sz hx HWF.out hP3
    rw [HG.out, ← HZ.out, show T.one .nil = 0 from rfl, show (T.val w.heap.size (.string s)).one = 1 from rfl] at e2
    rw [← HC.out, ← HY.out] at e1
    have hal : Below w3.heap.size w3 (w3.alloc (.cells #[.pointer (some ⟨b2, 0, none⟩), .int .i64 ((z : Int) + 1), .int .i64 ((c : Int) - y + 5)] 53)) := (Below.refl _ w3).alloc (Nat.le_refl _) _
    refine ⟨w3.heap.size, w.heap.size, .node b2 k2, rfl, hB03.size, ⟨(hH2.keep hB3).keep hal, put_wf hx HWF.out hP3, (put_pr HPR.out hP3).kids, .inr ⟨_, rfl, ?_⟩⟩, hP3, hB03.trans (hal.mono hB03.size)⟩
    rw [show ((szT (.node b2 k2) : Nat) : Int) = ((z : Int) + 1) by omega, show ((cntT (.node b2 k2) : Nat) : Int) = (c : Int) - y + 5 by omega]
    exact heap_alloc_last _ _
  · rw [hg] at hfi
    have HG := hid_mk hg
    clear hg
    go_enter Try.func13, Try.ntmps13
    go_wp2_with (first | (go_at_call 32; rw [HWA.out]; refine (hwi _).mono ?_; rintro e w1 ⟨rfl, rfl⟩) | (go_at_call 26; refine hlen.mono ?_; rintro e w1 ⟨rfl, rfl⟩) | (go_at_call 29; refine hfi.mono ?_; rintro e w1 ⟨rfl, hB1⟩; rw [show (T.val bo vo).vp = .pointer (some ⟨bo, 0, none⟩) from rfl]) | (go_at_call 33; refine (HTOP.out _ hB1).mono ?_; rintro e w2 ⟨rfl, rfl⟩) | (go_at_call 34; refine (HPUT.out _ hB1).mono ?_; rintro e w2 ⟨t2, rfl, hH2, hP2, hB2⟩; obtain ⟨b2, k2, hb2', rfl⟩ := hP2.node; rw [show (T.node b2 k2).bp = .pointer (some ⟨b2, 0, none⟩) from rfl]; have hB12 := hB1.trans (hB2.mono hB1.size)) | (go_at_call 27; refine (HNOD.out _ hB12).mono ?_; rintro e w3 ⟨rfl, rfl⟩) | (go_at_call 31; refine (HWAY.out _ hB12).mono ?_; rintro e w3 ⟨rfl, hB3⟩))
    go_ret
    have hB03 : Below w.heap.size w w3 := HBA.out.trans ((hB12.trans (hB3.mono hB12.size)).mono HBA.out.size)
    have hP3 := hP2.mono (Nat.le_trans HBA.out.size hB1.size)
    have hx : wfT 0 (.val w.heap.size (.string s)) := fun _ _ e => by cases e
    have e1 := put_cnt hx HWF.out hP3
    have e2 := put_sz hx HWF.out hP3
    rw [HG.out, ← HZ.out, show T.one (.val bo vo) = 1 from rfl, show (T.val w.heap.size (.string s)).one = 1 from rfl] at e2
    rw [← HC.out, ← HY.out] at e1
    have hal : Below w3.heap.size w3 (w3.alloc (.cells #[.pointer (some ⟨b2, 0, none⟩), .int .i64 (z : Int), .int .i64 ((c : Int) - y + 5)] 53)) := (Below.refl _ w3).alloc (Nat.le_refl _) _
    refine ⟨w3.heap.size, w.heap.size, .node b2 k2, rfl, hB03.size, ⟨(hH2.keep hB3).keep hal, put_wf hx HWF.out hP3, (put_pr HPR.out hP3).kids, .inr ⟨_, rfl, ?_⟩⟩, hP3, hB03.trans (hal.mono hB03.size)⟩
    rw [show ((szT (.node b2 k2) : Nat) : Int) = (z : Int) by omega, show ((cntT (.node b2 k2) : Nat) : Int) = (c : Int) - y + 5 by omega]
    exact heap_alloc_last _ _

end Go.Proofs.Ytnmpakjklbamiaa.S
