/- trie's Drop. -/
import Derived.Test.YtdiljkmlneeboaaGreatTrieN
import Derived.Deep.RegionHeld3
import Derived.Laws.BitsLemmas
namespace Go.Proofs.YtdiljkmlneeboaaGreat.N
open Go.RowKit
set_option maxRecDepth 100000

set_option maxHeartbeats 400000 in
theorem drop_none {w : World} {tp : Value} {t : T} (h : TrAt (151, 76) 153 w tp t) (n : Int) (hg : gotT t n = .nil) : Calls Tryz.prog 57 #[tp, .int .i64 n] w fun e w' => e = .returned tp ∧ Below w.heap.size w w' := by
  have hf := tfind_any h n
  rw [hg] at hf
  clear h hg
  go_enter Tryz.func57, Tryz.ntmps57
  go_wp2_with (go_at_call 91; refine hf.mono ?_; rintro e w1 ⟨rfl, hb1⟩; rw [show T.nil.vp = .pointer none from rfl])
  go_ret
  exact ⟨rfl, hb1⟩
theorem balloc {w w' : World} (h : Below w.heap.size w w') (o : Obj) : Below w.heap.size w (w'.alloc o) := h.alloc h.size o
theorem below_drew (B : Nat) (w : World) : Below B w w.drew := ⟨rfl, rfl, rfl, Nat.le_refl _, fun _ _ => rfl⟩
set_option maxHeartbeats 1000000 in
theorem drop_in {w : World} {tp : Value} {t : T} (h : TrAt (151, 76) 153 w tp t) (n : Nat) (hn : n < 1048576) (hv : (findT 5 t n).isVal = true) : Calls Tryz.prog 57 #[tp, .int .i64 n] w fun e w' =>
    ∃ b t', e = .returned (.pointer (some ⟨b, 0, none⟩)) ∧ w.heap.size ≤ b ∧ DropT w.heap.size 4 t n t' ∧ ((t' = .nil ∧ ∃ b0, w.heap.size ≤ b0 ∧ TrAt (151, 76) 153 w' (.pointer (some ⟨b, 0, none⟩)) (newT b0)) ∨ (t' ≠ .nil ∧ TrAt (151, 76) 153 w' (.pointer (some ⟨b, 0, none⟩)) t')) ∧ Below w.heap.size w w' := by
  obtain ⟨bo, vo, hg⟩ : ∃ b v, findT 5 t n = .val b v := by
    cases e : findT 5 t n with
    | nil => rw [e] at hv; cases hv
    | val b v => exact ⟨b, v, rfl⟩
    | node b k => rw [e] at hv; cases hv
  have hfi := tfind_any h n
  rw [got_in hn, hg] at hfi
  rcases h.lies with ⟨_, e⟩ | ⟨b, rfl, hb⟩
  · subst e
    rw [find_nil] at hg
    cases hg
  have hlt := (Array.getElem?_eq_some_iff.1 hb).1
  have c0 : w.cell? ⟨b, 0, none⟩ = some t.bp := by rw [cell_of_row _ _ _ _ _ _ hb]; rfl
  have c1 : w.cell? ⟨b, 1, none⟩ = some (.int .i64 (szT t)) := by rw [cell_of_row _ _ _ _ _ _ hb]; rfl
  have c2 : w.cell? ⟨b, 2, none⟩ = some (.int .i64 (cntT t)) := by rw [cell_of_row _ _ _ _ _ _ hb]; rfl
  obtain ⟨hb1, hb2⟩ := h.bounds
  have HWF := hid_mk h.wf
  have HPR := hid_mk h.pr
  have HDR : Hid (∀ w', Below w.heap.size w w' → _) := fun w' hw' => drop_any n 4 (Nat.le_refl _) t w' (h.held.keep hw')
  have HC1 : Hid (∀ w', Below w.heap.size w w' → w'.cell? ⟨b, 1, none⟩ = some (.int .i64 (szT t)) ∧ w'.cell? ⟨b, 2, none⟩ = some (.int .i64 (cntT t))) := fun w' hw' => ⟨(hw'.cell (p := ⟨b, 1, none⟩) hlt).trans c1, (hw'.cell (p := ⟨b, 2, none⟩) hlt).trans c2⟩
  have HC0 : Hid (∀ w', Below w.heap.size w w' → w'.cell? ⟨b, 0, none⟩ = some t.bp) := fun w' hw' => (hw'.cell (p := ⟨b, 0, none⟩) hlt).trans c0
  clear h hn c0 c1 c2 hb
  have hnew := new_any
  obtain ⟨c, hc⟩ : ∃ c, c = cntT t := ⟨_, rfl⟩
  obtain ⟨z, hz⟩ : ∃ z, z = szT t := ⟨_, rfl⟩
  obtain ⟨P, hP⟩ : ∃ P, P = t.bp := ⟨_, rfl⟩
  rw [← hc] at hb2 HC1
  rw [← hz] at hb1 HC1
  rw [← hP] at HC0 HDR
  have HC := hid_mk hc
  have HZ := hid_mk hz
  have HG := hid_mk hg
  clear hc hz hP hg
  go_enter Tryz.func57, Tryz.ntmps57
  go_wp2_with (first | (go_at_call 91; refine hfi.mono ?_; rintro e w1 ⟨rfl, hB1⟩; rw [show (T.val bo vo).vp = .pointer (some ⟨bo, 0, none⟩) from rfl]; have c0 := HC0.out _ hB1) | (go_at_call 92; fail))
  refine (HDR.out _ hB1).mono ?_
  rintro e w2 ⟨t2, rfl, hH2, hD2, hB2⟩
  have hB02 := hB1.trans (hB2.mono hB1.size)
  have HD2 := hid_mk (hD2.mono hB1.size)
  have HV := hid_mk hv
  have hH2' := hid_mk hH2
  clear c0 HC0 hfi hB1 hB2 hv
  rcases hD2.kind with rfl | ⟨b2, k2, rfl⟩
  · clear hD2 hH2
    rw [show T.nil.bp = .pointer none from rfl]
    go_wp2_with (go_at_call 50; refine (hnew _).mono ?_; rintro e w3 ⟨b3, b0, rfl, hb3, hb0, hT3, hB3⟩)
    go_ret
    exact ⟨b3, .nil, rfl, Nat.le_trans hB02.size hb3, HD2.out, .inl ⟨rfl, b0, Nat.le_trans hB02.size hb0, hT3⟩, hB02.trans (hB3.mono hB02.size)⟩
  · clear hD2
    rw [show (T.node b2 k2).bp = .pointer (some ⟨b2, 0, none⟩) from rfl]
    have hwf2 := drop_wf HWF.out HD2.out
    have hway : ∀ w', Below w2.heap.size w2 w' → Calls Tryz.prog 93 #[.pointer (some ⟨b2, 0, none⟩), .int .i64 n] w' fun e w'' => e = .returned (.int .i64 (wayT 5 (.node b2 k2) n)) ∧ Below w2.heap.size w2 w'' := fun w' hw' => (way_any hH2 hwf2 w' hw' n).mono fun e w'' ⟨he, hb⟩ => ⟨he, hw'.trans (hb.mono hw'.size)⟩
    have hwl := way_le 5 (.node b2 k2) n
    obtain ⟨y, hy⟩ : ∃ y, y = wayT 5 (.node b2 k2) n := ⟨_, rfl⟩
    rw [← hy] at hway hwl
    have HY := hid_mk hy
    have hcnt := drop_cnt HWF.out HV.out HD2.out
    have hsz := drop_sz HWF.out HV.out HD2.out
    rw [← HC.out, ← hy] at hcnt
    rw [← HZ.out] at hsz
    have hc5 : 5 ≤ c + y := by omega
    have hz1 : 1 ≤ z := by omega
    have hw1 : IntKind.i64.wrap ((z : Int) - 1) = (z : Int) - 1 := by rw [IntKind.wrap_i64]; omega
    have hw2 : IntKind.i64.wrap ((c : Int) - 5) = (c : Int) - 5 := by rw [IntKind.wrap_i64]; omega
    have hw3 : IntKind.i64.wrap ((c : Int) - 5 + (y : Int)) = (c : Int) - 5 + (y : Int) := by rw [IntKind.wrap_i64]; omega
    have HCN := hid_mk hcnt
    have HSZ := hid_mk hsz
    have full : ∀ w', Below w2.heap.size w2 w' → (w'.cell? ⟨b, 1, none⟩ = some (.int .i64 z) ∧ w'.cell? ⟨b, 2, none⟩ = some (.int .i64 c)) := fun w' hw' => HC1.out w' (hB02.trans (hw'.mono hB02.size))
    have gd : Below w2.heap.size w2 w2.drew := below_drew _ _
    have HF := hid_mk full
    clear hwf2 hy hcnt hsz hH2 HDR HC1 hnew
    go_wp2
    go_region_held3 (fun w' => w'.cell? ⟨b, 1, none⟩ = some (.int .i64 z) ∧ w'.cell? ⟨b, 2, none⟩ = some (.int .i64 c)) (first | exact HF.out _ (by assumption) | exact HF.out _ (balloc (by assumption) _)) (first
      | (go_at_call 93; refine (hway _ ?_).mono ?_; assumption; rintro e w3 ⟨rfl, g3⟩))
    all_goals
      go_wp2
      go_ret
      have hB03 := hB02.trans (g3.mono hB02.size)
      have hal := balloc (Below.refl w3.heap.size w3) (.cells #[.pointer (some ⟨b2, 0, none⟩), .int .i64 ((z : Int) - 1), .int .i64 ((c : Int) - 5 + (y : Int))] 153)
      have hcn := HCN.out
      have hsz := HSZ.out
      refine ⟨w3.heap.size, .node b2 k2, rfl, hB03.size, HD2.out, .inr ⟨(fun e => by cases e), ⟨(hH2'.out.keep g3).keep hal, drop_wf HWF.out HD2.out, (drop_pr HPR.out HD2.out).kids, .inr ⟨_, rfl, ?_⟩⟩⟩, hB03.trans (hal.mono hB03.size)⟩
      rw [show ((szT (.node b2 k2) : Nat) : Int) = (z : Int) - 1 by omega, show ((cntT (.node b2 k2) : Nat) : Int) = (c : Int) - 5 + (y : Int) by omega]
      exact heap_alloc_last _ _

end Go.Proofs.YtdiljkmlneeboaaGreat.N
