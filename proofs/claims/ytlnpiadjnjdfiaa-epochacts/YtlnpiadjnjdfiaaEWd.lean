/- Waiting, at whatever waits. -/
import Derived.Test.YtlnpiadjnjdfiaaEWc
namespace Go.Proofs.Ytlnpiadjnjdfiaa.E
open Go.Shelf Go.RowKit
open Go.MuLone
set_option maxRecDepth 100000

def CopP (w : World) (X : EX) (v : Value) (L : List It) (e : Ending) (w' : World) : Prop := ∃ g c, e = .returned (.slice (some ⟨g, 0, none⟩) L.length c) ∧ w'.ownsRow w.heap.size 48 2 (.slice (some ⟨g, 0, none⟩) L.length c) L.length (L.flatMap c2) ∧ EO w' X v L ∧ Kv X.b v w v w'
set_option maxHeartbeats 1000000 in
theorem copied_any {w : World} {X : EX} {v : Value} {L : List It} (h : EO w X v L) (h0 : 0 < L.length) (hL : L.length ≤ 1000000) : Calls Try.prog 42 #[.pointer (some ⟨X.b, 0, none⟩)] w (CopP w X v L) := by
  obtain ⟨i0, hi0, hz0, hz1, hz2⟩ := info_parts Try.info48s
  have hbx : Bx w X.b X.n X.now X.S 0 v := by have := h.es.bx; rw [h.m] at this; exact this
  have hl := hid_mk (lock_it hbx)
  have H := hid_mk h
  obtain ⟨vg, vc, rfl, _⟩ := h.es.at h0
  have hne : X.b ≠ vg := fun e => h.es.ne (by rw [e]; rfl)
  have hlt : vg < w.heap.size ∧ X.b < w.heap.size := ⟨h.es.lt rfl, h.es.bx.lt⟩
  have hrow := hid_mk h.es.row
  clear h hbx
  go_enter_defers Try.func42, Try.ntmps42
  go_wp2_with (go_at_call 30; fail)
  refine hl.out.mono ?_
  rintro e w1 ⟨⟨v1, rfl⟩, hb1, _, hw1⟩
  have hwt := hb1.waits
  have HB1 := hid_mk hb1
  have hkeep : ∀ k, k ≠ X.b → w1.heap[k]? = w.heap[k]? := fun k hk => by rw [hw1]; exact Below.heap_setCell _ ⟨X.b, 10, none⟩ _ k hk
  have hsz : w1.heap.size = w.heap.size := by rw [hw1]; simp
  have hr1 : w1.ownsRow 0 48 2 (.slice (some ⟨vg, 0, none⟩) L.length vc) L.length (L.flatMap c2) := ownsRow_keep hrow.out fun g _ e => hkeep g (fun e' => hne (by cases e; exact e'.symm))
  have HR1 := hid_mk hr1
  have HW1 := hid_mk hw1
  have HK := hid_mk hkeep
  clear hb1 hw1 hr1 hkeep
  go_wp2_with (at_builtin; refine wpList_append_lies _ rfl _ _ 67 rfl w1.heap.size 48 i0 _ 2 16 Try.underlying67 hi0 hz0 hz1 hz2 rfl (by omega) (.slice none 0 0) 0 [] rfl (own_nil w1 _ 48 2) ⟨vg, 0, none⟩ L.length vc (L.flatMap c2) rfl (by simpa using HR1.out.1) (fun j u hj => HR1.out.cells (g := vg) rfl j u hj) (by intro u hu; obtain ⟨x, _, hx⟩ := List.mem_flatMap.1 hu; exact one2 x u hx) h0 (by unfold maxLen; omega) (by omega) (Nat.le_refl _) _ rfl ?_; intro g c w2 hown hgrow _ hg2)
  rw [Nat.zero_add, List.nil_append] at hown
  rw [hsz] at hown
  have hbel : Below w1.heap.size w1 w2 := ⟨hgrow.os, hgrow.tape, hgrow.output, hgrow.size, fun k hk => hgrow.block k hk (by simp [Value.ownBlock])⟩
  have HB2 := hid_mk (HB1.out.keep (hbel.block X.b HB1.out.lt))
  have HO := hid_mk hown
  have HBL := hid_mk hbel
  clear hown hgrow hbel
  refine leaves_cons (f := 31) (args := #[.pointer (some ⟨X.b, 10, none⟩)]) (by simp) (by simp [go_sem]) ?_
  refine (free_it HB2.out).mono ?_
  rintro e u' w3 ⟨rfl, rfl, hb3, _, hw3⟩
  have hk3 : ∀ k, k ≠ X.b → w3.heap[k]? = w2.heap[k]? := fun k hk => by rw [hw3]; exact Below.heap_setCell _ ⟨X.b, 10, none⟩ _ k hk
  have hrow3 : w3.ownsRow w.heap.size 48 2 (.slice (some ⟨g, 0, none⟩) L.length c) L.length (L.flatMap c2) := ownsRow_keep HO.out fun k _ e => hk3 k (fun e' => by
    have := (HO.out.lt k e).1
    have := hlt.2
    omega)
  have hkx : Kx X.b X.b w w3 := by
    refine ⟨?_, ?_, ?_, ?_, fun k hk h1 _ => ?_⟩
    · rw [hw3]; exact (HBL.out.os).trans (by rw [HW1.out]; rfl)
    · rw [hw3]; exact (HBL.out.tape).trans (by rw [HW1.out]; rfl)
    · rw [hw3]; exact (HBL.out.output).trans (by rw [HW1.out]; rfl)
    · have := HBL.out.size
      rw [hw3]
      simp only [World.size_setCell]
      omega
    · rw [hk3 k h1, HBL.out.block k (by omega), HK.out k h1]
  obtain ⟨q1, q2⟩ := H.out.write hb3 hkx
  exact ⟨_, results_tmp rfl _ _ _, g, c, rfl, hrow3, q1, q2⟩
theorem bt_anti (x y : It) (h1 : bt x y = false) (h2 : bt y x = false) : x = y := by
  rw [bt_no] at h1 h2
  exact Prod.ext (by omega) (by omega)
theorem srt_uniq {l m : List It} (h : l.Perm m) (h1 : Srt l) (h2 : Srt m) : l = m :=
  h.eq_of_pairwise (fun a b _ _ x y => bt_anti a b y x) h1 h2
def WaiP (w : World) (X : EX) (v : Value) (L : List It) (e : Ending) (w' : World) : Prop := ∃ u M, e = .returned u ∧ M.Perm L ∧ Srt M ∧ WAt w.heap.size w' u M ∧ EO w' X v L ∧ Kv X.b v w v w'
theorem waiting_any {w : World} {X : EX} {v : Value} {L : List It} (h : EO w X v L) (hL : L.length ≤ 1000000) : Calls Try.prog 22 #[.pointer (some ⟨X.b, 0, none⟩)] w (WaiP w X v L) := by
  rcases L.eq_nil_or_concat with rfl | ⟨L', x, hx⟩
  · refine (waiting_empty h).mono ?_
    rintro e w' ⟨rfl, h1, h2⟩
    exact ⟨_, [], rfl, List.Perm.nil, List.Pairwise.nil, ⟨none, 0, rfl, (fun g e => by cases e), fun h => absurd h (Nat.lt_irrefl 0)⟩, h1, h2⟩
  · have h0 : 0 < L.length := by rw [hx]; simp
    clear hx
    have hm := hid_mk (made_any h.es.bx.pins h.n1)
    have hc := hid_mk (copied_any h h0 hL)
    have HV : Hid (∀ g, v.ownBlock = some g → g < w.heap.size) := fun g hg => h.es.lt hg
    have HB : Hid (X.b < w.heap.size) := h.es.bx.lt
    clear h
    go_enter Try.func22, Try.ntmps22
    go_wp2_with (go_at_call 29; refine hm.out.mono ?_; rintro e w' ⟨rfl, hw⟩; rw [hw]; clear hw w')
    refine hc.out.mono ?_
    rintro e w1 ⟨g, c, rfl, h1, h2, h3⟩
    have hs := hid_mk (sorted_any h1 h3.size hL)
    have H2 := hid_mk h2
    have H3 := hid_mk h3
    clear h1 h2 h3 hc
    go_wp2_with (go_at_call 43; fail)
    refine hs.out.mono ?_
    rintro e w2 ⟨u, M, rfl, p1, p2, p3, p4⟩
    have HP : Hid (M.Perm L ∧ Srt M ∧ WAt w.heap.size w2 u M ∧ Below w.heap.size w1 w2) := ⟨p1, p2, p3, p4⟩
    clear p1 p2 p3 p4 hs
    go_wp2
    go_ret
    obtain ⟨p1, p2, p3, p4⟩ := HP.out
    have hes := H2.out.es
    refine ⟨u, M, rfl, p1, p2, p3, ⟨⟨hes.bx.keep (p4.block _ HB.out), ownsRow_keep hes.row (fun g _ e => p4.block g (HV.out g e)), hes.ne⟩, H2.out.m, H2.out.n1, H2.out.n8, H2.out.hp⟩, ?_⟩
    have k := H3.out
    exact ⟨p4.os.trans k.os, p4.tape.trans k.tape, p4.output.trans k.output, Nat.le_trans k.size p4.size, fun i hi a b => (p4.block i hi).trans (k.block i hi a b), fun i e => .inl e⟩
end Go.Proofs.Ytlnpiadjnjdfiaa.E
