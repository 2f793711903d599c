/- dom.Doc's up: an element, its Parent, and so on. -/
import Derived.Test.YtecbgleidohjpabChdN
import Derived.Deep.LoopGhost
namespace Go.Proofs.Ytecbgleidohjpab.N
open Go.RowKit
set_option maxRecDepth 100000

theorem ownsRow_keep {w w' : World} {B : Nat} {e : TypeId} {s : Nat} {v : Value} {n : Nat} {xs : List Value} (h : w.ownsRow B e s v n xs) (hk : ∀ g, g < w.heap.size → v.ownBlock = some g → w'.heap[g]? = w.heap[g]?) : w'.ownsRow B e s v n xs := by
  obtain ⟨hl, hc⟩ := h
  refine ⟨hl, ?_⟩
  rcases hc with h | ⟨g, cap, cur, rfl, h1, h2, h3, h4, h5, h6⟩
  · exact .inl h
  · exact .inr ⟨g, cap, cur, rfl, h1, (hk g (Array.getElem?_eq_some_iff.1 h2).1 rfl).trans h2, h3, h4, h5, h6⟩
theorem ownsRow_below {w w' : World} {B : Nat} {e : TypeId} {s : Nat} {v : Value} {n : Nat} {xs : List Value} (h : w.ownsRow B e s v n xs) (hb : Below w.heap.size w w') : w'.ownsRow B e s v n xs :=
  ownsRow_keep h fun g hg _ => hb.block g hg
/-- Five stores over an element. -/
theorem NodeAt.set5 {w : World} {g : Nat} {s : N5} (h : NodeAt w g s) (s' : N5) : NodeAt (((((w.setCell ⟨g, 0, none⟩ (.int .i64 s'.id)).setCell ⟨g, 1, none⟩ (.string s'.tag)).setCell ⟨g, 2, none⟩ (.int .i64 s'.par)).setCell ⟨g, 3, none⟩ (.slice s'.ka s'.kn s'.kc)).setCell ⟨g, 4, none⟩ (.slice s'.aa s'.an s'.ac)) g s' := by
  have q0 := heap_setCell_same w g 0 _ 41 (.int .i64 s'.id) h
  have q1 := heap_setCell_same _ g 1 _ 41 (.string s'.tag) q0
  have q2 := heap_setCell_same _ g 2 _ 41 (.int .i64 s'.par) q1
  have q3 := heap_setCell_same _ g 3 _ 41 (.slice s'.ka s'.kn s'.kc) q2
  exact heap_setCell_same _ g 4 _ 41 (.slice s'.aa s'.an s'.ac) q3
theorem Below.set5 {W w : World} {B g : Nat} (h : Below B W w) (hg : B ≤ g) (a0 a1 a2 a3 a4 : Value) : Below B W (((((w.setCell ⟨g, 0, none⟩ a0).setCell ⟨g, 1, none⟩ a1).setCell ⟨g, 2, none⟩ a2).setCell ⟨g, 3, none⟩ a3).setCell ⟨g, 4, none⟩ a4) :=
  ((((h.setCell (p := ⟨g, 0, none⟩) hg a0).setCell (p := ⟨g, 1, none⟩) hg a1).setCell (p := ⟨g, 2, none⟩) hg a2).setCell (p := ⟨g, 3, none⟩) hg a3).setCell (p := ⟨g, 4, none⟩) hg a4
/-- find tells an element, or none: the answer's struct, by what is told of it. -/
def FoundAt (m : M) (n : Int) (s : N5) (err : Int) : Prop := (∃ e, m n = some e ∧ s.id = e.id ∧ s.par = e.par ∧ err = 0) ∨ (m n = none ∧ err = 1)
theorem dom_find_any {w : World} {dp : Value} {m : M} {nx : Int} (h : Dom w dp m nx) (n : Int) : Calls Try.prog 24 #[dp, .int .i64 n] w fun x w' => ∃ (s : N5) (err : Int), x = .returned (.tuple #[.agg #[.int .i64 s.id, .string s.tag, .int .i64 s.par, .slice s.ka s.kn s.kc, .slice s.aa s.an s.ac], .int .i64 err]) ∧ FoundAt m n s err ∧ ElAt w s ((m n).getD zeroEl) ∧ Below w.heap.size w w' := by
  cases e : m n with
  | none =>
    refine (dom_find_none h e).mono ?_
    rintro x w' ⟨rfl, hB⟩
    exact ⟨zeroS, 1, rfl, .inr ⟨e, rfl⟩, zero_el w, hB⟩
  | some el =>
    refine (dom_find h e).mono ?_
    rintro x w' ⟨s, rfl, hE, hB⟩
    exact ⟨s, 0, rfl, .inl ⟨el, e, hE.1, hE.2.2.1, rfl⟩, hE, hB⟩
theorem up_kept {w W W' : World} {g n : Nat} {s : N5} {v : Value} {xs : List Value} (hN : NodeAt W g s) (hB : Below w.heap.size w W) (hown : W.ownsRow w.heap.size 3 1 v n xs) (hg : W.grownBy W' v.ownBlock) : Hid (NodeAt W' g s) ∧ Hid (Below w.heap.size w W') := by
  refine ⟨?_, hid_mk (hB.grown hg hB.size (fun k hk => (hown.lt k hk).1))⟩
  refine (hg.block g (Array.getElem?_eq_some_iff.1 hN).1 fun e => ?_).trans hN
  rcases hown.2 with ⟨rfl, _⟩ | ⟨k, cap, cur, rfl, _, hk, _⟩
  · cases e
  · cases e
    have hN' := hN
    unfold NodeAt at hN'
    rw [hk] at hN'
    cases hN'
set_option maxHeartbeats 2000000 in
theorem up_any {uok : List (ByteArray × ByteArray) → Prop} {w : World} {dp : Value} {m : M} {nx : Int} {d : Int → Nat} (h : Dom w dp m nx) (I : Inv uok m nx d) (n : Int) : Calls Try.prog 41 #[dp, .int .i64 n] w fun x w' => ∃ v, x = .returned v ∧ w'.ownsRow w.heap.size 3 1 v (ups m n).length (intsV (ups m n)) ∧ Below w.heap.size w w' := by
  obtain ⟨i0, hi0, hz0, hz1, hz2⟩ := info_parts Try.info3
  have hfind := dom_find_any h n
  have HF : Hid (∀ W k, Below w.heap.size w W → _) := fun W k hW => dom_find_any (h.keep hW) k
  have HI := hid_mk I
  clear h I
  go_enter Try.func41, Try.ntmps41
  go_wp2_with (go_at_call 24; fail)
  refine hfind.mono ?_
  rintro x w1 ⟨s, err, rfl, hFo, _, hB1⟩
  have HN : Hid (NodeAt (w1.alloc (.cells #[.int .i64 s.id, .string s.tag, .int .i64 s.par, .slice s.ka s.kn s.kc, .slice s.aa s.an s.ac] 41)) w1.heap.size s) := heap_alloc_last w1 _
  have HB : Hid (Below w.heap.size w (w1.alloc (.cells #[.int .i64 s.id, .string s.tag, .int .i64 s.par, .slice s.ka s.kn s.kc, .slice s.aa s.an s.ac] 41))) := hB1.alloc hB1.size _
  have HL : Hid (w.heap.size ≤ w1.heap.size) := hB1.size
  have HFO := hid_mk hFo
  clear hfind hFo hB1
  go_wp2
  go_loopg [5, 6, 7] (ups m n).length (fun kx a5 a6 a7 wr => ∃ (l : List Int) (cur : Int) (g : Nat) (s : N5) (err : Int), a6 = .pointer (some ⟨g, 0, none⟩) ∧ a7 = .int .i64 err ∧ (ups m cur).length ≤ kx ∧ Hid (l ++ ups m cur = ups m n) ∧ Hid (wr.ownsRow w.heap.size 3 1 a5 l.length (intsV l)) ∧ Hid (NodeAt wr g s) ∧ Hid (FoundAt m cur s err) ∧ Hid (Below w.heap.size w wr))
  case atStart => exact ⟨[], n, w1.heap.size, s, err, rfl, rfl, Nat.le_refl _, hid_mk rfl, hid_mk (World.ownsRow_nil _ _ _ _), HN, HFO, HB⟩
  case round =>
    clear HN HB HL HFO
    obtain ⟨l, cur, g, s, err, rfl, rfl, hk, HS, HO, HN, HFO, HB⟩ := hrel
    have hbig : l.length ≤ 600 := by
      have h1 := congrArg List.length HS.out
      rw [List.length_append] at h1
      cases e : m n with
      | none => rw [ups_none e, List.length_nil] at h1; omega
      | some x =>
        have := ups_len HI.out e
        have := HI.out.top e
        omega
    rcases HFO.out with ⟨e, he, hid, hpar, rfl⟩ | ⟨hno, rfl⟩
    · have hups := ups_some HI.out he
      have hide := HI.out.id he
      obtain ⟨⟨k0, k1, k2, k3, k4⟩, _, _, _, _, _, hgl⟩ := HN.out.cells
      have hA1 : Below wr.heap.size wr (wr.alloc (.cells #[.int .i64 s.id] 3)) := (Below.refl _ wr).alloc (Nat.le_refl _) _
      have hrow : RowAt (wr.alloc (.cells #[.int .i64 s.id] 3)) 1 (some ⟨wr.heap.size, 0, none⟩) 1 1 [.int .i64 s.id] := RowAt.one (heap_alloc_last wr _)
      have hown := ownsRow_below HO.out hA1
      have hBs : w.heap.size ≤ (wr.alloc (.cells #[.int .i64 s.id] 3)).heap.size := Nat.le_trans HB.out.size hA1.size
      have HNA : Hid (NodeAt (wr.alloc (.cells #[.int .i64 s.id] 3)) g s) := (hA1.block _ hgl).trans HN.out
      have HBA : Hid (Below w.heap.size w (wr.alloc (.cells #[.int .i64 s.id] 3))) := HB.out.trans (hA1.mono HB.out.size)
      have HU := hid_mk hups
      have HID : Hid (s.id = cur) := hid.trans hide
      have HP := hid_mk hpar
      have HL1 := hid_mk hgl
      clear hA1 hups hide hid hpar HO HN hgl
      go_wp2_with (at_builtin; go_must (refine wpList_append_rowAt rfl _ _ 38 rfl (B := w.heap.size) Try.underlying38 hi0 hz0 hz1 hz2 rfl (by decide) (by decide) rfl rfl hown hrow (by omega) hBs ?_); intro v' w2 hown2 hgrow2 _; have HO2 := hid_mk hown2; have HG2 := hid_mk hgrow2; clear hown2 hgrow2; obtain ⟨HN2, HB2⟩ : Hid (NodeAt w2 g s) ∧ Hid (Below w.heap.size w w2) := up_kept HNA.out HBA.out hown HG2.out; obtain ⟨⟨k0, k1, k2, k3, k4⟩, _, _, _, _, _, hgl⟩ := HN2.out.cells; clear hown hrow hBs)
      obtain ⟨W3, hW3⟩ : ∃ W3, W3 = w2.alloc (.cells #[.int .i64 s.id, .string s.tag, .int .i64 s.par, .slice s.ka s.kn s.kc, .slice s.aa s.an s.ac] 41) := ⟨_, rfl⟩
      have hB3 : Below w2.heap.size w2 W3 := by rw [hW3]; exact (Below.refl _ _).alloc (Nat.le_refl _) _
      have hN3 : NodeAt W3 w2.heap.size s := by rw [hW3]; exact heap_alloc_last w2 _
      have hfi := HF.out W3 s.par (HB2.out.trans (hB3.mono HB2.out.size))
      have HW3 := hid_mk hW3
      clear hW3
      go_wp2_with (go_at_call 24; fail)
      rw [← HW3.out]
      refine hfi.mono ?_
      rintro x w4 ⟨s4, err4, rfl, hF4, _, hB4⟩
      have HB5 : Hid (Below w2.heap.size w2 w4) := hB3.trans (hB4.mono hB3.size)
      have hN4 : NodeAt w4 w2.heap.size s := (hB4.block _ (Array.getElem?_eq_some_iff.1 hN3).1).trans hN3
      have HN4 := hid_mk hN4
      obtain ⟨⟨y0, y1, y2, y3, y4⟩, x0, x1, x2, x3, x4, xl⟩ := hN4.cells
      have HF4 := hid_mk hF4
      clear hfi hB3 hN3 hF4 hB4 hN4
      go_wp2
      go_roundg (ups m e.par).length
      case measure => rw [HU.out, List.length_cons] at hk; omega
      case rel =>
        have h1 : (l ++ [cur]) ++ ups m e.par = ups m n := by
          have := HS.out
          rw [HU.out] at this
          simpa using this
        have h2 := HO2.out
        rw [HID.out] at h2
        have h3 : intsV (l ++ [cur]) = intsV l ++ [.int .i64 cur] := by simp [intsV]
        have h4 : (l ++ [cur]).length = l.length + 1 := by simp
        have hF := HF4.out
        rw [HP.out] at hF
        have hB6 := Below.set5 HB5.out (Nat.le_refl _) (.int .i64 s4.id) (.string s4.tag) (.int .i64 s4.par) (.slice s4.ka s4.kn s4.kc) (.slice s4.aa s4.an s4.ac)
        refine ⟨l ++ [cur], e.par, w2.heap.size, s4, err4, rfl, rfl, Nat.le_refl _, hid_mk h1, ?_, hid_mk (HN4.out.set5 s4), hid_mk hF, hid_mk (HB2.out.trans (hB6.mono HB2.out.size))⟩
        rw [h3, h4]
        exact hid_mk (ownsRow_below h2 hB6)
    · go_wp2
      go_ret
      have h1 := HS.out
      rw [ups_none hno, List.append_nil] at h1
      exact ⟨_, rfl, by rw [← h1]; exact HO.out, HB.out⟩

end Go.Proofs.Ytecbgleidohjpab.N
