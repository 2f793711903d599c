/- The tokens of characters, in the second reading. -/
import Derived.Test.YtihdiaklhkecmabRefOne
import Derived.Deep.AppendLies
namespace Go.Proofs.Ytihdiaklhkecmab
open Go.RowKit

theorem Try.info27 : (Try.prog.info? 27).map (fun i => (i.zero, i.size, i.bytes)) = some (some (.agg #[.int .i64 0, .string ⟨#[]⟩, .string ⟨#[]⟩, .bool false, .bool false]), 5, 48) := by kernel_rfl
def Outs (B : Nat) (w : World) (out : Value) (ts : List Tok) : Prop := w.ownsRow B 27 5 out ts.length (ts.flatMap tokCells)
theorem ownsRow_keep {w w' : World} {B : Nat} {e : TypeId} {s : Nat} {v : Value} {n : Nat} {xs : List Value} (h : w.ownsRow B e s v n xs) (hk : ∀ g, g < w.heap.size → v.ownBlock = some g → w'.heap[g]? = w.heap[g]?) : w'.ownsRow B e s v n xs := by
  refine ⟨h.1, ?_⟩
  rcases h.2 with hn | ⟨g, cap, cur, hv, hb, hg, rest⟩
  · exact .inl hn
  · exact .inr ⟨g, cap, cur, hv, hb, (hk g (Array.getElem?_eq_some_iff.1 hg).1 (by rw [hv]; rfl)).trans hg, rest⟩
theorem ownsRow_below {w w' : World} {B : Nat} {e : TypeId} {s : Nat} {v : Value} {n : Nat} {xs : List Value} (h : w.ownsRow B e s v n xs) (hb : Below w.heap.size w w') : w'.ownsRow B e s v n xs :=
  ownsRow_keep h fun g hg _ => hb.block g hg
theorem news5 (w : World) (x0 x1 x2 x3 x4 : Value) (j : Nat) (u : Value) (h : [x0, x1, x2, x3, x4][j]? = some u) : (w.alloc (.cells #[x0, x1, x2, x3, x4] 27)).cell? ((⟨w.heap.size, 0, none⟩ : Addr).add j) = some u :=
  World.news_of_block (cs := #[x0, x1, x2, x3, x4]) (t := 27) (fr := (0, 0)) (heap_alloc_new w _) j u h
theorem toks_at {xs : List Int} {p : Nat} (h : p < xs.length) : toks (xs.drop p) = (oneZ (xs.drop p)).1.toList ++ toks (oneZ (xs.drop p)).2 := by
  rw [drop_hd h, toks_cons]
theorem comment_at {xs : List Int} {p : Nat} (h : standsB [47, 42] (xs.drop p) = true) : oneZ (xs.drop p) = (none, comR (xs.drop (p + 2))) := by
  unfold oneZ
  rw [if_pos h, List.drop_drop]

set_option maxHeartbeats 1000000 in
set_option maxRecDepth 100000 in
theorem rtokens_any {w : World} {v : Value} {xs : List Int} (hv : RowAt .i32 w v xs) (fx : Fine xs) :
    Calls Try.prog 21 #[v] w fun e w' => ∃ out, e = .returned out ∧ Outs w.heap.size w' out (toks xs) ∧ Below w.heap.size w w' := by
  have hl := fx.1
  obtain ⟨i0, hi0, hz0, hz1, hz2⟩ := info_parts Try.info27
  have HH : Hid (RowAt .i32 w v xs ∧ Fine xs) := And.intro hv fx
  obtain ⟨a, cap, rfl, hcap, hcs⟩ := hv
  clear fx hcs
  go_enter Try.func21, Try.ntmps21
  go_wp2
  go_loopw [3, 4] (fun out a4 wr => ∃ (p : Nat) (ts : List Tok), a4 = .int .i64 (p : Int) ∧ wr.ownsRow w.heap.size 27 5 out ts.length (ts.flatMap tokCells) ∧ p ≤ xs.length ∧ Below w.heap.size w wr ∧ ts ++ toks (xs.drop p) = toks xs ∧ ts.length ≤ p) (fun _ a4 _ => xs.length + 1 - (intOf a4).toNat)
  case atStart => exact ⟨0, [], rfl, World.ownsRow_nil _ _ _ _, Nat.zero_le _, Below.refl _ _, rfl, by simp⟩
  case round =>
    obtain ⟨p, ts, rfl, hown, hp, hB, hT, hal⟩ := hrel
    have HT := hid_mk hT
    clear hT
    by_cases hlt : p < xs.length
    · have hst := rstarts_any (w := wr) ⟨#[47, 42]⟩ [47, 42] (by kernel_rfl) (by decide) (HH.out.1.below hB) HH.out.2 p p rfl hp
      have HAT := hid_mk (toks_at hlt)
      cases hs : standsB [47, 42] (xs.drop p)
      · rw [hs] at hst
        have HS := hid_mk hs
        clear hs
        go_wp2_with (go_at_call 29; fail)
        refine (hst).mono ?_
        rintro e w1 ⟨rfl, b1⟩
        have hB1 : Below w.heap.size w w1 := hB.trans (b1.mono hB.size)
        have hown1 := ownsRow_below hown b1
        have hon := rone_any (w := w1.alloc (.cells #[.int .i64 0, .string ⟨#[]⟩, .string ⟨#[]⟩, .bool false, .bool false] 27)) (HH.out.1.below (hB1.alloc hB1.size _)) HH.out.2 p p rfl hlt HS.out
        go_wp2_with (go_at_call 31; fail)
        refine (hon).mono ?_
        rintro e w6 ⟨p6, tk, rr, hone, rfl, hd6, hp6, hp7, b6⟩
        have hB6 : Below w.heap.size w w6 := (hB1.alloc hB1.size _).trans (b6.mono (by have := hB1.size; simp; omega))
        have hblk6 : w6.heap[w1.heap.size]? = some (.cells #[.int .i64 0, .string ⟨#[]⟩, .string ⟨#[]⟩, .bool false, .bool false] 27 (0, 0)) := (b6.block _ (by simp)).trans (heap_alloc_new w1 _)
        have hsz6 : w1.heap.size < w6.heap.size := (Array.getElem?_eq_some_iff.1 hblk6).1
        have hown6 := ownsRow_below (hown1.alloc (.cells #[.int .i64 0, .string ⟨#[]⟩, .string ⟨#[]⟩, .bool false, .bool false] 27)) b6
        have HN : Hid ((ts ++ [tk]) ++ toks (xs.drop p6) = toks xs) := by
          show (ts ++ [tk]) ++ toks (xs.drop p6) = toks xs
          have := HT.out
          rw [HAT.out, hone] at this
          rw [hd6]
          simpa using this
        have HTK : Hid (tokCells tk = [.int .i64 tk.kind, .string (strT tk.text), .string (strT tk.unit), .bool tk.whole, .bool tk.flag]) := rfl
        obtain ⟨k0, k1, k2, k3, k4, f0, f1, f2, f3, f4⟩ := zero_cells hblk6
        have hownS : ∀ y1 y2 y3 y4 y5, (((((w6.setCell ⟨w1.heap.size, 0, none⟩ y1).setCell ⟨w1.heap.size, 1, none⟩ y2).setCell ⟨w1.heap.size, 2, none⟩ y3).setCell ⟨w1.heap.size, 3, none⟩ y4).setCell ⟨w1.heap.size, 4, none⟩ y5).ownsRow w.heap.size 27 5 u3 ts.length (ts.flatMap tokCells) := by
          intro y1 y2 y3 y4 y5
          refine ownsRow_keep hown6 fun g hg hgo => ?_
          have hne : g ≠ w1.heap.size := by
            intro e
            rcases hown1.2 with ⟨hv, _⟩ | ⟨g', cap', cur, hv, _, hg', _⟩
            · rw [hv] at hgo; simp [Value.ownBlock] at hgo
            · rw [hv] at hgo
              simp [Value.ownBlock] at hgo
              have := (Array.getElem?_eq_some_iff.1 hg').1
              omega
          rw [Below.heap_setCell _ _ _ _ hne, Below.heap_setCell _ _ _ _ hne, Below.heap_setCell _ _ _ _ hne, Below.heap_setCell _ _ _ _ hne, Below.heap_setCell _ _ _ _ hne]
        have hBS : ∀ y1 y2 y3 y4 y5, Below w.heap.size w (((((w6.setCell ⟨w1.heap.size, 0, none⟩ y1).setCell ⟨w1.heap.size, 1, none⟩ y2).setCell ⟨w1.heap.size, 2, none⟩ y3).setCell ⟨w1.heap.size, 3, none⟩ y4).setCell ⟨w1.heap.size, 4, none⟩ y5) := by
          intro y1 y2 y3 y4 y5
          have h := hB1.size
          exact ((((hB6.setCell (p := ⟨w1.heap.size, 0, none⟩) h _).setCell (p := ⟨w1.heap.size, 1, none⟩) h _).setCell (p := ⟨w1.heap.size, 2, none⟩) h _).setCell (p := ⟨w1.heap.size, 3, none⟩) h _).setCell (p := ⟨w1.heap.size, 4, none⟩) h _
        have HOS := hid_mk hownS
        have HBS := hid_mk hBS
        clear hownS hBS hone hd6 hon hst
        simp only [tokV]
        generalize tk.kind = y1 at *
        generalize strT tk.text = y2 at *
        generalize strT tk.unit = y3 at *
        generalize tk.whole = y4 at *
        generalize tk.flag = y5 at *
        clear hown hown1 hown6 hB hB1 hB6 b1 b6 hblk6
        go_upto_region 8 with fail
        have hown5 := HOS.out (.int .i64 y1) (.string y2) (.string y3) (.bool y4) (.bool y5)
        have hB5 := HBS.out (.int .i64 y1) (.string y2) (.string y3) (.bool y4) (.bool y5)
        have q0 : (((((w6.setCell ⟨w1.heap.size, 0, none⟩ (.int .i64 y1)).setCell ⟨w1.heap.size, 1, none⟩ (.string y2)).setCell ⟨w1.heap.size, 2, none⟩ (.string y3)).setCell ⟨w1.heap.size, 3, none⟩ (.bool y4)).setCell ⟨w1.heap.size, 4, none⟩ (.bool y5)).cell? ⟨w1.heap.size, 0, none⟩ = some (.int .i64 y1) := by simp [go_sem, k0]
        have q1 : (((((w6.setCell ⟨w1.heap.size, 0, none⟩ (.int .i64 y1)).setCell ⟨w1.heap.size, 1, none⟩ (.string y2)).setCell ⟨w1.heap.size, 2, none⟩ (.string y3)).setCell ⟨w1.heap.size, 3, none⟩ (.bool y4)).setCell ⟨w1.heap.size, 4, none⟩ (.bool y5)).cell? ⟨w1.heap.size, 1, none⟩ = some (.string y2) := by simp [go_sem, k1]
        have q2 : (((((w6.setCell ⟨w1.heap.size, 0, none⟩ (.int .i64 y1)).setCell ⟨w1.heap.size, 1, none⟩ (.string y2)).setCell ⟨w1.heap.size, 2, none⟩ (.string y3)).setCell ⟨w1.heap.size, 3, none⟩ (.bool y4)).setCell ⟨w1.heap.size, 4, none⟩ (.bool y5)).cell? ⟨w1.heap.size, 2, none⟩ = some (.string y3) := by simp [go_sem, k2]
        have q3 : (((((w6.setCell ⟨w1.heap.size, 0, none⟩ (.int .i64 y1)).setCell ⟨w1.heap.size, 1, none⟩ (.string y2)).setCell ⟨w1.heap.size, 2, none⟩ (.string y3)).setCell ⟨w1.heap.size, 3, none⟩ (.bool y4)).setCell ⟨w1.heap.size, 4, none⟩ (.bool y5)).cell? ⟨w1.heap.size, 3, none⟩ = some (.bool y4) := by simp [go_sem, k3]
        have q4 : (((((w6.setCell ⟨w1.heap.size, 0, none⟩ (.int .i64 y1)).setCell ⟨w1.heap.size, 1, none⟩ (.string y2)).setCell ⟨w1.heap.size, 2, none⟩ (.string y3)).setCell ⟨w1.heap.size, 3, none⟩ (.bool y4)).setCell ⟨w1.heap.size, 4, none⟩ (.bool y5)).cell? ⟨w1.heap.size, 4, none⟩ = some (.bool y5) := by simp [go_sem, k4]
        generalize (((((w6.setCell ⟨w1.heap.size, 0, none⟩ (.int .i64 y1)).setCell ⟨w1.heap.size, 1, none⟩ (.string y2)).setCell ⟨w1.heap.size, 2, none⟩ (.string y3)).setCell ⟨w1.heap.size, 3, none⟩ (.bool y4)).setCell ⟨w1.heap.size, 4, none⟩ (.bool y5)) = W at *
        clear k0 k1 k2 k3 k4 f0 f1 f2 f3 f4 HOS HBS
        have HB5 := hid_mk hB5
        have hbs5 := hB5.size
        clear hB5
        go_wp2_with (at_builtin; go_must (refine wpList_append_own _ rfl _ _ 47 rfl w.heap.size 27 i0 _ 5 48 Try.underlying47 hi0 hz0 hz1 hz2 rfl (by decide) _ _ _ rfl (hown5.alloc _) ⟨W.heap.size, 0, none⟩ 1 1 [.int .i64 y1, .string y2, .string y3, .bool y4, .bool y5] rfl rfl (news5 W _ _ _ _ _) (by intro u hu; simp at hu; rcases hu with rfl | rfl | rfl | rfl | rfl <;> rfl) (by unfold maxLen; omega) (by omega) (by simp; omega) ?_); intro v' w7 hown7 hgrow7 _)
        go_roundw
        case rel =>
          refine ⟨p6, ts ++ [tk], rfl, ?_, hp7, (HB5.out.alloc hbs5 _).grown hgrow7 (by simp; omega) (fun k hk => (hown5.lt k hk).1), HN.out, by simp; omega⟩
          rw [List.flatMap_append, List.flatMap_singleton, HTK.out]
          simpa using hown7
        case measure => simp [intOf]; omega
      · rw [hs] at hst
        have h2 : p + 2 ≤ xs.length := by
          rcases stands_lt hs (by decide) with h | h
          · exact h
          · cases h
        have HC := hid_mk (comment_at hs)
        clear hs
        go_wp2_with (go_at_call 29; fail)
        refine (hst).mono ?_
        rintro e w1 ⟨rfl, b1⟩
        have hB1 : Below w.heap.size w w1 := hB.trans (b1.mono hB.size)
        have hcm := rcomment_any (w := w1) (HH.out.1.below hB1) HH.out.2 p p rfl h2
        go_wp2_with (go_at_call 30; fail)
        refine (hcm).mono ?_
        rintro e w2 ⟨p2, rfl, hd2, hp2, hp2', b2⟩
        have hB2 := hB1.trans (b2.mono hB1.size)
        have hown2 := ownsRow_below (ownsRow_below hown b1) b2
        have HD2 := hid_mk hd2
        clear hd2
        go_wp2
        go_roundw
        case rel => exact ⟨p2, ts, rfl, hown2, hp2', hB2, by rw [← HT.out, HAT.out, HC.out, HD2.out]; rfl, by omega⟩
        case measure => simp [intOf]; omega
    · have HNIL := hid_mk (List.drop_eq_nil_of_le (Nat.le_of_not_lt hlt))
      go_wp2
      go_ret
      have h := HT.out
      rw [HNIL.out] at h
      have h2 : ts = toks xs := by
        rw [← h]
        simp [toks, toksF]
      subst h2
      exact ⟨_, rfl, hown, hB⟩
end Go.Proofs.Ytihdiaklhkecmab
