/- The document's Chain. -/
import Derived.Test.YtmpppijgjbfolaaCRs
namespace Go.Proofs.Ytmpppijgjbfolaa.C
open Go.RowKit
set_option maxRecDepth 100000

def RcGo (w : World) (l : List E8) (name : ByteArray) (v : Value) (i : Nat) (wr : World) : Prop := EP wr w.heap.size v ((l.take i).filter (nmd name)) ∧ Below w.heap.size w wr
def RcOut (w : World) (s : List E8) (v : Value) (j : Nat) (wr : World) : Prop := EP wr w.heap.size v (s.drop j).reverse ∧ Below w.heap.size w wr

set_option maxHeartbeats 8000000 in
theorem rchain_any {w : World} {a : Option Addr} {c : Nat} {l : List E8} (h : EsAt w a c l) (hL : l.length ≤ 900000) (name : ByteArray) : Calls Try.prog 23 #[.slice a l.length c, .string name] w fun e w' => (∃ v es, e = .returned v ∧ EP w' w.heap.size v es ∧ Fall (tagF (l.filter (nmd name)) 0) es) ∧ Below w.heap.size w w' := by
  obtain ⟨i0, hi0, hz0, hz1, hz2⟩ := info_parts Try.info29s
  have HH := hid_mk h
  have hcap := h.cap
  have HST : Hid (RcGo w l name (.slice none 0 0) 0 w) := ⟨own_nil _ _ _ _, Below.refl _ _⟩
  obtain ⟨n, hn⟩ : ∃ n, n = l.length := ⟨_, rfl⟩
  have HN := hid_mk hn
  rw [← hn] at hcap hL ⊢
  clear h hn
  go_enter Try.func23, Try.ntmps23
  go_wp2
  go_loopw [5, 12] (fun a5 a12 wr => ∃ i : Nat, i ≤ n ∧ a12 = .int .i64 (i : Int) ∧ Hid (RcGo w l name a5 i wr)) (fun _ a12 _ => n + 1 - (intOf a12).toNat)
  case atStart => exact ⟨0, Nat.zero_le _, rfl, HST.out⟩
  case round =>
    clear HST
    obtain ⟨i, hi, rfl, HJ⟩ := hrel
    by_cases hlt : i < n
    · have hd : decide ((i : Int) < (n : Int)) = true := decide_eq_true (by omega)
      have hil : i < l.length := by rw [← HN.out]; exact hlt
      obtain ⟨hE, hB⟩ := HJ.out
      obtain ⟨b, off, rfl, hb, c0, c1, c2, c3, c4, c5, c6, c7⟩ := (HH.out.keep hB).at hil
      obtain ⟨x, hx⟩ : ∃ x, x = l[i] := ⟨_, rfl⟩
      rw [← hx] at c0 c1 c2 c3 c4 c5 c6 c7
      have HX0 : Hid (l.take (i + 1) = l.take i ++ [x]) := by
        show _ = _
        rw [hx, List.take_append_getElem]
      cases hnm : nmd name x with
      | false =>
        have hX : (l.take (i + 1)).filter (nmd name) = (l.take i).filter (nmd name) := by
          rw [HX0.out, List.filter_append]
          simp [hnm]
        have HE : Hid (RcGo w l name u5 (i + 1) (wr.alloc (.cells #[.string x.n, .string x.v, .int .i64 x.o, .bool x.im, .int .i64 x.a, .int .i64 x.b, .int .i64 x.c, .int .i64 x.k] 29))) := by
          unfold RcGo
          rw [hX]
          exact ⟨ownsRow_below hE ((Below.refl _ _).alloc (Nat.le_refl _) _), hB.alloc hB.size _⟩
        unfold nmd at hnm
        clear hX HX0 hx hE hB HJ
        obtain ⟨xn, xv, xo, xi, xa, xb, xc, xk⟩ := x
        dsimp only at *
        go_wp2
        refine ⟨⟨i + 1, by omega, by simp, HE.out⟩, ?_⟩
        simp only [intOf]
        omega
      | true =>
      have hX : (l.take (i + 1)).filter (nmd name) = (l.take i).filter (nmd name) ++ [x] := by
        rw [HX0.out, List.filter_append]
        simp [hnm]
      obtain ⟨f, hf⟩ : ∃ f, f = (l.take i).filter (nmd name) := ⟨_, rfl⟩
      obtain ⟨m, hm⟩ : ∃ m, m = f.length := ⟨_, rfl⟩
      rw [← hf] at hE hX
      have hmi : m ≤ i := by
        rw [hm, hf]
        refine Nat.le_trans (List.length_filter_le _ _) ?_
        rw [List.length_take]
        omega
      have hown : wr.ownsRow w.heap.size 29 8 u5 m (f.flatMap c8) := by rw [hm]; exact hE
      have HFL : Hid ((f ++ [x]).flatMap c8 = f.flatMap c8 ++ c8 x ∧ (f ++ [x]).length = m + 1) := ⟨by simp, by simp [hm]⟩
      have HX := hid_mk hX
      have hn63 : m + 1 ≤ maxLen := by unfold maxLen; omega
      have hsz := hB.size
      obtain ⟨va, vc, rfl⟩ := own_slice hown
      obtain ⟨xs, hxs⟩ : ∃ xs, xs = f.flatMap c8 := ⟨_, rfl⟩
      rw [← hxs] at hown HFL
      unfold nmd at hnm
      obtain ⟨xn, xv, xo, xi, xa, xb, xc, xk⟩ := x
      dsimp only at *
      have HB := hid_mk hB
      clear hE hx hB hX HX0 hxs hm hf HJ
      go_wp2_with (at_builtin; go_must (refine wpList_append_lies _ rfl _ _ _ rfl w.heap.size 29 i0 _ 8 80 Try.underlying35 hi0 hz0 hz1 hz2 rfl (by omega) (.slice va m vc) m xs rfl ((hown.alloc _).alloc _) ⟨wr.heap.size + 1, 0, none⟩ 1 1 [.string xn, .string xv, .int .i64 xo, .bool xi, .int .i64 xa, .int .i64 xb, .int .i64 xc, .int .i64 xk] rfl rfl (World.news_of_block (cs := #[.string xn, .string xv, .int .i64 xo, .bool xi, .int .i64 xa, .int .i64 xb, .int .i64 xc, .int .i64 xk]) (t := 29) (fr := (0, 0)) (two_news wr _ _)) (by simp [Value.oneCell']) (by omega) hn63 (by omega) (by simp; omega) (wr.heap.size + 2) (by simp) ?_); intro gg cap w5 hown5 hgr5 _ _; have HO5 := hid_mk hown5; have HG5 := hid_mk hgr5; clear hown5 hgr5)
      have HFIN : Hid (RcGo w l name (.slice (some ⟨gg, 0, none⟩) (m + 1) cap) (i + 1) w5) := by
        refine ⟨?_, ((HB.out.alloc hsz _).alloc (by simp; omega) _).grown HG5.out (by simp; omega) (fun k hk => (hown.lt k hk).1)⟩
        unfold EP
        rw [HX.out, HFL.out.1, HFL.out.2]
        exact HO5.out
      clear HO5 HG5 hown
      go_wp2
      refine ⟨⟨i + 1, by omega, by simp, HFIN.out⟩, ?_⟩
      simp only [intOf]
      omega
    · have hd : decide ((i : Int) < (n : Int)) = false := decide_eq_false (by omega)
      have hin : i = n := by omega
      subst hin
      obtain ⟨hE, hB⟩ := HJ.out
      rw [HN.out, List.take_length] at hE
      obtain ⟨f, hf⟩ : ∃ f, f = l.filter (nmd name) := ⟨_, rfl⟩
      rw [← hf] at hE
      have HFF := hid_mk hf
      have hfl : f.length ≤ 900000 := by
        rw [hf]
        refine Nat.le_trans (List.length_filter_le _ _) ?_
        rw [← HN.out]
        exact hL
      obtain ⟨a5, c5, rfl, hA⟩ := hE.es
      have hsr := rsort_any hA hfl
      have hcap5 := hA.cap
      have HB := hid_mk hB
      obtain ⟨m, hm⟩ : ∃ m, m = f.length := ⟨_, rfl⟩
      rw [← hm] at hsr hfl hcap5 ⊢
      have HM := hid_mk hm
      clear hE hB hA HJ hf hm
      go_wp2_with (go_at_call 17; fail)
      refine hsr.mono ?_
      rintro e w2 ⟨⟨v2, s, rfl, hsl, hE2, hF2⟩, hB2⟩
      obtain ⟨a2, c2, rfl, hA2⟩ := hE2.es
      have hcap2 := hA2.cap
      have HS : Hid (s.length = m) := hsl
      rw [hsl] at hcap2 ⊢
      have HA2 := hid_mk hA2
      have HB2 : Hid (Below w.heap.size w w2) := HB.out.trans (hB2.mono HB.out.size)
      have HF2 : Hid (Fall (tagF (l.filter (nmd name)) 0) s.reverse) := by rw [← HFF.out]; exact hF2
      have HGO : Hid (RcOut w2 s (.slice none 0 0) m w2) := by
        refine ⟨?_, Below.refl _ _⟩
        rw [← HS.out, List.drop_length]
        exact own_nil _ _ _ _
      have ew : IntKind.i64.wrap ((m : Int) - 1) = (m : Int) - 1 := by rw [IntKind.wrap_i64] <;> omega
      clear hE2 hF2 hB2 hA2 hsl hsr HB HFF
      go_wp2
      clear ew
      go_loopw [8, 9] (fun a8 a9 wr => ∃ j : Nat, j ≤ m ∧ a9 = .int .i64 ((j : Int) - 1) ∧ Hid (RcOut w2 s a8 j wr)) (fun _ a9 _ => (intOf a9 + 1).toNat)
      case atStart => exact ⟨m, Nat.le_refl _, rfl, HGO.out⟩
      case round =>
        clear HGO
        obtain ⟨j, hj, rfl, HJ⟩ := hrel
        cases j with
        | zero =>
          obtain ⟨hE, hB⟩ := HJ.out
          have HE : Hid (EP wr w.heap.size u8 s.reverse ∧ Below w.heap.size w wr) := ⟨by rw [List.drop_zero] at hE; exact own_mono hE HB2.out.size, HB2.out.trans (hB.mono HB2.out.size)⟩
          have hd : decide ((0 : Int) ≤ ((0 : Nat) : Int) - 1) = false := by decide
          clear hE hB HJ
          go_wp2
          go_ret
          exact ⟨⟨_, _, rfl, HE.out.1, HF2.out⟩, HE.out.2⟩
        | succ q =>
          have ei : (((q + 1 : Nat) : Int) - 1) = (q : Int) := by omega
          rw [ei]
          have hd : decide ((0 : Int) ≤ (q : Int)) = true := decide_eq_true (by omega)
          have hqs : q < s.length := by rw [HS.out]; omega
          obtain ⟨hE, hB⟩ := HJ.out
          obtain ⟨b, off, rfl, hb, c0, c1, c2, c3, c4, c5, c6, c7⟩ := (HA2.out.keep hB).at hqs
          obtain ⟨x, hx⟩ : ∃ x, x = s[q] := ⟨_, rfl⟩
          rw [← hx] at c0 c1 c2 c3 c4 c5 c6 c7
          obtain ⟨f2, hf2⟩ : ∃ f2, f2 = (s.drop (q + 1)).reverse := ⟨_, rfl⟩
          obtain ⟨k, hk⟩ : ∃ k, k = f2.length := ⟨_, rfl⟩
          have HX : Hid ((s.drop q).reverse = f2 ++ [x]) := by
            show _ = _
            rw [List.drop_eq_getElem_cons hqs, List.reverse_cons, ← hx, hf2]
          have hkm : k ≤ m := by
            rw [hk, hf2, List.length_reverse, List.length_drop, HS.out]
            omega
          rw [← hf2] at hE
          have hown : wr.ownsRow w2.heap.size 29 8 u8 k (f2.flatMap c8) := by rw [hk]; exact hE
          have HFL : Hid ((f2 ++ [x]).flatMap c8 = f2.flatMap c8 ++ c8 x ∧ (f2 ++ [x]).length = k + 1) := ⟨by simp, by simp [hk]⟩
          have hn63 : k + 1 ≤ maxLen := by unfold maxLen; omega
          have hsz := hB.size
          obtain ⟨va, vc, rfl⟩ := own_slice hown
          obtain ⟨xs, hxs⟩ : ∃ xs, xs = f2.flatMap c8 := ⟨_, rfl⟩
          rw [← hxs] at hown HFL
          have ew : IntKind.i64.wrap ((q : Int) - 1) = (q : Int) - 1 := by rw [IntKind.wrap_i64] <;> omega
          obtain ⟨xn, xv, xo, xi, xa, xb, xc, xk⟩ := x
          dsimp only at *
          have HB := hid_mk hB
          have hqm : q < m := by omega
          clear hE hx hB hxs hk hf2 HJ ei
          go_wp2_with (at_builtin; go_must (refine wpList_append_lies _ rfl _ _ _ rfl w2.heap.size 29 i0 _ 8 80 Try.underlying35 hi0 hz0 hz1 hz2 rfl (by omega) (.slice va k vc) k xs rfl (hown.alloc _) ⟨wr.heap.size, 0, none⟩ 1 1 [.string xn, .string xv, .int .i64 xo, .bool xi, .int .i64 xa, .int .i64 xb, .int .i64 xc, .int .i64 xk] rfl rfl (World.news_of_block (cs := #[.string xn, .string xv, .int .i64 xo, .bool xi, .int .i64 xa, .int .i64 xb, .int .i64 xc, .int .i64 xk]) (t := 29) (fr := (0, 0)) (heap_alloc_last wr _)) (by simp [Value.oneCell']) (by omega) hn63 (by omega) (by simp; omega) (wr.heap.size + 1) (by simp) ?_); intro gg cap w5 hown5 hgr5 _ _; have HO5 := hid_mk hown5; have HG5 := hid_mk hgr5; clear hown5 hgr5)
          have HFIN : Hid (RcOut w2 s (.slice (some ⟨gg, 0, none⟩) (k + 1) cap) q w5) := by
            refine ⟨?_, (HB.out.alloc hsz _).grown HG5.out (by simp; omega) (fun k hk => (hown.lt k hk).1)⟩
            unfold EP
            rw [HX.out, HFL.out.1, HFL.out.2]
            exact HO5.out
          clear HO5 HG5 hown
          go_wp2
          refine ⟨⟨q, by omega, rfl, HFIN.out⟩, ?_⟩
          simp only [intOf]
          omega
end Go.Proofs.Ytmpppijgjbfolaa.C
