/- The document's Winners. -/
import Derived.Test.YtmpppijgjbfolaaCRi
import Derived.Test.YtmpppijgjbfolaaCNa
namespace Go.Proofs.Ytmpppijgjbfolaa.C
open Go.RowKit Go.Maps
set_option maxRecDepth 100000

theorem Try.info9s : (Try.prog.info? 9).map (fun i => (i.zero, i.size, i.bytes)) = some (some (.string ⟨#[]⟩), 1, 16) := by kernel_rfl
/-- Names in a row of one's own. -/
def EN (w : World) (S : Nat) (v : Value) (N : List Ky) : Prop := w.ownsRow S 9 1 v N.length (N.map encStr)
theorem EN.at {w : World} {S n c : Nat} {a : Option Addr} {N : List Ky} (h : EN w S (.slice a n c) N) {i : Nat} (hi : i < N.length) : ∃ b, a = some ⟨b, 0, none⟩ ∧ w.cell? ⟨b, i, none⟩ = some (encStr N[i]) := by
  obtain ⟨b, hva⟩ : ∃ b, a = some ⟨b, 0, none⟩ := by
    rcases h.2 with ⟨e, h0⟩ | ⟨g', cap, cur, e, _⟩
    · have : N = [] := by simpa using h0
      rw [this] at hi
      simp at hi
    · cases e
      exact ⟨g', rfl⟩
  subst hva
  have hc := h.cells (g := b) rfl i (encStr N[i]) (by rw [List.getElem?_map, List.getElem?_eq_getElem hi]; rfl)
  simp only [Addr.add_mid, Nat.zero_add] at hc
  exact ⟨b, rfl, hc⟩
theorem EN.grow {w : World} {S m : Nat} {v : Value} {M : List Ky} {k : Ky} {s : ByteArray} {xs : List Value} (hm : m = M.length) (hx : xs = M.map encStr) (hk : s.data.toList = k) (h : w.ownsRow S 9 1 v (m + 1) (xs ++ [.string s])) : EN w S v (M ++ [k]) := by
  unfold EN
  have e : encStr k = .string s := by rw [encStr, ← hk]
  rw [List.length_append, List.map_append, List.map_cons, List.map_nil, e, ← hm, ← hx]
  exact h
/-- One name after another. -/
def RnIn (W : World) (x : Ky) (N : List Ky) (v d : Value) (j : Nat) (wr : World) : Prop := ∃ M dd, (N.take j).foldl (stepN x) ([], false) = (M, dd) ∧ d = .bool dd ∧ M.length ≤ 2 * j ∧ EN wr W.heap.size v M ∧ Below W.heap.size W wr
def RnGo (w : World) (l : List E8) (v : Value) (i : Nat) (wr : World) : Prop := EN wr w.heap.size v (namesO (l.take i)) ∧ Below w.heap.size w wr
def RnOut (w6 : World) (l : List E8) (v : Value) (i : Nat) (wr : World) : Prop := EP wr w6.heap.size v (((namesO l).take i).map (winK l)) ∧ Below w6.heap.size w6 wr
theorem stepN_len (x : Ky) (s : List Ky × Bool) (n : Ky) : (stepN x s n).1.length ≤ s.1.length + 2 := by
  unfold stepN
  split <;> split <;> simp
theorem ltB {a b : ByteArray} : Op.bytesLess a.toList b.toList = decide (a.data.toList < b.data.toList) := by
  rw [ByteArray.toList_eq, ByteArray.toList_eq, bytesLess_eq]
theorem ins_len (x : Ky) : ∀ (N acc : List Ky), (if (N.foldl (stepN x) (acc, false)).2 = true then (N.foldl (stepN x) (acc, false)).1 else (N.foldl (stepN x) (acc, false)).1 ++ [x]).length ≤ acc.length + N.length + 1
  | [], acc => by simp
  | n :: r, acc => by
    rw [List.foldl_cons]
    by_cases hlt : n < x
    · have hne : n ≠ x := fun e => lt_irr x (e ▸ hlt)
      have hs : stepN x (acc, false) n = (acc ++ [n], false) := by simp [stepN, hlt, hne]
      rw [hs]
      have := ins_len x r (acc ++ [n])
      rw [List.length_append, List.length_singleton] at this
      rw [List.length_cons]
      omega
    · have hs : stepN x (acc, false) n = (acc ++ [x] ++ (if n ≠ x then [n] else []), true) := by simp [stepN, hlt]
      rw [hs, stepN_true]
      have h1 := List.length_filter_le (fun n => decide (n ≠ x)) r
      generalize r.filter (fun n => decide (n ≠ x)) = F at *
      by_cases e : n = x
      · simp [e]
        omega
      · simp [e]
        omega
theorem names_snoc (l : List E8) (x : E8) : namesO (l ++ [x]) = insN (ky x) (namesO l) := by simp [namesO, List.foldl_append]
theorem names_len_go : ∀ (l : List E8) (N : List Ky), (l.foldl (fun N e => insN (ky e) N) N).length ≤ N.length + l.length
  | [], N => by simp
  | e :: r, N => by
    rw [List.foldl_cons, List.length_cons]
    have h1 := names_len_go r (insN (ky e) N)
    have h2 := ins_len (ky e) N []
    have h3 : (insN (ky e) N).length ≤ N.length + 1 := by
      unfold insN
      simpa using h2
    omega
theorem names_len (l : List E8) : (namesO l).length ≤ l.length := by
  have := names_len_go l []
  simpa [namesO] using this

set_option maxHeartbeats 8000000 in
theorem rwinners_any {w : World} {a : Option Addr} {c : Nat} {l : List E8} (h : EsAt w a c l) (hL : l.length ≤ 900000) : Calls Try.prog 21 #[.slice a l.length c] w fun e w' => (∃ v, e = .returned v ∧ EP w' w.heap.size v ((namesO l).map (winK l))) ∧ Below w.heap.size w w' := by
  obtain ⟨i0, hi0, hz0, hz1, hz2⟩ := info_parts Try.info29s
  obtain ⟨i9, hi9, hy0, hy1, hy2⟩ := info_parts Try.info9s
  have HH := hid_mk h
  have hcap := h.cap
  have HST : Hid (RnGo w l (.slice none 0 0) 0 w) := ⟨own_nil _ _ _ _, Below.refl _ _⟩
  obtain ⟨n, hn⟩ : ∃ n, n = l.length := ⟨_, rfl⟩
  have HN := hid_mk hn
  rw [← hn] at hcap hL ⊢
  clear h hn
  go_enter Try.func21, Try.ntmps21
  go_wp2
  go_loopw [3, 17] (fun a3 a17 wr => ∃ i : Nat, i ≤ n ∧ a17 = .int .i64 (i : Int) ∧ Hid (RnGo w l a3 i wr)) (fun _ a17 _ => n + 1 - (intOf a17).toNat)
  case atStart => exact ⟨0, Nat.zero_le _, rfl, HST.out⟩
  case round =>
    clear HST
    obtain ⟨i, hi, rfl, HJ⟩ := hrel
    by_cases hlt : i < n
    · have hd : decide ((i : Int) < (n : Int)) = true := decide_eq_true (by omega)
      have hil : i < l.length := by rw [← HN.out]; exact hlt
      obtain ⟨hE, hB⟩ := HJ.out
      obtain ⟨b, off, rfl, hb, c0, c1, c2, c3, c4, c5, c6, c7⟩ := (HH.out.keep hB).at hil
      obtain ⟨x, hx⟩ : ∃ x, x = l[i] := ⟨_, rfl⟩
      rw [← hx] at c0 c1 c2 c3 c4 c5 c6 c7
      have hX0 : l.take (i + 1) = l.take i ++ [x] := by
        rw [hx, List.take_append_getElem]
      have HX : Hid (namesO (l.take (i + 1)) = insN (ky x) (namesO (l.take i))) := by
        show _ = _
        rw [hX0, names_snoc]
      obtain ⟨N, hN⟩ : ∃ N, N = namesO (l.take i) := ⟨_, rfl⟩
      rw [← hN] at hE HX
      have hNl : N.length ≤ 900000 := by
        have := names_len (l.take i)
        rw [List.length_take] at this
        rw [hN]
        omega
      obtain ⟨pa, hpa⟩ : ∃ pa, pa = wr.heap.size := ⟨_, rfl⟩
      obtain ⟨w5, hw5⟩ : ∃ w5, w5 = wr.alloc (.cells #[.string x.n, .string x.v, .int .i64 x.o, .bool x.im, .int .i64 x.a, .int .i64 x.b, .int .i64 x.c, .int .i64 x.k] 29) := ⟨_, rfl⟩
      have hb5 : Below wr.heap.size wr w5 := by rw [hw5]; exact (Below.refl _ _).alloc (Nat.le_refl _) _
      have hx5 : BoxE w5 pa 29 x := by rw [hw5, hpa]; exact heap_alloc_last wr _
      have HE5 : Hid (EN w5 w.heap.size u3 N) := ownsRow_below hE hb5
      have HB5 : Hid (Below w.heap.size w w5) := hB.trans (hb5.mono hB.size)
      have HX5 := hid_mk hx5
      have HP5 : Hid (pa < w5.heap.size) := hx5.lt
      obtain ⟨m, hm⟩ : ∃ m, m = N.length := ⟨_, rfl⟩
      have hu3 : ∃ va vc, u3 = .slice va m vc := by rw [hm]; exact own_slice hE
      obtain ⟨va, vc, rfl⟩ := hu3
      have HM := hid_mk hm
      rw [← hm] at hNl
      have HW5 := hid_mk hw5
      have HIN : Hid (RnIn w5 (ky x) N (.slice none 0 0) (.bool false) 0 w5) := ⟨[], false, rfl, rfl, by simp, own_nil _ _ _ _, Below.refl _ _⟩
      have HKY : Hid (ky x = x.n.data.toList) := rfl
      obtain ⟨kx, hkx⟩ : ∃ kx, kx = ky x := ⟨_, rfl⟩
      rw [← hkx] at HX HIN HKY
      obtain ⟨xn, xv, xo, xi, xa, xb, xc, xk⟩ := x
      dsimp only at *
      have HPA := hid_mk hpa
      clear hE hB hb5 hx5 hx hX0 hN hm HJ hkx hw5 hpa
      go_wp2
      rw [← HW5.out, ← HPA.out]
      go_loopw [6, 7, 23] (fun a6 a7 a23 wr => ∃ j : Nat, j ≤ m ∧ a23 = .int .i64 (j : Int) ∧ Hid (RnIn w5 kx N a6 a7 j wr)) (fun _ _ a23 _ => m + 1 - (intOf a23).toNat)
      case atStart => exact ⟨0, Nat.zero_le _, rfl, HIN.out⟩
      case round =>
        clear HIN
        obtain ⟨j, hj, rfl, HJ⟩ := hrel
        by_cases hjl : j < m
        · have hd2 : decide ((j : Int) < (m : Int)) = true := decide_eq_true (by omega)
          have hjN : j < N.length := by rw [← HM.out]; exact hjl
          obtain ⟨M, dd, hf, rfl, hML, hE, hB⟩ := HJ.out
          have hE5 : EN wr w.heap.size (.slice va m vc) N := ownsRow_below HE5.out hB
          obtain ⟨b2, rfl, hcell⟩ := hE5.at hjN
          have e0 := (HX5.out.keep hB).cells.1
          obtain ⟨k, hk⟩ : ∃ k, k = N[j] := ⟨_, rfl⟩
          obtain ⟨sn, hsn⟩ : ∃ sn : ByteArray, sn = ⟨k.toArray⟩ := ⟨_, rfl⟩
          have hsk : sn.data.toList = k := by rw [hsn]
          have henc : encStr k = .string sn := by rw [hsn, encStr]
          rw [← hk, henc] at hcell
          have hst : (N.take (j + 1)).foldl (stepN kx) ([], false) = stepN kx (M, dd) k := by
            rw [← List.take_append_getElem hjN, List.foldl_append, hf, hk]
            rfl
          obtain ⟨q6, hq6⟩ : ∃ q6, q6 = M.length := ⟨_, rfl⟩
          have hown : wr.ownsRow w5.heap.size 9 1 u6 q6 (M.map encStr) := by rw [hq6]; exact hE
          obtain ⟨ys, hys⟩ : ∃ ys, ys = M.map encStr := ⟨_, rfl⟩
          obtain ⟨va6, vc6, rfl⟩ := own_slice hown
          rw [← hys] at hown
          have hn63 : q6 + 1 ≤ maxLen := by unfold maxLen; omega
          have hsz := hB.size
          have hbl : Op.bytesLess sn.toList xn.toList = decide (k < kx) := by rw [ltB, hsk, HKY.out]
          have hneq : (sn.toList == xn.toList) = decide (k = kx) := by
            rw [ByteArray.toList_eq, ByteArray.toList_eq, hsk, ← HKY.out, Bool.eq_iff_iff, beq_iff_eq, decide_eq_true_iff]
          have HB := hid_mk hB
          have HML := hid_mk hML
          have HQ6 := hid_mk hq6
          have HYS := hid_mk hys
          have HSK := hid_mk hsk
          have hp5 := HP5.out
          have hq7 : q6 ≤ 1800000 := by omega
          clear hE5 hk hsn henc hf hE hB hML hq6 hys hsk HJ
          cases hlt2 : decide (k < kx) with
          | true =>
            have hne : decide (k = kx) = false := decide_eq_false (fun e => lt_irr kx (by have := of_decide_eq_true hlt2; rw [e] at this; exact this))
            have HST : Hid ((N.take (j + 1)).foldl (stepN kx) ([], false) = (M ++ [k], dd)) := by
              rw [Hid, hst, stepN]
              simp [of_decide_eq_true hlt2, of_decide_eq_false hne]
            rw [hlt2] at hbl
            rw [hne] at hneq
            clear hst hlt2 hne
            go_wp2_with (at_builtin; go_must (refine wpList_append_lies _ rfl _ _ _ rfl w5.heap.size 9 i9 _ 1 16 Try.underlying61 hi9 hy0 hy1 hy2 rfl (by omega) (.slice va6 q6 vc6) q6 ys rfl (hown.alloc _) ⟨wr.heap.size, 0, none⟩ 1 1 [.string sn] rfl rfl (World.news_of_block (cs := #[.string sn]) (t := 9) (fr := (0, 0)) (heap_alloc_last wr _)) (by simp [Value.oneCell']) (by omega) hn63 (by omega) (by simp; omega) (wr.heap.size + 1) (by simp) ?_); intro gg cap w8 hown5 hgr5 _ _; have HO_w8 := hid_mk hown5; have HG_w8 := hid_mk hgr5; clear hown5 hgr5)
            have HFIN : Hid (RnIn w5 kx N (.slice (some ⟨gg, 0, none⟩) (q6 + 1) cap) (.bool dd) (j + 1) w8) := ⟨M ++ [k], dd, HST.out, rfl, by have := HML.out; simp; omega, by
              have := EN.grow HQ6.out HYS.out HSK.out HO_w8.out
              have hl : (M ++ [k]).length = q6 + 1 := by rw [List.length_append, ← HQ6.out]; rfl
              exact this, (HB.out.alloc hsz _).grown HG_w8.out (by simp; omega) (fun k hk => (hown.lt k hk).1)⟩
            clear HO_w8 HG_w8 hown HST
            go_wp2
            refine ⟨⟨j + 1, by omega, by simp, HFIN.out⟩, ?_⟩
            simp only [intOf]
            omega
          | false =>
            rw [hlt2] at hbl
            cases hne : decide (k = kx) with
            | true =>
              rw [hne] at hneq
              cases dd with
              | true =>
                have HFIN : Hid (RnIn w5 kx N (.slice va6 q6 vc6) (.bool true) (j + 1) wr) := ⟨M, true, by rw [hst, stepN]; simp [of_decide_eq_true hne], rfl, by have := HML.out; omega, by rw [EN, ← HQ6.out, ← HYS.out]; exact hown, HB.out⟩
                clear hst hlt2 hne hown
                go_wp2
                refine ⟨⟨j + 1, by omega, by simp, HFIN.out⟩, ?_⟩
                simp only [intOf]
                omega
              | false =>
                have HST : Hid ((N.take (j + 1)).foldl (stepN kx) ([], false) = (M ++ [kx], true)) := by
                  rw [Hid, hst, stepN]
                  simp [of_decide_eq_true hne]
                clear hst hlt2 hne
                go_wp2_with (at_builtin; go_must (refine wpList_append_lies _ rfl _ _ _ rfl w5.heap.size 9 i9 _ 1 16 Try.underlying61 hi9 hy0 hy1 hy2 rfl (by omega) (.slice va6 q6 vc6) q6 ys rfl (hown.alloc _) ⟨wr.heap.size, 0, none⟩ 1 1 [.string xn] rfl rfl (World.news_of_block (cs := #[.string xn]) (t := 9) (fr := (0, 0)) (heap_alloc_last wr _)) (by simp [Value.oneCell']) (by omega) hn63 (by omega) (by simp; omega) (wr.heap.size + 1) (by simp) ?_); intro gg cap w8 hown5 hgr5 _ _; have HO_w8 := hid_mk hown5; have HG_w8 := hid_mk hgr5; clear hown5 hgr5; have e8 := (HX5.out.keep ((HB.out.alloc hsz _).grown HG_w8.out (by simp; omega) (fun k hk => (hown.lt k hk).1))).cells.1)
                have HFIN : Hid (RnIn w5 kx N (.slice (some ⟨gg, 0, none⟩) (q6 + 1) cap) (.bool true) (j + 1) w8) := ⟨M ++ [kx], true, HST.out, rfl, by have := HML.out; simp; omega, EN.grow HQ6.out HYS.out HKY.out.symm HO_w8.out, (HB.out.alloc hsz _).grown HG_w8.out (by simp; omega) (fun k hk => (hown.lt k hk).1)⟩
                clear HO_w8 HG_w8 hown HST
                go_wp2
                refine ⟨⟨j + 1, by omega, by simp, HFIN.out⟩, ?_⟩
                simp only [intOf]
                omega
            | false =>
              rw [hne] at hneq
              cases dd with
              | true =>
                have HST : Hid ((N.take (j + 1)).foldl (stepN kx) ([], false) = (M ++ [k], true)) := by
                  rw [Hid, hst, stepN]
                  simp [of_decide_eq_false hne]
                clear hst hlt2 hne
                go_wp2_with (at_builtin; go_must (refine wpList_append_lies _ rfl _ _ _ rfl w5.heap.size 9 i9 _ 1 16 Try.underlying61 hi9 hy0 hy1 hy2 rfl (by omega) (.slice va6 q6 vc6) q6 ys rfl (hown.alloc _) ⟨wr.heap.size, 0, none⟩ 1 1 [.string sn] rfl rfl (World.news_of_block (cs := #[.string sn]) (t := 9) (fr := (0, 0)) (heap_alloc_last wr _)) (by simp [Value.oneCell']) (by omega) hn63 (by omega) (by simp; omega) (wr.heap.size + 1) (by simp) ?_); intro gg cap w8 hown5 hgr5 _ _; have HO_w8 := hid_mk hown5; have HG_w8 := hid_mk hgr5; clear hown5 hgr5)
                have HFIN : Hid (RnIn w5 kx N (.slice (some ⟨gg, 0, none⟩) (q6 + 1) cap) (.bool true) (j + 1) w8) := ⟨M ++ [k], true, HST.out, rfl, by have := HML.out; simp; omega, EN.grow HQ6.out HYS.out HSK.out HO_w8.out, (HB.out.alloc hsz _).grown HG_w8.out (by simp; omega) (fun k hk => (hown.lt k hk).1)⟩
                clear HO_w8 HG_w8 hown HST
                go_wp2
                refine ⟨⟨j + 1, by omega, by simp, HFIN.out⟩, ?_⟩
                simp only [intOf]
                omega
              | false =>
                have HST : Hid ((N.take (j + 1)).foldl (stepN kx) ([], false) = (M ++ [kx] ++ [k], true)) := by
                  rw [Hid, hst, stepN]
                  simp [of_decide_eq_false hlt2, of_decide_eq_false hne]
                clear hst hlt2 hne
                go_upto_region 14 with (at_builtin; go_must (refine wpList_append_lies _ rfl _ _ _ rfl w5.heap.size 9 i9 _ 1 16 Try.underlying61 hi9 hy0 hy1 hy2 rfl (by omega) (.slice va6 q6 vc6) q6 ys rfl (hown.alloc _) ⟨wr.heap.size, 0, none⟩ 1 1 [.string xn] rfl rfl (World.news_of_block (cs := #[.string xn]) (t := 9) (fr := (0, 0)) (heap_alloc_last wr _)) (by simp [Value.oneCell']) (by omega) hn63 (by omega) (by simp; omega) (wr.heap.size + 1) (by simp) ?_); intro gg cap w8 hown5 hgr5 _ _; have HO_w8 := hid_mk hown5; have HG_w8 := hid_mk hgr5; clear hown5 hgr5; have e8 := (HX5.out.keep ((HB.out.alloc hsz _).grown HG_w8.out (by simp; omega) (fun k hk => (hown.lt k hk).1))).cells.1)
                have HE8 : Hid (EN w8 w5.heap.size (.slice (some ⟨gg, 0, none⟩) (q6 + 1) cap) (M ++ [kx])) := EN.grow HQ6.out HYS.out HKY.out.symm HO_w8.out
                have HB8 : Hid (Below w5.heap.size w5 w8) := (HB.out.alloc hsz _).grown HG_w8.out (by simp; omega) (fun k hk => (hown.lt k hk).1)
                have hsz8 := HB8.out.size
                have hl8 : (M ++ [kx]).length = q6 + 1 := by rw [List.length_append, ← HQ6.out]; rfl
                have HL8 : Hid (q6 + 1 = (M ++ [kx]).length) := hl8.symm
                obtain ⟨zs, hzs⟩ : ∃ zs, zs = (M ++ [kx]).map encStr := ⟨_, rfl⟩
                have hown8 := HE8.out
                unfold EN at hown8
                rw [hl8, ← hzs] at hown8
                have HZS := hid_mk hzs
                have hn64 : q6 + 1 + 1 ≤ maxLen := by unfold maxLen; omega
                clear HO_w8 HG_w8 hown hzs hl8 HE8 hsz
                go_wp2_with (at_builtin; go_must (refine wpList_append_lies _ rfl _ _ _ rfl w5.heap.size 9 i9 _ 1 16 Try.underlying61 hi9 hy0 hy1 hy2 rfl (by omega) (.slice (some ⟨gg, 0, none⟩) (q6 + 1) cap) (q6 + 1) zs rfl (hown8.alloc _) ⟨w8.heap.size, 0, none⟩ 1 1 [.string sn] rfl rfl (World.news_of_block (cs := #[.string sn]) (t := 9) (fr := (0, 0)) (heap_alloc_last w8 _)) (by simp [Value.oneCell']) (by omega) hn64 (by omega) (by simp; omega) (w8.heap.size + 1) (by simp) ?_); intro gh cbp w9 hown5 hgr5 _ _; have HO_w9 := hid_mk hown5; have HG_w9 := hid_mk hgr5; clear hown5 hgr5)
                have HFIN : Hid (RnIn w5 kx N (.slice (some ⟨gh, 0, none⟩) (q6 + 1 + 1) cbp) (.bool true) (j + 1) w9) := ⟨M ++ [kx] ++ [k], true, HST.out, rfl, by have := HML.out; simp; omega, EN.grow HL8.out HZS.out HSK.out HO_w9.out, (HB8.out.alloc hsz8 _).grown HG_w9.out (by simp; omega) (fun k hk => (hown8.lt k hk).1)⟩
                clear HO_w9 HG_w9 hown8 HST
                go_wp2
                refine ⟨⟨j + 1, by omega, by simp, HFIN.out⟩, ?_⟩
                simp only [intOf]
                omega
        · have hd2 : decide ((j : Int) < (m : Int)) = false := decide_eq_false (by omega)
          have hjm : j = m := by omega
          subst hjm
          obtain ⟨M, dd, hf, rfl, hML, hE, hB⟩ := HJ.out
          rw [HM.out, List.take_length] at hf
          have hbw : Below w.heap.size w wr := HB5.out.trans (hB.mono HB5.out.size)
          have hSw : w.heap.size ≤ w5.heap.size := HB5.out.size
          obtain ⟨q6, hq6⟩ : ∃ q6, q6 = M.length := ⟨_, rfl⟩
          have hown : wr.ownsRow w5.heap.size 9 1 u6 q6 (M.map encStr) := by rw [hq6]; exact hE
          obtain ⟨ys, hys⟩ : ∃ ys, ys = M.map encStr := ⟨_, rfl⟩
          obtain ⟨va6, vc6, rfl⟩ := own_slice hown
          rw [← hys] at hown
          have HSW := hid_mk hSw
          cases dd with
          | true =>
            have HFIN : Hid (RnGo w l (.slice va6 q6 vc6) (i + 1) wr) := by
              refine ⟨?_, hbw⟩
              have hI : insN kx N = M := by unfold insN; rw [hf]; rfl
              rw [HX.out, hI]
              exact own_mono hE HSW.out
            clear hf hE hB hML hbw hSw hown hq6 hys HJ
            go_wp2
            refine ⟨⟨i + 1, by omega, by simp, HFIN.out⟩, ?_⟩
            simp only [intOf]
            omega
          | false =>
            have hn63 : q6 + 1 ≤ maxLen := by unfold maxLen; omega
            have hsz := hB.size
            have e0 := (HX5.out.keep hB).cells.1
            have HI : Hid (insN kx N = M ++ [kx]) := by
              show insN kx N = _
              unfold insN
              rw [hf]
              rfl
            have HQ6 := hid_mk hq6
            have HYS := hid_mk hys
            have HB := hid_mk hB
            have HBW := hid_mk hbw
            have hq7 : q6 ≤ 1800000 := by omega
            clear hf hE hB hML hbw hSw hq6 hys HJ
            go_wp2_with (at_builtin; go_must (refine wpList_append_lies _ rfl _ _ _ rfl w5.heap.size 9 i9 _ 1 16 Try.underlying61 hi9 hy0 hy1 hy2 rfl (by omega) (.slice va6 q6 vc6) q6 ys rfl (hown.alloc _) ⟨wr.heap.size, 0, none⟩ 1 1 [.string xn] rfl rfl (World.news_of_block (cs := #[.string xn]) (t := 9) (fr := (0, 0)) (heap_alloc_last wr _)) (by simp [Value.oneCell']) (by omega) hn63 (by omega) (by simp; omega) (wr.heap.size + 1) (by simp) ?_); intro gg cap w8 hown5 hgr5 _ _; have HO_w8 := hid_mk hown5; have HG_w8 := hid_mk hgr5; clear hown5 hgr5)
            have HFIN : Hid (RnGo w l (.slice (some ⟨gg, 0, none⟩) (q6 + 1) cap) (i + 1) w8) := by
              have hE9 := EN.grow HQ6.out HYS.out HKY.out.symm HO_w8.out
              refine ⟨?_, HB5.out.trans (((HB.out.alloc hsz _).grown HG_w8.out (by simp; omega) (fun k hk => (hown.lt k hk).1)).mono HB5.out.size)⟩
              rw [HX.out, HI.out]
              exact own_mono hE9 HSW.out
            clear HO_w8 HG_w8 hown
            go_wp2
            refine ⟨⟨i + 1, by omega, by simp, HFIN.out⟩, ?_⟩
            simp only [intOf]
            omega
    · have hd : decide ((i : Int) < (n : Int)) = false := decide_eq_false (by omega)
      have hin : i = n := by omega
      subst hin
      obtain ⟨hE, hB⟩ := HJ.out
      rw [HN.out, List.take_length] at hE
      have hNl : (namesO l).length ≤ 900000 := by
        have := names_len l
        have := HN.out
        omega
      obtain ⟨m, hm⟩ : ∃ m, m = (namesO l).length := ⟨_, rfl⟩
      have hu3 : ∃ va vc, u3 = .slice va m vc := by rw [hm]; exact own_slice hE
      obtain ⟨va, vc, rfl⟩ := hu3
      rw [← hm] at hNl
      obtain ⟨w6, hw6⟩ : ∃ w6, w6 = wr := ⟨_, rfl⟩
      rw [← hw6] at hE hB ⊢
      have HE6 : Hid (EN w6 w.heap.size (.slice va m vc) (namesO l)) := hE
      have HB6 := hid_mk hB
      have HM := hid_mk hm
      have HG6 : Hid (RnOut w6 l (.slice none 0 0) 0 w6) := ⟨own_nil _ _ _ _, Below.refl _ _⟩
      have HHW := HH
      clear hE hB HJ hw6 hm HHW
      go_wp2
      go_loopw [10, 60] (fun a10 a60 wr => ∃ j : Nat, j ≤ m ∧ a60 = .int .i64 (j : Int) ∧ Hid (RnOut w6 l a10 j wr)) (fun _ a60 _ => m + 1 - (intOf a60).toNat)
      case atStart => exact ⟨0, Nat.zero_le _, rfl, HG6.out⟩
      case round =>
        clear HG6
        obtain ⟨j, hj, rfl, HJ⟩ := hrel
        by_cases hjl : j < m
        · have hd2 : decide ((j : Int) < (m : Int)) = true := decide_eq_true (by omega)
          have hjN : j < (namesO l).length := by rw [← HM.out]; exact hjl
          obtain ⟨hE, hB⟩ := HJ.out
          have hE5 : EN wr w.heap.size (.slice va m vc) (namesO l) := ownsRow_below HE6.out hB
          obtain ⟨b2, rfl, hcell⟩ := hE5.at hjN
          obtain ⟨k, hk⟩ : ∃ k, k = (namesO l)[j] := ⟨_, rfl⟩
          obtain ⟨sn, hsn⟩ : ∃ sn : ByteArray, sn = ⟨k.toArray⟩ := ⟨_, rfl⟩
          have hsk : sn.data.toList = k := by rw [hsn]
          have henc : encStr k = .string sn := by rw [hsn, encStr]
          rw [← hk, henc] at hcell
          have hLl : l.length ≤ 900000 := by have := HN.out; omega
          have hA := (HH.out.keep HB6.out).keep hB
          have hwn := rwinner_any hA hLl sn
          rw [nmd_ky, hsk] at hwn
          obtain ⟨x, hx⟩ : ∃ x, x = winK l k := ⟨_, rfl⟩
          have hwx : (winF (l.filter (kyB k)) none).getD zE = x := by rw [hx]; rfl
          rw [hwx] at hwn
          generalize (winF (l.filter (kyB k)) none).isSome = bs at hwn
          rw [← HN.out] at hwn
          obtain ⟨f, hf⟩ : ∃ f, f = ((namesO l).take j).map (winK l) := ⟨_, rfl⟩
          obtain ⟨q, hq⟩ : ∃ q, q = f.length := ⟨_, rfl⟩
          have HX : Hid (((namesO l).take (j + 1)).map (winK l) = f ++ [x]) := by
            show _ = _
            rw [hf, hx, hk, ← List.take_append_getElem hjN, List.map_append]
            rfl
          rw [← hf] at hE
          have hqj : q ≤ j := by
            rw [hq, hf, List.length_map, List.length_take]
            omega
          have hown : wr.ownsRow w6.heap.size 29 8 u10 q (f.flatMap c8) := by rw [hq]; exact hE
          have HFL2 : Hid ((f ++ [x]).flatMap c8 = f.flatMap c8 ++ c8 x ∧ (f ++ [x]).length = q + 1) := ⟨by simp, by simp [hq]⟩
          have hn63 : q + 1 ≤ maxLen := by unfold maxLen; omega
          have hsz := hB.size
          obtain ⟨va8, vc8, rfl⟩ := own_slice hown
          obtain ⟨ys, hys⟩ : ∃ ys, ys = f.flatMap c8 := ⟨_, rfl⟩
          rw [← hys] at hown HFL2
          have HB := hid_mk hB
          have HOWN := hid_mk hown
          unfold E8.val at hwn
          obtain ⟨xn, xv, xo, xi, xa, xb, xc, xk⟩ := x
          dsimp only at *
          clear hE hx hB hys hq hf HJ hk hsn hsk henc hE5 hA hwx hown
          go_wp2_with (go_at_call 19; fail)
          refine hwn.mono ?_
          rintro e wq ⟨rfl, hbq⟩
          have hown := ownsRow_below HOWN.out hbq
          have HBQ : Hid (Below w6.heap.size w6 wq) := HB.out.trans (hbq.mono HB.out.size)
          have hsq := HBQ.out.size
          clear hbq hwn
          go_wp2_with (at_builtin; go_must (refine wpList_append_lies _ rfl _ _ _ rfl w6.heap.size 29 i0 _ 8 80 Try.underlying35 hi0 hz0 hz1 hz2 rfl (by omega) (.slice va8 q vc8) q ys rfl ((hown.alloc _).alloc _) ⟨wq.heap.size + 1, 0, none⟩ 1 1 [.string xn, .string xv, .int .i64 xo, .bool xi, .int .i64 xa, .int .i64 xb, .int .i64 xc, .int .i64 xk] rfl rfl (World.news_of_block (cs := #[.string xn, .string xv, .int .i64 xo, .bool xi, .int .i64 xa, .int .i64 xb, .int .i64 xc, .int .i64 xk]) (t := 29) (fr := (0, 0)) (two_news wq _ _)) (by simp [Value.oneCell']) (by omega) hn63 (by omega) (by simp; omega) (wq.heap.size + 2) (by simp) ?_); intro gg cap w8 hown5 hgr5 _ _; have HO_w8 := hid_mk hown5; have HG_w8 := hid_mk hgr5; clear hown5 hgr5)
          have HFIN : Hid (RnOut w6 l (.slice (some ⟨gg, 0, none⟩) (q + 1) cap) (j + 1) w8) := by
            refine ⟨?_, ((HBQ.out.alloc hsq _).alloc (by simp; omega) _).grown HG_w8.out (by simp; omega) (fun k hk => (hown.lt k hk).1)⟩
            unfold EP
            rw [HX.out, HFL2.out.1, HFL2.out.2]
            exact HO_w8.out
          clear HO_w8 HG_w8 hown
          go_wp2
          refine ⟨⟨j + 1, by omega, by simp, HFIN.out⟩, ?_⟩
          simp only [intOf]
          omega
        · have hd2 : decide ((j : Int) < (m : Int)) = false := decide_eq_false (by omega)
          have hjm : j = m := by omega
          subst hjm
          have HE : Hid (EP wr w.heap.size u10 ((namesO l).map (winK l)) ∧ Below w.heap.size w wr) := by
            have h0 := HJ.out
            unfold RnOut at h0
            rw [HM.out, List.take_length] at h0
            exact ⟨own_mono h0.1 HB6.out.size, HB6.out.trans (h0.2.mono HB6.out.size)⟩
          clear HJ
          go_wp2
          go_ret
          exact ⟨⟨_, rfl, HE.out.1⟩, HE.out.2⟩
end Go.Proofs.Ytmpppijgjbfolaa.C
