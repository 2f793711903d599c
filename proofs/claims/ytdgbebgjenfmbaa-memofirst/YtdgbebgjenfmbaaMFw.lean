/- MemoFirst's walk. -/
import Derived.Test.YtdgbebgjenfmbaaMFc
import Derived.Test.YtdgbebgjenfmbaaMAr
import Derived.Deep.DeepMust
import Derived.Deep.AppendLies
namespace Go.Proofs.Ytdgbebgjenfmbaa.M
open Go.RowKit Go.Shelf
set_option maxRecDepth 100000

set_option maxHeartbeats 16000000 in
theorem first_walk (W : World) {a : Int} (ha : (Lit.int .u64 a).wf = true) {v : Value} {zs : List Ac} (h : AsAt W v zs) : Calls Try.prog 4 #[.int .u64 a, v] W fun q w' => q = .returned (.bool true) ∧ Below W.heap.size W w' := by
  obtain ⟨A, rfl⟩ := u64_nat ha
  clear ha
  obtain ⟨n, hn⟩ : ∃ n, n = A % 40 := ⟨_, rfl⟩
  have hn40 : n < 40 := by have := Nat.mod_lt A (show 0 < 40 by omega); omega
  have t1 : (A : Int).tmod 40 = (n : Int) := by rw [show (40 : Int) = ((40 : Nat) : Int) from rfl, tm_nat, hn]
  have t2 : wrap64 (n : Int) = (n : Int) := by unfold wrap64; omega
  clear hn
  obtain ⟨t, ht⟩ : ∃ t, t = W.heap.size := ⟨_, rfl⟩
  have hnew := new_any (w := W) (n := n) (by omega)
  rw [← ht] at hnew
  have HV : Hid (∀ A, Below t W A → AsAt A v zs) := fun A hA => h.keep (by rw [← ht]; exact hA)
  have HN : Hid (∀ w1 : World, Below t W w1 → (∀ P : Nat → Prop, ¬ P t → ¬ P (t + 1) → P (t + 2) → Tab P w1 t (t + 2) (t + 1) (List.replicate n none)) → FwI t n W (.slice none 0 0) [] (List.replicate n none) w1) := fun w1 hb h => by
    have hT := h (Pv t (.slice none 0 0)) (fun hh => hh.1 rfl) (fun hh => hh.2.1 rfl) ⟨by omega, by omega, by simp [Value.ownBlock]⟩
    exact ⟨List.length_replicate, hT, Fst.zero n, ⟨by simp [InC], .inl ⟨rfl, rfl⟩⟩, fun p hp => absurd hp (List.not_mem_nil), hb⟩
  have HZ : Hid (∀ A, Below t W A → ∀ i, i < zs.length → ∃ z b o, zs[i]? = some z ∧ (∃ va vc, v = .slice va zs.length vc ∧ va = some ⟨b, o, none⟩) ∧ Ac5 A b (o + i * 5) z ∧ ∀ sv, A.cell? ⟨b, o + i * 5 + 4, none⟩ = some sv → ∀ B, Below t W B → SsAt Any B sv z.x.l) := fun A hA i hi => by
    obtain ⟨va, vc, b, o, e1, _, e3, e4⟩ := HV.out A hA
    have hz := List.getElem?_eq_getElem hi
    refine ⟨_, b, o, hz, ⟨va, vc, e1, e3 (by omega)⟩, e4 i _ hz, fun sv hsv B hB => ?_⟩
    obtain ⟨va', vc', b', o', e1', _, e3', e4'⟩ := HV.out B hB
    rw [e3 (by omega)] at e1
    rw [e3' (by omega)] at e1'
    rw [e1] at e1'
    injection e1' with e1' _ _
    injection e1' with e1'
    injection e1' with eb eo
    subst eb eo
    obtain ⟨sv1, s1, _, _, _, _, _, s2⟩ := e4' i _ hz
    obtain ⟨sv0, s0, _, _, _, _, _, s3⟩ := e4 i _ hz
    obtain ⟨va0, vc0, b0, o0, f1, _, f3, f4⟩ := h
    rw [f3 (by omega)] at f1
    rw [e1] at f1
    injection f1 with f1 _ _
    injection f1 with f1
    injection f1 with eb eo
    subst eb eo
    obtain ⟨svw, sw, _, _, _, _, _, s4⟩ := f4 i _ hz
    have hlt := lt_of_cell s4
    have h1 : A.cell? ⟨b, o + i * 5 + 4, none⟩ = some svw := (hA.cell (p := ⟨b, o + i * 5 + 4, none⟩) (by rw [ht]; exact hlt)).trans s4
    have h2 : B.cell? ⟨b, o + i * 5 + 4, none⟩ = some svw := (hB.cell (p := ⟨b, o + i * 5 + 4, none⟩) (by rw [ht]; exact hlt)).trans s4
    rw [hsv] at h1
    rw [s2] at h2
    injection h1 with h1
    injection h2 with h2
    rw [h1, ← h2]
    exact s1
  obtain ⟨va, vc, hv, hNl⟩ : ∃ va vc, v = .slice va zs.length vc ∧ zs.length ≤ 9223372036854775807 := by
    obtain ⟨va, vc, _, _, e1, e2, _⟩ := h
    exact ⟨va, vc, e1, e2⟩
  rw [← ht]
  clear h ht
  subst hv
  go_enter Try.func4, Try.ntmps4
  go_wp2_with (first
    | (go_at_call 10; refine hnew.mono ?_; rintro q w1 ⟨rfl, hb1, hT1⟩; have HI0 := hid_mk (HN.out w1 hb1 hT1); have hli := light_some (HV.out w1 hb1); clear hnew hT1 t1 t2)
    | (go_at_call 8; fail))
  clear HN
  refine hli.mono ?_
  rintro q w2 ⟨lb, rfl, hb2⟩
  have HI2 := hid_mk (HI0.out.keep hb2)
  have hB2 := HI2.out.below
  clear hli HI0 hb1 hb2
  cases lb with
  | false =>
    go_wp2_with (go_at_call 9; refine (lives_any w2).mono ?_; rintro q w3 ⟨rfl, hb3⟩; have HX := hid_mk (hB2.trans (hb3.mono (by have := HI2.out.tab.lt; omega))); clear hb3)
    go_ret
    exact ⟨rfl, HX.out⟩
  | true =>
    clear hB2
    go_wp2
    go_loopw [7, 39] (fun v7 p wr => ∃ (i : Nat) (va7 : Option Addr) (vc7 : Nat) (ps : List (En × Value)) (L : List (Option En)), p = .int .i64 (i : Int) ∧ v7 = .slice va7 ps.length vc7 ∧ i ≤ zs.length ∧ Hid (FwI t n W (.slice va7 ps.length vc7) ps L wr)) (fun _ p _ => zs.length + 1 - (intOf p).toNat)
    case atStart => exact ⟨0, none, 0, [], _, rfl, rfl, Nat.zero_le _, HI2⟩
    case round =>
      clear HI2
      obtain ⟨i, va7, vc7, ps, L, rfl, rfl, hi, HI⟩ := hrel
      by_cases hlt : i < zs.length
      · obtain ⟨z, b, o, hz, ⟨va', vc', e1, e2⟩, hA5, hsv⟩ := HZ.out wr HI.out.below i hlt
        injection e1 with e1 _ e3
        subst e1 e2 e3
        obtain ⟨sv, hS, hlen, c0, c1, c2, c3, c4⟩ := hA5
        have HSV := hid_mk (hsv sv c4)
        have HLN := hid_mk hlen
        obtain ⟨sa, sc, esv⟩ : ∃ sa sc, sv = .slice sa z.x.l.length sc := by
          obtain ⟨sa, sc, _, _, e, _⟩ := hS
          exact ⟨sa, sc, e⟩
        subst esv
        obtain ⟨w5, hw5⟩ : ∃ w5, w5 = wr.alloc (.cells #[.int .i64 z.k, .int .i64 z.i, .int .i64 z.x.e, .int .i64 z.x.d, .slice sa z.x.l.length sc] 33) := ⟨_, rfl⟩
        have hb5 : Below wr.heap.size wr w5 := by rw [hw5]; exact (Below.refl _ wr).alloc (Nat.le_refl _) _
        have hx5 : w5.heap[wr.heap.size]? = some (.cells #[.int .i64 z.k, .int .i64 z.i, .int .i64 z.x.e, .int .i64 z.x.d, .slice sa z.x.l.length sc] 33) := by rw [hw5]; exact heap_alloc_last wr _
        have HI5 := hid_mk (HI.out.keep hb5)
        have hwt : t + 3 ≤ wr.heap.size := by have := HI.out.tab.lt; omega
        have HPN : Hid ((Value.slice va7 ps.length vc7).ownBlock ≠ some wr.heap.size) := fun e => by have := (World.ownsRow.lt HI.out.row _ e).2; omega
        have hps : ps.length ≤ 40 := by have := HI.out.count; omega
        clear hsv hlen hS HI
        have hd : (i : Int) < (zs.length : Int) := by omega
        go_upto_region 9 with fail
        rw [← hw5]
        obtain ⟨pw, hpw⟩ : ∃ pw, pw = wr.heap.size := ⟨_, rfl⟩
        have HPW : Hid (∀ A, Below w5.heap.size w5 A → A.heap[pw]? = some (.cells #[.int .i64 z.k, .int .i64 z.i, .int .i64 z.x.e, .int .i64 z.x.d, .slice sa z.x.l.length sc] 33)) := fun A hA => by
          rw [hpw]
          exact (hA.block _ (Array.getElem?_eq_some_iff.1 hx5).1).trans hx5
        rw [← hpw] at hwt HPN ⊢
        clear hx5 hb5 hw5 hpw c0 c1 c2 c3 c4
        have HROW : Hid (∀ A, Below w5.heap.size w5 A → ∀ j, j < ps.length → ∃ g x sa sc, ps[j]? = some (x, .slice sa x.l.length sc) ∧ va7 = some ⟨g, 0, none⟩ ∧ A.cell? ⟨g, j * 3, none⟩ = some (.int .i64 x.e) ∧ A.cell? ⟨g, j * 3 + 1, none⟩ = some (.int .i64 x.d) ∧ A.cell? ⟨g, j * 3 + 2, none⟩ = some (.slice sa x.l.length sc)) := fun A hA j hj => by
          have hI := HI5.out.keep hA
          obtain ⟨g, c, e1, _, _, h4⟩ := hI.row.parts (by omega)
          injection e1 with e1 _ _
          have hpj := List.getElem?_eq_getElem hj
          obtain ⟨q1, q2, q3⟩ := h4 j _ hpj
          obtain ⟨sa, sc, _, _, e, _⟩ := (hI.lists _ (List.getElem_mem hj)).1 A hI.below
          refine ⟨g, (ps[j]).1, sa, sc, ?_, e1, q1, q2, ?_⟩
          · rw [hpj, ← e]
          · rw [← e]
            exact q3
        have HWZ : Hid (WasI ps z.x.e z.x.d 0 (-1)) := WasI.zero _ _ _
        obtain ⟨ze, hze⟩ : ∃ ze, ze = z.x.e := ⟨_, rfl⟩
        obtain ⟨zd, hzd⟩ : ∃ zd, zd = z.x.d := ⟨_, rfl⟩
        obtain ⟨zn, hzn⟩ : ∃ zn, zn = z.x.l.length := ⟨_, rfl⟩
        rw [← hze, ← hzd] at HWZ
        rw [← hze, ← hzd, ← hzn] at HPW
        have HZE := hid_mk hze
        have HZD := hid_mk hzd
        have HZN := hid_mk hzn
        clear hze hzd hzn
        generalize z.k = zk at *
        generalize z.i = zi at *
        obtain ⟨d0, d1, d2, d3, d4⟩ := box5 (HPW.out w5 (Below.refl _ _))
        go_wp2
        clear d0 d1 d2 d3 d4
        go_loopw [10, 45] (fun a10 p wq => ∃ (j : Nat) (m : Int), p = .int .i64 (j : Int) ∧ a10 = .int .i64 m ∧ j ≤ ps.length ∧ Hid (WasI ps ze zd j m) ∧ Hid (Below w5.heap.size w5 wq)) (fun _ p _ => ps.length + 1 - (intOf p).toNat)
        case atStart => exact ⟨0, -1, rfl, rfl, Nat.zero_le _, HWZ, Below.refl _ _⟩
        case round =>
          clear HWZ
          obtain ⟨j, m, rfl, rfl, hj, HW, HBq⟩ := hrel
          by_cases hjl : j < ps.length
          · obtain ⟨g, x, xa, xc, hpj, e7, c0, c1, c2⟩ := HROW.out wr HBq.out j hjl
            subst e7
            have hd2 : (j : Int) < (ps.length : Int) := by omega
            have hbx : Below w5.heap.size w5 (wr.alloc (.cells #[.int .i64 x.e, .int .i64 x.d, .slice xa x.l.length xc] 31)) := HBq.out.alloc HBq.out.size _
            obtain ⟨k0, k1, k2, k3, k4⟩ := box5 (HPW.out _ hbx)
            have HBX := hid_mk hbx
            have HMS : Hid (¬ Key ze zd x → WasI ps ze zd (j + 1) m) := fun hk => HW.out.miss hpj hk
            have HHT : Hid (Key ze zd x → WasI ps ze zd (j + 1) (j : Int)) := fun hk => WasI.hit hpj hk _
            clear hbx HROW HW hpj
            unfold Key at HMS HHT
            generalize x.l.length = xn at *
            generalize x.e = xe at *
            generalize x.d = xd at *
            by_cases hE : xe = ze
            · have b1 : (xe == ze) = true := by simp [hE]
              by_cases hD : xd = zd
              · have b2 : (xd == zd) = true := by simp [hD]
                have HWN := hid_mk (HHT.out ⟨hE, hD⟩)
                clear HMS HHT hE hD
                go_wp2
                refine ⟨⟨j + 1, _, by go_num, rfl, by omega, HWN, HBX⟩, ?_⟩
                simp only [intOf]
                omega
              · have b2 : (xd == zd) = false := by simp [hD]
                have HWN := hid_mk (HMS.out fun hh => hD hh.2)
                clear HMS HHT hE hD
                go_wp2
                refine ⟨⟨j + 1, _, by go_num, rfl, by omega, HWN, HBX⟩, ?_⟩
                simp only [intOf]
                omega
            · have b1 : (xe == ze) = false := by simp [hE]
              have HWN := hid_mk (HMS.out fun hh => hE hh.1)
              clear HMS HHT hE
              go_wp2
              refine ⟨⟨j + 1, _, by go_num, rfl, by omega, HWN, HBX⟩, ?_⟩
              simp only [intOf]
              omega
          · have hje : j = ps.length := by omega
            subst hje
            have hI := HI5.out.keep HBq.out
            have hwe := HW.out.end
            have hpt := put_q hI.tab hI.len hI.fst z.x (HSV.out wr hI.below) HLN.out (fun b hb => hI.off b hb)
            rw [← HZE.out, ← HZD.out, ← HZN.out] at hpt
            have hpx := HPW.out wr HBq.out
            have hpl := (Array.getElem?_eq_some_iff.1 hpx).1
            obtain ⟨d0, d1, d2, d3, d4⟩ := box5 hpx
            have HIr := hid_mk hI
            have HWE := hid_mk hwe
            clear hI hwe HROW HW HI5 HPW
            go_wp2_with (go_at_call 12; fail)
            clear d0 d1 d2 d3 d4
            refine hpt.mono ?_
            rintro r w6 ⟨q, L', rfl, hL', hT', hk', hF', hq, hhere, hfull⟩
            have hp6 : w6.heap[pw]? = some (.cells #[.int .i64 zk, .int .i64 zi, .int .i64 ze, .int .i64 zd, .slice sa zn sc] 33) := (hk'.block pw hpl (by omega)).trans hpx
            have hsz6 : wr.heap.size ≤ w6.heap.size := hk'.size
            have hcases : (q = true ∧ m < 0 ∧ ps.length < n) ∨ (q = false ∧ m < 0 ∧ ¬ ps.length < n) ∨ (q = false ∧ 0 ≤ m) := by
              rw [List.length_map, ← HZE.out, ← HZD.out] at hq
              rcases HWE.out with ⟨h1, h2⟩ | ⟨h1, y, h2, h3⟩
              · by_cases hln : ps.length < n
                · exact .inl ⟨hq.2 ⟨h2, hln⟩, h1, hln⟩
                · refine .inr (.inl ⟨?_, h1, hln⟩)
                  cases q with
                  | false => rfl
                  | true => exact absurd (hq.1 rfl).2 hln
              · refine .inr (.inr ⟨?_, h1⟩)
                cases q with
                | false => rfl
                | true => exact absurd h3 ((hq.1 rfl).1 y h2)
            clear hpt hpx hpl HBq hq
            have HK' := hid_mk hk'
            have HT' := hid_mk hT'
            clear hk' hT'
            rcases hcases with ⟨rfl, hm, hln⟩ | ⟨rfl, hm, hln⟩ | ⟨rfl, hm⟩
            all_goals first
              | (have hF' : Fst L' (ps.map (·.1) ++ [z.x]) := hF'
                 have hdm : decide (m < 0) = true := decide_eq_true hm
                 have hdl : (ps.length : Int) < (n : Int) := by omega
                 obtain ⟨y8, hy8, hf8⟩ := hhere (.inl rfl)
                 obtain ⟨i0, hi0, hz0, hz1, hz2⟩ := info_parts (P := Try.prog) (e := 31) (z := .agg #[.int .i64 0, .int .i64 0, .slice none 0 0]) (size := 3) (bytes := 40) (by kernel_rfl)
                 have hrow : InO (t + 3) w6 (.slice va7 ps.length vc7) ps := HIr.out.row.keep fun g hg hB => HK'.out.block g hg (by omega)
                 obtain ⟨d0, d1, d2, d3, d4⟩ := box5 hp6
                 have hwt6 : t + 3 ≤ w6.heap.size := by have := HT'.out.lt; omega
                 have hown6 : (w6.alloc (.cells #[.int .i64 ze, .int .i64 zd, .slice sa zn sc] 31)).ownsRow (t + 3) 31 3 (.slice va7 ps.length vc7) ps.length (InC ps) := World.ownsRow.alloc hrow _
                 have hnew6 := World.news_of_block (w := w6.alloc (.cells #[.int .i64 ze, .int .i64 zd, .slice sa zn sc] 31)) (cs := #[.int .i64 ze, .int .i64 zd, .slice sa zn sc]) (t := 31) (fr := (0, 0)) (heap_alloc_last w6 _)
                 have hone6 : ∀ u ∈ [Value.int .i64 ze, .int .i64 zd, .slice sa zn sc], u.oneCell' = true := by simp [Value.oneCell']
                 have hb6 : t + 3 ≤ (w6.alloc (.cells #[.int .i64 ze, .int .i64 zd, .slice sa zn sc] 31)).heap.size := by rw [World.size_alloc]; omega
                 go_upto_region 20 with fail
                 go_upto_region 21 with (at_builtin; go_must (refine wpList_append_own_at _ rfl _ _ 54 rfl (t + 3) 31 i0 _ 3 40 Try.underlying54 hi0 hz0 hz1 hz2 rfl (by decide) _ _ _ rfl hown6 ⟨w6.heap.size, 0, none⟩ 1 1 [.int .i64 ze, .int .i64 zd, .slice sa zn sc] rfl rfl hnew6 hone6 (by unfold maxLen; omega) (by omega) hb6 ?_); intro v8 w8 hown8 hgr8 _ hat8)
                 have hown9 : w8.ownsRow (t + 3) 31 3 v8 (ps.length + 1) (InC ps ++ [.int .i64 z.x.e, .int .i64 z.x.d, .slice sa z.x.l.length sc]) := by rw [← HZE.out, ← HZD.out, ← HZN.out]; exact hown8
                 obtain ⟨hI8, hk8⟩ := HIr.out.app hL' HT'.out HK'.out hF' HSV.out HLN.out hown9 hgr8 hat8
                 have hp8 : w8.heap[pw]? = some (.cells #[.int .i64 zk, .int .i64 zi, .int .i64 ze, .int .i64 zd, .slice sa zn sc] 33) := (hk8.block pw (Array.getElem?_eq_some_iff.1 hp6).1 HPN.out).trans hp6
                 obtain ⟨va8, vc8, e8⟩ := hI8.row.form
                 subst e8
                 obtain ⟨ps8, hps8⟩ : ∃ ps8, ps8 = ps ++ [(z.x, .slice sa z.x.l.length sc)] := ⟨_, rfl⟩
                 rw [← hps8] at hI8 ⊢
                 have HOK : Hid (∃ y, find L' ze zd = .here y) := ⟨y8, by rw [HZE.out, HZD.out]; exact hf8⟩
                 clear hown6 hnew6 hone6 hb6 hown8 hown9 hgr8 hat8 hk8 hps8 hf8 hy8 d0 d1 d2 d3 d4 hi0 hz0 hz1 hz2 hrow hwt6 hdl)
              | (have hdm : decide (m < 0) = true := decide_eq_true hm
                 have hdn : decide ((ps.length : Int) < (n : Int)) = false := decide_eq_false (by omega)
                 have hdg : decide (0 ≤ m) = false := decide_eq_false (by omega)
                 have hI8 : FwI t n W (.slice va7 ps.length vc7) ps L' w6 := HIr.out.put hL' HT'.out HK'.out hF'
                 have hp8 := hp6
                 have hkeyno : ∀ y ∈ ps.map (·.1), ¬ Key z.x.e z.x.d y := by
                   rcases HWE.out with ⟨_, h2⟩ | ⟨h1, _⟩
                   · rw [← HZE.out, ← HZD.out]
                     exact h2
                   · exact absurd h1 (by omega)
                 have HOK : Hid (find L' ze zd = .full) := by
                   have := hfull ⟨rfl, hkeyno⟩
                   rw [← HZE.out, ← HZD.out] at this
                   exact this
                 go_upto_region 21 with fail
                 obtain ⟨w8, hw8⟩ : ∃ w8, w8 = w6 := ⟨_, rfl⟩
                 obtain ⟨ps8, hps8⟩ : ∃ ps8, ps8 = ps := ⟨_, rfl⟩
                 obtain ⟨va8, hva8⟩ : ∃ va8, va8 = va7 := ⟨_, rfl⟩
                 obtain ⟨vc8, hvc8⟩ : ∃ vc8, vc8 = vc7 := ⟨_, rfl⟩
                 rw [← hw8, ← hps8, ← hva8, ← hvc8] at hI8
                 rw [← hw8] at hp8
                 rw [← hw8, ← hps8, ← hva8, ← hvc8]
                 clear hw8 hps8 hva8 hvc8 hkeyno hdn)
              | (have hdm : decide (m < 0) = false := decide_eq_false (by omega)
                 have hdg : decide (0 ≤ m) = true := decide_eq_true hm
                 have hI8 : FwI t n W (.slice va7 ps.length vc7) ps L' w6 := HIr.out.put hL' HT'.out HK'.out hF'
                 have hp8 := hp6
                 have hkey : ∃ y ∈ ps.map (·.1), Key z.x.e z.x.d y := by
                   rcases HWE.out with ⟨h1, _⟩ | ⟨_, h2⟩
                   · exact absurd h1 (by omega)
                   · rw [← HZE.out, ← HZD.out]
                     exact h2
                 have HOK : Hid (∃ y, find L' ze zd = .here y) := by
                   obtain ⟨y, _, hy⟩ := hhere (.inr hkey)
                   rw [← HZE.out, ← HZD.out] at hy
                   exact ⟨y, hy⟩
                 go_upto_region 21 with fail
                 obtain ⟨w8, hw8⟩ : ∃ w8, w8 = w6 := ⟨_, rfl⟩
                 obtain ⟨ps8, hps8⟩ : ∃ ps8, ps8 = ps := ⟨_, rfl⟩
                 obtain ⟨va8, hva8⟩ : ∃ va8, va8 = va7 := ⟨_, rfl⟩
                 obtain ⟨vc8, hvc8⟩ : ∃ vc8, vc8 = vc7 := ⟨_, rfl⟩
                 rw [← hw8, ← hps8, ← hva8, ← hvc8] at hI8
                 rw [← hw8] at hp8
                 rw [← hw8, ← hps8, ← hva8, ← hvc8]
                 clear hw8 hps8 hva8 hvc8 hkey)
            all_goals
              have HI8 := hid_mk hI8
              have HP8 : Hid (∀ A, Below w8.heap.size w8 A → A.heap[pw]? = some (.cells #[.int .i64 zk, .int .i64 zi, .int .i64 ze, .int .i64 zd, .slice sa zn sc] 33)) := fun A hA => (hA.block _ (Array.getElem?_eq_some_iff.1 hp8).1).trans hp8
              have hps8 : ps8.length ≤ 40 := by have := hI8.count; omega
              clear hI8 hp8 hp6 hhere hfull hF' HIr HK' HT' HWE HSV HLN HPN
              clear hwt hL'
              generalize z.x.l.length = zn0 at *
              generalize z.x.e = ze0 at *
              generalize z.x.d = zd0 at *
              go_wp2
              go_loopw [88] (fun p wq => ∃ j : Nat, p = .int .i64 (j : Int) ∧ j ≤ ps8.length ∧ Hid (Below w8.heap.size w8 wq)) (fun p _ => ps8.length + 1 - (intOf p).toNat)
              case atStart => exact ⟨0, rfl, Nat.zero_le _, Below.refl _ _⟩
              case round =>
                obtain ⟨j, rfl, hj, HBq⟩ := hrel
                by_cases hjl8 : j < ps8.length
                · have hIw := HI8.out.keep HBq.out
                  obtain ⟨g, c9, e1, _, _, h4⟩ := hIw.row.parts (by omega)
                  injection e1 with e1 _ e3
                  subst e1 e3
                  have hpj := List.getElem?_eq_getElem hjl8
                  obtain ⟨q1, q2, q3⟩ := h4 j _ hpj
                  have hls := (hIw.lists _ (List.getElem_mem hjl8)).1
                  have hfh := hIw.fst.here _ (List.mem_map.2 ⟨_, List.getElem_mem hjl8, rfl⟩)
                  obtain ⟨⟨x, xv⟩, hpx⟩ : ∃ p, p = ps8[j] := ⟨_, rfl⟩
                  rw [← hpx] at q1 q2 q3 hls hfh
                  have q1 : wr.cell? ⟨g, j * 3, none⟩ = some (.int .i64 x.e) := q1
                  have q2 : wr.cell? ⟨g, j * 3 + 1, none⟩ = some (.int .i64 x.d) := q2
                  have q3 : wr.cell? ⟨g, j * 3 + 2, none⟩ = some xv := q3
                  have hls : ∀ A, Below t W A → SsAt Any A xv x.l := hls
                  have hfh : find L' x.e x.d = .here x := hfh
                  obtain ⟨xa, xc, exv⟩ : ∃ xa xc, xv = .slice xa x.l.length xc := by
                    obtain ⟨sa, sc, _, _, e, _⟩ := hls wr hIw.below
                    exact ⟨sa, sc, e⟩
                  subst exv
                  obtain ⟨wb, hwb⟩ : ∃ wb, wb = wr.alloc (.cells #[.int .i64 x.e, .int .i64 x.d, .slice xa x.l.length xc] 31) := ⟨_, rfl⟩
                  have hbb : Below wr.heap.size wr wb := by rw [hwb]; exact (Below.refl _ wr).alloc (Nat.le_refl _) _
                  have hxb : wb.heap[wr.heap.size]? = some (.cells #[.int .i64 x.e, .int .i64 x.d, .slice xa x.l.length xc] 31) := by rw [hwb]; exact heap_alloc_last wr _
                  have hIb := hIw.keep hbb
                  have hge := get_any (Src.of hIb.tab) hIb.short x.e x.d
                  rw [hfh] at hge
                  obtain ⟨pb, hpb⟩ : ∃ pb, pb = wr.heap.size := ⟨_, rfl⟩
                  have hlb := (Array.getElem?_eq_some_iff.1 hxb).1
                  have HG : Hid (∀ wc v9, StO wb.heap.size wc v9 x.l → Below wb.heap.size wb wc → wc.cell? ⟨pb, 2, none⟩ = some (.slice xa x.l.length xc) ∧ (Calls Try.prog 16 #[v9, .slice xa x.l.length xc] wc fun e w' => e = .returned (.bool true) ∧ Below wc.heap.size wc w') ∧ ∀ wd, Below wc.heap.size wc wd → Below w8.heap.size w8 wd) := fun wc v9 h1 h2 => by
                    refine ⟨by rw [hpb]; exact (box3 ((h2.block _ hlb).trans hxb)).1.2.2, texts_yes h1.ss (hls wc (hIb.keep h2).below), fun wd hd => ?_⟩
                    have hs1 := HBq.out.size
                    have hs2 := hbb.size
                    have hs3 := h2.size
                    exact HBq.out.trans ((hbb.trans ((h2.trans (hd.mono hs3)).mono hs2)).mono hs1)
                  obtain ⟨⟨r0, r1, _⟩, _⟩ := box3 hxb
                  have HWB := hid_mk hwb
                  clear hIw hIb h4 hpj hls hfh hpx hbb hxb hwb
                  have hd2 : (j : Int) < (ps8.length : Int) := by omega
                  go_upto_region 24 with fail
                  rw [← HWB.out]
                  rw [← hpb] at r0 r1 ⊢
                  clear HWB q1 q2 q3 hpb hlb
                  generalize x.l.length = xn at *
                  go_wp2_with (go_at_call 14; fail)
                  refine hge.mono ?_
                  rintro r wc ⟨hbc, v9, rfl, hs9⟩
                  obtain ⟨s2, htx, hBB⟩ := HG.out wc v9 hs9 hbc
                  have HBB := hid_mk hBB
                  obtain ⟨pa9, pc9, e9⟩ := hs9.form
                  subst e9
                  clear hge HG hs9 hbc hBB r0 r1
                  go_wp2_with (go_at_call 16; refine htx.mono ?_; rintro r wd ⟨rfl, hbd⟩; have HBD := hid_mk (HBB.out wd hbd); clear hbd htx)
                  refine ⟨⟨j + 1, by go_num, by omega, HBD⟩, ?_⟩
                  simp only [intOf]
                  omega
                · have hje : j = ps8.length := by omega
                  subst hje
                  have hIw := HI8.out.keep HBq.out
                  obtain ⟨d0, d1, d2, d3, d4⟩ := box5 (HP8.out wr HBq.out)
                  have hge := get_any (Src.of hIw.tab) hIw.short ze zd
                  have husd := hIw.fst.used
                  rw [List.length_map] at husd
                  have HU : Hid (∀ A, Below wr.heap.size wr A → (Calls Try.prog 24 #[.pointer (some ⟨t, 0, none⟩)] A fun r w' => r = .returned (.int .i64 (ps8.length : Int)) ∧ Below A.heap.size A w') ∧ FwI t n W (.slice va8 ps8.length vc8) ps8 L' A) := fun A hA => by
                    have hIA := hIw.keep hA
                    have := used_any (Src.of hIA.tab)
                    rw [husd] at this
                    exact ⟨this, hIA⟩
                  clear hIw husd HI8 HP8
                  first
                    | (obtain ⟨y9, hy9⟩ := HOK.out
                       rw [hy9] at hge
                       clear hy9 HOK
                       go_wp2_with (go_at_call 14; fail)
                       refine hge.mono ?_
                       rintro r wc ⟨hbc, v9, rfl, hs9⟩
                       obtain ⟨pa9, pc9, e9⟩ := hs9.form
                       subst e9
                       obtain ⟨hus, hIc⟩ := HU.out wc hbc
                       have HIC := hid_mk hIc
                       clear hge hs9 hIc HU d0 d1 d2 d3 d4 hbc
                       go_wp2_with (go_at_call 24; refine hus.mono ?_; rintro r wd ⟨rfl, hbd⟩; have HID := hid_mk (HIC.out.keep hbd); clear hus hbd)
                       refine ⟨⟨i + 1, va8, vc8, ps8, L', by go_num, rfl, by omega, HID⟩, ?_⟩
                       simp only [intOf]
                       omega)
                    | (have hok := HOK.out
                       rw [hok] at hge
                       clear hok HOK
                       go_wp2_with (go_at_call 14; fail)
                       refine hge.mono ?_
                       rintro r wc ⟨hbc, rfl⟩
                       obtain ⟨hus, hIc⟩ := HU.out wc hbc
                       have HIC := hid_mk hIc
                       clear hge hIc HU d0 d1 d2 d3 d4 hbc
                       go_wp2_with (go_at_call 24; refine hus.mono ?_; rintro r wd ⟨rfl, hbd⟩; have HID := hid_mk (HIC.out.keep hbd); clear hus hbd)
                       refine ⟨⟨i + 1, va8, vc8, ps8, L', by go_num, rfl, by omega, HID⟩, ?_⟩
                       simp only [intOf]
                       omega)
      · have hie : i = zs.length := by omega
        subst hie
        have HB := hid_mk HI.out.below
        have hlv := lives_any wr
        have hwt : t ≤ wr.heap.size := by have := HI.out.tab.lt; omega
        clear HI HZ HV
        go_wp2_with (go_at_call 9; refine hlv.mono ?_; rintro q w3 ⟨rfl, hb3⟩; have HX := hid_mk (HB.out.trans (hb3.mono hwt)); clear hb3)
        go_ret
        exact ⟨rfl, HX.out⟩
end Go.Proofs.Ytdgbebgjenfmbaa.M
