/- What a selector asks, told to a closure that appends. -/
import Derived.Test.YtdiljkmlneeboaaSam
namespace Go.Proofs.Ytdiljkmlneeboaa
open Go.RowKit
set_option maxRecDepth 100000

/-- What a call that appends to a variable's slice keeps. -/
structure KeepB (b B : Nat) (w w' : World) : Prop where
  os : w'.os = w.os
  tape : w'.tape = w.tape
  output : w'.output = w.output
  size : w.heap.size ≤ w'.heap.size
  block : ∀ j, j < B → j ≠ b → w'.heap[j]? = w.heap[j]?

theorem OwnK.off {w w' : World} {B : Nat} {v : Value} {l : List Nat} (h : OwnK w B v l) (hb : ∀ j, B ≤ j → w'.heap[j]? = w.heap[j]?) : OwnK w' B v l := by
  obtain ⟨h1, h2⟩ := h
  refine ⟨h1, h2.imp id fun ⟨g, cap, cur, a, b, c, d⟩ => ⟨g, cap, cur, a, b, (hb g b).trans c, d⟩⟩

set_option maxHeartbeats 1000000 in
theorem tellK {w : World} {b B : Nat} {v : Value} {l : List Nat} (h : w.heap[b]? = some (.cells #[v] 40 (0, 0))) (ho : OwnK w B v l) (hb : b < B) (hB : B ≤ w.heap.size) (hl : l.length ≤ 1000000) (k : Nat) :
    Calls Try.prog 27 #[.int .u32 (k : Nat), .pointer (some ⟨b, 0, none⟩)] w fun e w' => e = .returned (.tuple #[]) ∧ (∃ v', w'.heap[b]? = some (.cells #[v'] 40 (0, 0)) ∧ OwnK w' B v' (l ++ [k])) ∧ KeepB b B w w' := by
  obtain ⟨i0, z0, hi, hz0, hz1, hz2, hz3⟩ := info25
  have hbl : b < w.heap.size := (Array.getElem?_eq_some_iff.1 h).1
  have c0 : w.cell? ⟨b, 0, none⟩ = some v := cellAt h 0
  have hown : (w.alloc (.cells #[.int .u32 (k : Int)] 25)).ownsRow B 25 1 v l.length (keysV l) := (ho.keep ((Below.refl _ _).alloc (Nat.le_refl _) _) : OwnK _ _ _ _)
  obtain ⟨a, c, rfl, hlc, hcm, _⟩ := ho.at
  have HH := hid_mk h
  have HO := hid_mk ho
  clear h ho
  go_enter Try.func27, Try.ntmps27
  go_wp2_with (at_builtin; with_reducible refine wpList_append_own _ rfl _ _ 40 rfl B 25 i0 z0 1 4 Try.underlying40 hi hz0 hz1 hz2 hz3 (by decide) (.slice a l.length c) l.length (keysV l) rfl hown ⟨w.heap.size, 0, none⟩ 1 1 [.int .u32 ((k : Nat) : Int)] rfl rfl (one_cell w k) ?c1 ?c2 ?c3 ?c4 ?_)
  case c1 => intro u hu; rw [List.mem_singleton.1 hu]; rfl
  case c2 => unfold maxLen; omega
  case c3 => omega
  case c4 => simp; omega
  intro v' w2 ho2 hg _
  have hO2 : OwnK w2 B v' (l ++ [k]) := own_more ho2
  have hblk : ∀ j, j < B → w2.heap[j]? = w.heap[j]? := fun j hj => by
    rw [hg.block j (by simp; omega) (fun e => by have := (hown.lt j e.symm).1; omega), Below.heap_alloc _ _ _ (by omega)]
  have hb2 : w2.heap[b]? = some (.cells #[.slice a l.length c] 40 (0, 0)) := (hblk b hb).trans HH.out
  have hos : w2.os = w.os := hg.os
  have hta : w2.tape = w.tape := hg.tape
  have hou : w2.output = w.output := hg.output
  have hsz : w.heap.size ≤ w2.heap.size := Nat.le_trans (by simp) hg.size
  have m0 : w2.cell? ⟨b, 0, none⟩ = some (.slice a l.length c) := cellAt hb2 0
  have m1 : w2.frozen? ⟨b, 0, none⟩ = false := by simp [World.frozen?, hb2]
  have HB2 := hid_mk hb2
  have HO2 := hid_mk hO2
  have HBK := hid_mk hblk
  clear ho2 hg hb2 hown c0 HH hi hz0 hz1 hz2 hz3 hblk hO2
  obtain ⟨a', c', rfl, hlc', hcm', _⟩ := HO2.out.at
  have HLN : Hid ((l ++ [k]).length = l.length + 1) := by rw [Hid, List.length_append, List.length_singleton]
  rw [HLN.out] at HO2 hlc' ⊢
  go_wp2
  have hset : ∀ j, j ≠ b → (w2.setCell ⟨b, 0, none⟩ (.slice a' (l.length + 1) c')).heap[j]? = w2.heap[j]? := fun j hj => Below.heap_setCell _ _ _ _ hj
  refine bodyPost_end (v := .tuple #[]) (by simp [results, Try.results27, go_sem]) rfl ⟨rfl, ⟨.slice a' (l.length + 1) c', ?_, ?_⟩, ⟨hos, hta, hou, by simpa using hsz, fun j hj hn => (hset j hn).trans (HBK.out j hj)⟩⟩
  · rw [set_at 0 _ _ HB2.out]
    rfl
  · exact HO2.out.off fun j hj => hset j (by omega)

set_option maxHeartbeats 4000000 in
theorem asksH_27 {J : List Nat → World → Prop} (HJ : Hid (∀ l w w', J l w → Below w.heap.size w w' → J l w')) {pv cv : Value} {c : Cx} {bc oc bp op : Nat} {qv : Nat → Value} {bq oq : Nat → Nat} {lv : Nat → Nat → Value}
    (HD : Hid (∀ l w, J l w → CxAt (ClAt w) w pv cv c bc oc bp op qv bq oq lv)) (HN : Hid (∀ p ∈ c.parts, ∀ x ∈ p, x.1.nm.size ≤ 140737488351232)) (hlc : c.parts.length ≤ 100000000000000) {b : Nat}
    {N : Nat} (HT : Hid (∀ l w k, k < 4294967296 → l.length ≤ N → J l w → Calls Try.prog 27 #[.int .u32 ((k : Nat) : Int), .pointer (some ⟨b, 0, none⟩)] w fun e w' => e = .returned (.tuple #[]) ∧ J (l ++ [k]) w'))
    {w : World} {l : List Nat} (hN : l.length + (asksL c).length ≤ N) (h : J l (w.alloc (.cells #[pv, cv] 36))) (HXJ : Hid (∀ l W, J l W → W.heap[w.heap.size]? = some (.cells #[pv, cv] 36 (0, 0)))) : Calls Try.prog 24 #[.agg #[pv, cv], .func (.func 27) #[] #[.pointer (some ⟨b, 0, none⟩)]] w fun e w' => e = .returned (.tuple #[]) ∧ J (l ++ asksL c) w' := by
  have hd := HD.out l _ h
  have HNN := hid_mk hN
  clear hN
  obtain ⟨ca, cc, rfl, hcn, hcm, _⟩ := hd.cs
  obtain ⟨pa, pc, rfl, hpn, hpm, _⟩ := hd.ps
  obtain ⟨w0, hw0⟩ : ∃ w0, w0 = w.alloc (.cells #[.slice pa c.parts.length pc, .slice ca c.combs.length cc] 36) := ⟨_, rfl⟩
  have hB0 : Below w.heap.size w w0 := by rw [hw0]; exact (Below.refl _ _).alloc (Nat.le_refl _) _
  have HX0 : Hid (w0.heap[w.heap.size]? = some (.cells #[.slice pa c.parts.length pc, .slice ca c.combs.length cc] 36 (0, 0))) := by rw [Hid, hw0]; exact heap_alloc_last w _
  have HJ0 : Hid (J l w0) := by rw [Hid, hw0]; exact h
  have HBC : Hid (∀ W : World, W.heap[w.heap.size]? = some (.cells #[.slice pa c.parts.length pc, .slice ca c.combs.length cc] 36 (0, 0)) → W.cell? ⟨w.heap.size, 0, none⟩ = some (.slice pa c.parts.length pc) ∧ W.cell? ⟨w.heap.size, 1, none⟩ = some (.slice ca c.combs.length cc)) := fun W hW => ⟨cellAt hW 0, cellAt hW 1⟩
  have HW0 := hid_mk hw0
  by_cases hl : c.combs.length + 1 = c.parts.length
  · have HL : Hid (asksL c = (List.range c.combs.length).flatMap (asksI c)) := by rw [Hid]; unfold asksL; rw [if_pos hl]
    have hne : ((c.combs.length : Int) != (c.parts.length : Int) - 1) = false := by
      rw [bne_eq_false_iff_eq]; omega
    have HCS := hid_mk hd.cs
    have HPS := hid_mk hd.ps
    have HHL := hid_mk hl
    have hcl : c.combs.length ≤ 100000000000000 := by omega
    obtain ⟨b0, b1⟩ := HBC.out w0 HX0.out
    clear hl hd h
    go_enter Try.func24, Try.ntmps24
    go_upto_region 1 with (fail)
    rw [← HW0.out]
    clear hw0 HW0 hB0
    go_wp2
    clear b0 b1
    go_loopw [19] (fun a19 wq => ∃ i : Nat, i ≤ c.combs.length ∧ a19 = .int .i64 (i : Int) ∧ Hid (J (l ++ (List.range i).flatMap (asksI c)) wq) ∧ Hid (wq.heap[w.heap.size]? = some (.cells #[.slice pa c.parts.length pc, .slice ca c.combs.length cc] 36 (0, 0)))) (fun a19 _ => c.combs.length + 1 - (intOf a19).toNat)
    case atStart => exact ⟨0, Nat.zero_le _, rfl, by simpa using HJ0, HX0⟩
    case round =>
      obtain ⟨i, hi, rfl, HJi, HXi⟩ := hrel
      clear HJ0 HX0
      by_cases hil : i < c.combs.length
      · have hdi := HD.out _ _ HJi.out
        obtain ⟨_, _, e1, _, _, hca⟩ := HCS.out
        obtain ⟨rfl, _⟩ : ca = some ⟨bc, oc, none⟩ ∧ True := by cases e1; exact ⟨(hca (by omega)).1, trivial⟩
        have q1 := hdi.cc i hil
        have hip : i < c.parts.length := by have := HHL.out; omega
        obtain ⟨_, _, e2, _, _, hpa⟩ := HPS.out
        obtain ⟨rfl, _⟩ : pa = some ⟨bp, op, none⟩ ∧ True := by cases e2; exact ⟨(hpa (by omega)).1, trivial⟩
        have q2 := hdi.pc i hip
        obtain ⟨qa, qc, e3, hqn, hqm, hqa⟩ := hdi.qs i hip
        rw [e3] at q2
        obtain ⟨p, hp⟩ : ∃ p, p = c.parts[i] := ⟨_, rfl⟩
        rw [← hp] at q2 hqn hqa
        have HAI : Hid (asksI c i = if c.combs[i] = 1 ∨ c.combs[i] = 2 then keysP p else []) := by
          rw [Hid]
          unfold asksI
          rw [List.getD_eq_getElem?_getD, List.getElem?_eq_getElem hil, List.getD_eq_getElem?_getD, List.getElem?_eq_getElem hip, hp]
          rfl
        have HRF : Hid ((List.range (i + 1)).flatMap (asksI c) = (List.range i).flatMap (asksI c) ++ asksI c i) := range_flat i
        have HPN : Hid (∀ t (h : t < p.length), p[t].1.nm.size ≤ 140737488351232) := fun t h => HN.out p (by rw [hp]; exact List.getElem_mem hip) _ (List.getElem_mem h)
        have HQA := hid_mk hqa
        have HQD : Hid (∀ L W, J L W → ∀ t (h : t < p.length), ∀ y u, (s7 p[t].1 (lv i t))[y]? = some u → W.cell? ⟨bq i, oq i + t * 7 + y, none⟩ = some u) := fun L W hJW t h y u hu => by
          subst hp
          exact (HD.out L W hJW).qc i hip t h y u hu
        have HLS : Hid (∀ t, t < p.length → ∃ la ln lc, lv i t = .slice la ln lc) := fun t h => by
          subst hp
          obtain ⟨_, _, ⟨la, lc, e, _⟩, _⟩ := (hdi.ls i hip t h).at
          exact ⟨la, _, lc, e⟩
        have hpl : p.length ≤ 9223372036854775807 := by omega
        obtain ⟨b0, b1⟩ := HBC.out wr HXi.out
        clear hdi hca hpa e1 e2 e3 hp hqa HN HCS HPS HD
        obtain ⟨cb, hcb⟩ : ∃ cb, cb = c.combs[i] := ⟨_, rfl⟩
        rw [← hcb] at q1 HAI
        clear hcb
        by_cases hcc : cb = 1 ∨ cb = 2
        · have HAE : Hid (asksI c i = keysP p) := by rw [Hid, HAI.out, if_pos hcc]
          clear HAI
          go_upto_region 5 with (fail)
          go_cut [29] (fun s29 wx => s29 = .bool false ∧ wx = wr)
          case first =>
            rcases hcc with rfl | rfl
            · go_wp2_with fail
              go_meet
              exact ⟨rfl, rfl⟩
            · go_wp2_with fail
              go_meet
              exact ⟨rfl, rfl⟩
          case rest =>
          obtain ⟨rfl, rfl⟩ := hcut
          clear hcc q1
          have HLT : Hid (∀ t, (l ++ (List.range i).flatMap (asksI c) ++ keysP (p.take t)).length ≤ N) := fun t => by
            have h1 := range_len (f := asksI c) (i := i + 1) (n := c.combs.length) hil
            rw [range_flat, List.length_append, HAE.out] at h1
            have h3 := keysP_take p t
            have h4 := HNN.out
            rw [HL.out] at h4
            rw [List.length_append, List.length_append]
            omega
          have HJS : Hid (J (l ++ (List.range i).flatMap (asksI c) ++ keysP (p.take 0)) wc) := by rw [Hid]; simpa [keysP] using HJi.out
          have HJE : Hid (∀ W, J (l ++ (List.range i).flatMap (asksI c) ++ keysP (p.take p.length)) W → J (l ++ (List.range (i + 1)).flatMap (asksI c)) W) := fun W h => by
            rw [List.take_length, List.append_assoc] at h
            rw [HRF.out, HAE.out]
            exact h
          clear HRF HAE
          generalize l ++ (List.range i).flatMap (asksI c) = L0 at *
          go_wp2
          clear b0 b1 q2
          go_loopw [36] (fun a36 wq => ∃ t : Nat, t ≤ p.length ∧ a36 = .int .i64 (t : Int) ∧ Hid (J (L0 ++ keysP (p.take t)) wq) ∧ Hid (wq.heap[w.heap.size]? = some (.cells #[.slice (some ⟨bp, op, none⟩) c.parts.length pc, .slice (some ⟨bc, oc, none⟩) c.combs.length cc] 36 (0, 0)))) (fun a36 _ => p.length + 1 - (intOf a36).toNat)
          case atStart => exact ⟨0, Nat.zero_le _, rfl, HJS, HXi⟩
          case round =>
            obtain ⟨t, ht, rfl, HJt, HXt⟩ := hrel
            clear HJS HXi HJi
            by_cases htl : t < p.length
            · obtain ⟨rfl, _⟩ := HQA.out (by omega)
              have hcell := HQD.out _ _ HJt.out t htl
              have hnm := HPN.out t htl
              have HKP := hid_mk (keysP_succ htl)
              obtain ⟨s, hs⟩ : ∃ s, s = p[t].1 := ⟨_, rfl⟩
              rw [← hs] at hcell hnm HKP
              obtain ⟨la, ln, lc, hlv⟩ := HLS.out t htl
              rw [hlv] at hcell
              have y0 := hcell 0 _ rfl
              have y1 := hcell 1 _ rfl
              have y2 := hcell 2 _ rfl
              have y3 := hcell 3 _ rfl
              have y4 := hcell 4 _ rfl
              have y5 := hcell 5 _ rfl
              have y6 := hcell 6 _ rfl
              rw [Nat.add_zero] at y0
              have hkd := keyed_any s (.slice la ln lc)
              unfold s7 at hkd
              obtain ⟨w1, hw1⟩ : ∃ w1, w1 = wr.alloc (.cells #[.int .i64 s.k, .string s.nm, .int .i64 s.op, .string s.v, .int .i64 s.a, .int .i64 s.b, .slice la ln lc] 47) := ⟨_, rfl⟩
              have hB1 : Below wr.heap.size wr w1 := by rw [hw1]; exact (Below.refl _ _).alloc (Nat.le_refl _) _
              have hS1 : w1.heap[wr.heap.size]? = some (.cells #[.int .i64 s.k, .string s.nm, .int .i64 s.op, .string s.v, .int .i64 s.a, .int .i64 s.b, .slice la ln lc] 47 (0, 0)) := by rw [hw1]; exact heap_alloc_last wr _
              have HXl : Hid (w.heap.size < wr.heap.size) := (Array.getElem?_eq_some_iff.1 HXt.out).1
              have hk1 := hkd w1
              have HJ1 := hid_mk (HJ.out _ _ _ HJt.out hB1)
              have HX1 : Hid (w1.heap[w.heap.size]? = some (.cells #[.slice (some ⟨bp, op, none⟩) c.parts.length pc, .slice (some ⟨bc, oc, none⟩) c.combs.length cc] 36 (0, 0))) := (hB1.block _ HXl.out).trans HXt.out
              have HW1 := hid_mk hw1
              have HS1 := hid_mk hS1
              clear hcell hkd hs hlv hw1 hB1 hS1
              go_wp2_with (go_at_call 30; fail)
              rw [← HW1.out]
              refine hk1.mono ?_
              rintro e w2 ⟨rfl, hB2⟩
              have HJ2 := hid_mk (HJ.out _ _ _ HJ1.out hB2)
              have hS2 := (hB2.block _ (Array.getElem?_eq_some_iff.1 HS1.out).1).trans HS1.out
              have HX2 : Hid (w2.heap[w.heap.size]? = some (.cells #[.slice (some ⟨bp, op, none⟩) c.parts.length pc, .slice (some ⟨bc, oc, none⟩) c.combs.length cc] 36 (0, 0))) := (hB2.block _ (Array.getElem?_eq_some_iff.1 HX1.out).1).trans HX1.out
              have x0 : w2.cell? ⟨wr.heap.size, 0, none⟩ = some (.int .i64 s.k) := cellAt hS2 0
              have x1 : w2.cell? ⟨wr.heap.size, 1, none⟩ = some (.string s.nm) := cellAt hS2 1
              clear hk1 hB2 hS2 HJ1 HS1 HX1 HW1 y0 y1 y2 y3 y4 y5 y6 HJt
              cases hkb : keyedB s with
              | false =>
                rw [hkb] at HKP
                have HJZ : Hid (J (L0 ++ keysP (p.take (t + 1))) w2) := by rw [Hid, HKP.out]; simpa using HJ2.out
                clear HKP hkb x0 x1 HT HJ HQD HPN HJ2
                go_wp2
                exact ⟨⟨t + 1, htl, by go_num, HJZ, HX2⟩, by simp only [intOf]; omega⟩
              | true =>
                rw [hkb] at HKP
                have hky := key_any s.k s.nm hnm w2
                have htell := HT.out _ w2 (keyS s) (keyAt_lt (by decide) _ _) (HLT.out t) HJ2.out
                unfold keyS at htell
                clear hkb HJ2
                go_wp2_with (go_at_call 7; fail)
                refine hky.mono ?_
                rintro e w3 ⟨rfl, rfl⟩
                clear hky
                go_wp2_with (go_at_call 27; fail)
                refine htell.mono ?_
                rintro e w4 ⟨rfl, hJ4⟩
                have HJZ : Hid (J (L0 ++ keysP (p.take (t + 1))) w4) := by
                  rw [Hid, HKP.out, ← List.append_assoc]
                  exact hJ4
                have HX4 : Hid (w4.heap[w.heap.size]? = some (.cells #[.slice (some ⟨bp, op, none⟩) c.parts.length pc, .slice (some ⟨bc, oc, none⟩) c.combs.length cc] 36 (0, 0))) := HXJ.out _ _ hJ4
                clear htell hJ4 x0 x1 HT HJ HXJ HQD HPN HKP HX2
                go_wp2
                exact ⟨⟨t + 1, htl, by go_num, HJZ, HX4⟩, by simp only [intOf]; omega⟩
            · obtain rfl : t = p.length := by omega
              have HJZ := hid_mk (HJE.out _ HJt.out)
              clear HT HJ HQD HPN HJE HQA HJt
              go_wp2
              exact ⟨⟨i + 1, hil, by go_num, HJZ, HXt⟩, by simp only [intOf]; omega⟩
        · have HAE : Hid (asksI c i = []) := by rw [Hid, HAI.out, if_neg hcc]
          have n1 : (cb != 1) = true := bne_iff_ne.2 fun h => hcc (.inl h)
          have n2 : (cb != 2) = true := bne_iff_ne.2 fun h => hcc (.inr h)
          clear hcc HAI HQD HPN HQA q2 b0 b1 HT HJ
          go_wp2
          exact ⟨⟨i + 1, hil, by go_num, by rw [Hid, HRF.out, HAE.out, List.append_nil]; exact HJi.out, HXi⟩, by simp only [intOf]; omega⟩
      · obtain rfl : i = c.combs.length := by omega
        clear HCS HPS HD HT HN HJ
        go_wp2
        exact bodyPost_end (v := .tuple #[]) (by simp [results, Try.results24, go_sem]) rfl ⟨rfl, by rw [HL.out]; exact HJi.out⟩
  · have HL : Hid (asksL c = []) := by rw [Hid]; unfold asksL; rw [if_neg hl]
    have hne : ((c.combs.length : Int) != (c.parts.length : Int) - 1) = true := bne_iff_ne.2 (by omega)
    have hJE := HJ0.out
    clear hl hd h HD HT HN
    go_enter Try.func24, Try.ntmps24
    go_wp2
    rw [← HW0.out]
    exact bodyPost_ret (v := .tuple #[]) (by simp [results, Try.results24, go_sem]) rfl ⟨rfl, by rw [HL.out, List.append_nil]; exact hJE⟩
end Go.Proofs.Ytdiljkmlneeboaa
