/- Whether a simple selector is a name that an element's keys have; what a selector asks of those above. -/
import Derived.Test.YtdiljkmlneeboaaSel
import Derived.Test.YtdiljkmlneeboaaTel
namespace Go.Proofs.Ytdiljkmlneeboaa
open Go.RowKit
set_option maxRecDepth 100000

def keyedB (s : S6) : Bool := s.k == 3 || s.k == 2 || (s.k == 1 && !(s.nm.toList == [42]))
set_option maxHeartbeats 1000000 in
theorem keyed_any (s : S6) (lv : Value) (w : World) : Calls Try.prog 30 #[.agg (s7 s lv).toArray] w fun e w' => e = .returned (.bool (keyedB s)) ∧ Below w.heap.size w w' := by
  unfold s7
  by_cases h3 : s.k = 3
  · have e1 : keyedB s = true := by simp [keyedB, h3]
    rw [e1]
    have q3 : (s.k == 3) = true := by simp [h3]
    clear e1 h3
    have HB : Hid (∀ o, Below w.heap.size w (w.alloc o)) := fun o => (Below.refl _ _).alloc (Nat.le_refl _) _
    go_enter Try.func30, Try.ntmps30
    go_wp2
    go_ret
    exact ⟨rfl, HB.out _⟩
  by_cases h2 : s.k = 2
  · have e1 : keyedB s = true := by simp [keyedB, h2]
    rw [e1]
    have q3 : (s.k == 3) = false := by simp [h2]
    have q2 : (s.k == 2) = true := by simp [h2]
    clear e1 h2 h3
    have HB : Hid (∀ o, Below w.heap.size w (w.alloc o)) := fun o => (Below.refl _ _).alloc (Nat.le_refl _) _
    go_enter Try.func30, Try.ntmps30
    go_wp2
    go_ret
    exact ⟨rfl, HB.out _⟩
  by_cases h1 : s.k = 1
  · have e1 : keyedB s = !(s.nm.toList == [42]) := by simp [keyedB, h1]
    rw [e1]
    have q3 : (s.k == 3) = false := by simp [h1]
    have q2 : (s.k == 2) = false := by simp [h1]
    have q1 : (s.k == 1) = true := by simp [h1]
    clear e1 h1 h2 h3
    have HB : Hid (∀ o, Below w.heap.size w (w.alloc o)) := fun o => (Below.refl _ _).alloc (Nat.le_refl _) _
    go_enter Try.func30, Try.ntmps30
    go_wp2
    go_ret
    exact ⟨rfl, HB.out _⟩
  · have e1 : keyedB s = false := by simp [keyedB, h1, h2, h3]
    rw [e1]
    have q3 : (s.k == 3) = false := by simp [h3]
    have q2 : (s.k == 2) = false := by simp [h2]
    have q1 : (s.k == 1) = false := by simp [h1]
    clear e1 h1 h2 h3
    have HB : Hid (∀ o, Below w.heap.size w (w.alloc o)) := fun o => (Below.refl _ _).alloc (Nat.le_refl _) _
    go_enter Try.func30, Try.ntmps30
    go_wp2
    go_ret
    exact ⟨rfl, HB.out _⟩

/-- The key of a simple selector. -/
def keyS (s : S6) : Nat := keyN (s.k % 256).toNat s.nm
/-- The keys of the first ones of a Part. -/
def keysP (p : List (S6 × List Cx)) : List Nat := (p.filter fun x => keyedB x.1).map fun x => keyS x.1
/-- What the i-th Comb asks. -/
def asksI (c : Cx) (i : Nat) : List Nat := if c.combs.getD i 0 = 1 ∨ c.combs.getD i 0 = 2 then keysP (c.parts.getD i []) else []
/-- What is asked. -/
def asksL (c : Cx) : List Nat := if c.combs.length + 1 = c.parts.length then (List.range c.combs.length).flatMap (asksI c) else []
theorem range_flat {f : Nat → List Nat} (i : Nat) : (List.range (i + 1)).flatMap f = (List.range i).flatMap f ++ f i := by
  rw [List.range_succ, List.flatMap_append]
  simp
theorem keysP_succ {p : List (S6 × List Cx)} {t : Nat} (h : t < p.length) : keysP (p.take (t + 1)) = keysP (p.take t) ++ (if keyedB p[t].1 then [keyS p[t].1] else []) := by
  unfold keysP
  rw [List.take_add_one, List.getElem?_eq_getElem h, Option.toList_some, List.filter_append, List.map_append]
  congr 1
  cases hk : keyedB p[t].1 <;> simp [List.filter, hk]

set_option maxHeartbeats 4000000 in
theorem asksG_26 {J : List Nat → World → Prop} (HJ : Hid (∀ l w w', J l w → Below w.heap.size w w' → J l w')) {pv cv : Value} {c : Cx} {bc oc bp op : Nat} {qv : Nat → Value} {bq oq : Nat → Nat} {lv : Nat → Nat → Value}
    (HD : Hid (∀ l w, J l w → CxAt (ClAt w) w pv cv c bc oc bp op qv bq oq lv)) (HN : Hid (∀ p ∈ c.parts, ∀ x ∈ p, x.1.nm.size ≤ 140737488351232)) (hlc : c.parts.length ≤ 100000000000000) {b : Nat}
    (HT : Hid (∀ l w k, k < 4294967296 → J l w → Calls Try.prog 26 #[.int .u32 ((k : Nat) : Int), .pointer (some ⟨b, 0, none⟩)] w fun e w' => e = .returned (.tuple #[]) ∧ J (l ++ [k]) w' ∧ KeepX b w w'))
    {w : World} {l : List Nat} (h : J l w) (hb : b < w.heap.size) : Calls Try.prog 24 #[.agg #[pv, cv], .func (.func 26) #[] #[.pointer (some ⟨b, 0, none⟩)]] w fun e w' => e = .returned (.tuple #[]) ∧ J (l ++ asksL c) w' := by
  have hd := HD.out l w h
  obtain ⟨ca, cc, rfl, hcn, hcm, _⟩ := hd.cs
  obtain ⟨pa, pc, rfl, hpn, hpm, _⟩ := hd.ps
  obtain ⟨w0, hw0⟩ : ∃ w0, w0 = w.alloc (.cells #[.slice pa c.parts.length pc, .slice ca c.combs.length cc] 36) := ⟨_, rfl⟩
  have hB0 : Below w.heap.size w w0 := by rw [hw0]; exact (Below.refl _ _).alloc (Nat.le_refl _) _
  have HX0 : Hid (w0.heap[w.heap.size]? = some (.cells #[.slice pa c.parts.length pc, .slice ca c.combs.length cc] 36 (0, 0))) := by rw [Hid, hw0]; exact heap_alloc_last w _
  have HJ0 := hid_mk (HJ.out _ _ _ h hB0)
  have HBC : Hid (∀ W : World, W.heap[w.heap.size]? = some (.cells #[.slice pa c.parts.length pc, .slice ca c.combs.length cc] 36 (0, 0)) → W.cell? ⟨w.heap.size, 0, none⟩ = some (.slice pa c.parts.length pc) ∧ W.cell? ⟨w.heap.size, 1, none⟩ = some (.slice ca c.combs.length cc)) := fun W hW => ⟨cellAt hW 0, cellAt hW 1⟩
  have HW0 := hid_mk hw0
  have HNE : Hid (b ≠ w.heap.size) := by rw [Hid]; omega
  by_cases hl : c.combs.length + 1 = c.parts.length
  · have HL : Hid (asksL c = (List.range c.combs.length).flatMap (asksI c)) := by rw [Hid]; unfold asksL; rw [if_pos hl]
    have hne : ((c.combs.length : Int) != (c.parts.length : Int) - 1) = false := by
      rw [bne_eq_false_iff_eq]; omega
    have HCS := hid_mk hd.cs
    have HPS := hid_mk hd.ps
    have HHL := hid_mk hl
    have hcl : c.combs.length ≤ 100000000000000 := by omega
    obtain ⟨b0, b1⟩ := HBC.out w0 HX0.out
    clear hl hd h
    go_enter Try.func24, Try.ntmps24
    go_upto_region 1 with (fail)
    rw [← HW0.out]
    clear hw0 HW0 hB0
    go_wp2
    clear b0 b1
    go_loopw [19] (fun a19 wq => ∃ i : Nat, i ≤ c.combs.length ∧ a19 = .int .i64 (i : Int) ∧ Hid (J (l ++ (List.range i).flatMap (asksI c)) wq) ∧ Hid (wq.heap[w.heap.size]? = some (.cells #[.slice pa c.parts.length pc, .slice ca c.combs.length cc] 36 (0, 0)))) (fun a19 _ => c.combs.length + 1 - (intOf a19).toNat)
    case atStart => exact ⟨0, Nat.zero_le _, rfl, by simpa using HJ0, HX0⟩
    case round =>
      obtain ⟨i, hi, rfl, HJi, HXi⟩ := hrel
      clear HJ0 HX0
      by_cases hil : i < c.combs.length
      · have hdi := HD.out _ _ HJi.out
        obtain ⟨_, _, e1, _, _, hca⟩ := HCS.out
        obtain ⟨rfl, _⟩ : ca = some ⟨bc, oc, none⟩ ∧ True := by cases e1; exact ⟨(hca (by omega)).1, trivial⟩
        have q1 := hdi.cc i hil
        have hip : i < c.parts.length := by have := HHL.out; omega
        obtain ⟨_, _, e2, _, _, hpa⟩ := HPS.out
        obtain ⟨rfl, _⟩ : pa = some ⟨bp, op, none⟩ ∧ True := by cases e2; exact ⟨(hpa (by omega)).1, trivial⟩
        have q2 := hdi.pc i hip
        obtain ⟨qa, qc, e3, hqn, hqm, hqa⟩ := hdi.qs i hip
        rw [e3] at q2
        obtain ⟨p, hp⟩ : ∃ p, p = c.parts[i] := ⟨_, rfl⟩
        rw [← hp] at q2 hqn hqa
        have HAI : Hid (asksI c i = if c.combs[i] = 1 ∨ c.combs[i] = 2 then keysP p else []) := by
          rw [Hid]
          unfold asksI
          rw [List.getD_eq_getElem?_getD, List.getElem?_eq_getElem hil, List.getD_eq_getElem?_getD, List.getElem?_eq_getElem hip, hp]
          rfl
        have HRF : Hid ((List.range (i + 1)).flatMap (asksI c) = (List.range i).flatMap (asksI c) ++ asksI c i) := range_flat i
        have HPN : Hid (∀ t (h : t < p.length), p[t].1.nm.size ≤ 140737488351232) := fun t h => HN.out p (by rw [hp]; exact List.getElem_mem hip) _ (List.getElem_mem h)
        have HQA := hid_mk hqa
        have HQD : Hid (∀ L W, J L W → ∀ t (h : t < p.length), ∀ y u, (s7 p[t].1 (lv i t))[y]? = some u → W.cell? ⟨bq i, oq i + t * 7 + y, none⟩ = some u) := fun L W hJW t h y u hu => by
          subst hp
          exact (HD.out L W hJW).qc i hip t h y u hu
        have HLS : Hid (∀ t, t < p.length → ∃ la ln lc, lv i t = .slice la ln lc) := fun t h => by
          subst hp
          obtain ⟨_, _, ⟨la, lc, e, _⟩, _⟩ := (hdi.ls i hip t h).at
          exact ⟨la, _, lc, e⟩
        have hpl : p.length ≤ 9223372036854775807 := by omega
        obtain ⟨b0, b1⟩ := HBC.out wr HXi.out
        clear hdi hca hpa e1 e2 e3 hp hqa HN HCS HPS HD
        obtain ⟨cb, hcb⟩ : ∃ cb, cb = c.combs[i] := ⟨_, rfl⟩
        rw [← hcb] at q1 HAI
        clear hcb
        by_cases hcc : cb = 1 ∨ cb = 2
        · have HAE : Hid (asksI c i = keysP p) := by rw [Hid, HAI.out, if_pos hcc]
          clear HAI
          go_upto_region 5 with (fail)
          go_cut [29] (fun s29 wx => s29 = .bool false ∧ wx = wr)
          case first =>
            rcases hcc with rfl | rfl
            · go_wp2_with fail
              go_meet
              exact ⟨rfl, rfl⟩
            · go_wp2_with fail
              go_meet
              exact ⟨rfl, rfl⟩
          case rest =>
          obtain ⟨rfl, rfl⟩ := hcut
          clear hcc q1
          have HJS : Hid (J (l ++ (List.range i).flatMap (asksI c) ++ keysP (p.take 0)) wc) := by rw [Hid]; simpa [keysP] using HJi.out
          have HJE : Hid (∀ W, J (l ++ (List.range i).flatMap (asksI c) ++ keysP (p.take p.length)) W → J (l ++ (List.range (i + 1)).flatMap (asksI c)) W) := fun W h => by
            rw [List.take_length, List.append_assoc] at h
            rw [HRF.out, HAE.out]
            exact h
          clear HRF HAE
          generalize l ++ (List.range i).flatMap (asksI c) = L0 at *
          go_wp2
          clear b0 b1 q2
          go_loopw [36] (fun a36 wq => ∃ t : Nat, t ≤ p.length ∧ a36 = .int .i64 (t : Int) ∧ Hid (J (L0 ++ keysP (p.take t)) wq) ∧ Hid (wq.heap[w.heap.size]? = some (.cells #[.slice (some ⟨bp, op, none⟩) c.parts.length pc, .slice (some ⟨bc, oc, none⟩) c.combs.length cc] 36 (0, 0)))) (fun a36 _ => p.length + 1 - (intOf a36).toNat)
          case atStart => exact ⟨0, Nat.zero_le _, rfl, HJS, HXi⟩
          case round =>
            obtain ⟨t, ht, rfl, HJt, HXt⟩ := hrel
            clear HJS HXi HJi
            by_cases htl : t < p.length
            · obtain ⟨rfl, _⟩ := HQA.out (by omega)
              have hcell := HQD.out _ _ HJt.out t htl
              have hnm := HPN.out t htl
              have HKP := hid_mk (keysP_succ htl)
              obtain ⟨s, hs⟩ : ∃ s, s = p[t].1 := ⟨_, rfl⟩
              rw [← hs] at hcell hnm HKP
              obtain ⟨la, ln, lc, hlv⟩ := HLS.out t htl
              rw [hlv] at hcell
              have y0 := hcell 0 _ rfl
              have y1 := hcell 1 _ rfl
              have y2 := hcell 2 _ rfl
              have y3 := hcell 3 _ rfl
              have y4 := hcell 4 _ rfl
              have y5 := hcell 5 _ rfl
              have y6 := hcell 6 _ rfl
              rw [Nat.add_zero] at y0
              have hkd := keyed_any s (.slice la ln lc)
              unfold s7 at hkd
              obtain ⟨w1, hw1⟩ : ∃ w1, w1 = wr.alloc (.cells #[.int .i64 s.k, .string s.nm, .int .i64 s.op, .string s.v, .int .i64 s.a, .int .i64 s.b, .slice la ln lc] 47) := ⟨_, rfl⟩
              have hB1 : Below wr.heap.size wr w1 := by rw [hw1]; exact (Below.refl _ _).alloc (Nat.le_refl _) _
              have hS1 : w1.heap[wr.heap.size]? = some (.cells #[.int .i64 s.k, .string s.nm, .int .i64 s.op, .string s.v, .int .i64 s.a, .int .i64 s.b, .slice la ln lc] 47 (0, 0)) := by rw [hw1]; exact heap_alloc_last wr _
              have HXl : Hid (w.heap.size < wr.heap.size) := (Array.getElem?_eq_some_iff.1 HXt.out).1
              have hk1 := hkd w1
              have HJ1 := hid_mk (HJ.out _ _ _ HJt.out hB1)
              have HX1 : Hid (w1.heap[w.heap.size]? = some (.cells #[.slice (some ⟨bp, op, none⟩) c.parts.length pc, .slice (some ⟨bc, oc, none⟩) c.combs.length cc] 36 (0, 0))) := (hB1.block _ HXl.out).trans HXt.out
              have HW1 := hid_mk hw1
              have HS1 := hid_mk hS1
              clear hcell hkd hs hlv hw1 hB1 hS1
              go_wp2_with (go_at_call 30; fail)
              rw [← HW1.out]
              refine hk1.mono ?_
              rintro e w2 ⟨rfl, hB2⟩
              have HJ2 := hid_mk (HJ.out _ _ _ HJ1.out hB2)
              have hS2 := (hB2.block _ (Array.getElem?_eq_some_iff.1 HS1.out).1).trans HS1.out
              have HX2 : Hid (w2.heap[w.heap.size]? = some (.cells #[.slice (some ⟨bp, op, none⟩) c.parts.length pc, .slice (some ⟨bc, oc, none⟩) c.combs.length cc] 36 (0, 0))) := (hB2.block _ (Array.getElem?_eq_some_iff.1 HX1.out).1).trans HX1.out
              have x0 : w2.cell? ⟨wr.heap.size, 0, none⟩ = some (.int .i64 s.k) := cellAt hS2 0
              have x1 : w2.cell? ⟨wr.heap.size, 1, none⟩ = some (.string s.nm) := cellAt hS2 1
              clear hk1 hB2 hS2 HJ1 HS1 HX1 HW1 y0 y1 y2 y3 y4 y5 y6 HJt
              cases hkb : keyedB s with
              | false =>
                rw [hkb] at HKP
                have HJZ : Hid (J (L0 ++ keysP (p.take (t + 1))) w2) := by rw [Hid, HKP.out]; simpa using HJ2.out
                clear HKP hkb x0 x1 HT HJ HQD HPN HJ2
                go_wp2
                exact ⟨⟨t + 1, htl, by go_num, HJZ, HX2⟩, by simp only [intOf]; omega⟩
              | true =>
                rw [hkb] at HKP
                have hky := key_any s.k s.nm hnm w2
                have htell := HT.out _ w2 (keyS s) (keyAt_lt (by decide) _ _) HJ2.out
                unfold keyS at htell
                clear hkb HJ2
                go_wp2_with (go_at_call 7; fail)
                refine hky.mono ?_
                rintro e w3 ⟨rfl, rfl⟩
                clear hky
                go_wp2_with (go_at_call 26; fail)
                refine htell.mono ?_
                rintro e w4 ⟨rfl, hJ4, hX4⟩
                have HJZ : Hid (J (L0 ++ keysP (p.take (t + 1))) w4) := by
                  rw [Hid, HKP.out, ← List.append_assoc]
                  exact hJ4
                have HX4 : Hid (w4.heap[w.heap.size]? = some (.cells #[.slice (some ⟨bp, op, none⟩) c.parts.length pc, .slice (some ⟨bc, oc, none⟩) c.combs.length cc] 36 (0, 0))) := (hX4.block _ (Array.getElem?_eq_some_iff.1 HX2.out).1 HNE.out.symm).trans HX2.out
                clear htell hJ4 hX4 x0 x1 HT HJ HQD HPN HKP HX2
                go_wp2
                exact ⟨⟨t + 1, htl, by go_num, HJZ, HX4⟩, by simp only [intOf]; omega⟩
            · obtain rfl : t = p.length := by omega
              have HJZ := hid_mk (HJE.out _ HJt.out)
              clear HT HJ HQD HPN HJE HQA HJt
              go_wp2
              exact ⟨⟨i + 1, hil, by go_num, HJZ, HXt⟩, by simp only [intOf]; omega⟩
        · have HAE : Hid (asksI c i = []) := by rw [Hid, HAI.out, if_neg hcc]
          have n1 : (cb != 1) = true := bne_iff_ne.2 fun h => hcc (.inl h)
          have n2 : (cb != 2) = true := bne_iff_ne.2 fun h => hcc (.inr h)
          clear hcc HAI HQD HPN HQA q2 b0 b1 HT HJ
          go_wp2
          exact ⟨⟨i + 1, hil, by go_num, by rw [Hid, HRF.out, HAE.out, List.append_nil]; exact HJi.out, HXi⟩, by simp only [intOf]; omega⟩
      · obtain rfl : i = c.combs.length := by omega
        clear HCS HPS HD HT HN HJ
        go_wp2
        exact bodyPost_end (v := .tuple #[]) (by simp [results, Try.results24, go_sem]) rfl ⟨rfl, by rw [HL.out]; exact HJi.out⟩
  · have HL : Hid (asksL c = []) := by rw [Hid]; unfold asksL; rw [if_neg hl]
    have hne : ((c.combs.length : Int) != (c.parts.length : Int) - 1) = true := bne_iff_ne.2 (by omega)
    have hJE := HJ0.out
    clear hl hd h HD HT HN
    go_enter Try.func24, Try.ntmps24
    go_wp2
    rw [← HW0.out]
    exact bodyPost_ret (v := .tuple #[]) (by simp [results, Try.results24, go_sem]) rfl ⟨rfl, by rw [HL.out, List.append_nil]; exact hJE⟩
end Go.Proofs.Ytdiljkmlneeboaa
