/- The document's Needs. -/
import Derived.Test.YtdiljkmlneeboaaPut
import Derived.Test.YtdiljkmlneeboaaRky
namespace Go.Proofs.Ytdiljkmlneeboaa
open Go.RowKit
set_option maxRecDepth 100000

theorem putS_len1 (k : Nat) : ∀ (l : List Nat) (s : List Nat × Bool), (l.foldl (stepP k) s).1.length + (if s.2 then 1 else 0) ≤ s.1.length + l.length + (if (l.foldl (stepP k) s).2 then 1 else 0)
  | [], s => by rw [List.foldl_nil, List.length_nil]; omega
  | x :: l, s => by
    have h := putS_len1 k l (stepP k s x)
    rw [List.foldl_cons]
    have h2 : (stepP k s x).1.length + (if s.2 then 1 else 0) ≤ s.1.length + 1 + (if (stepP k s x).2 then 1 else 0) := by
      obtain ⟨o, d⟩ := s
      unfold stepP
      dsimp only
      cases d <;> split <;> split <;> simp_all
    rw [List.length_cons]
    omega
theorem putL_len (l : List Nat) (k : Nat) : (putL l k).length ≤ l.length + 1 := by
  have h := putS_len1 k l ([], false)
  unfold putL
  have e : putS k l = l.foldl (stepP k) ([], false) := rfl
  rw [← e] at h
  simp only [List.length_nil] at h
  split
  · rename_i h1
    rw [h1] at h
    simp at h
    omega
  · rename_i h1
    rw [List.length_append, List.length_singleton]
    simp [h1] at h
    omega
/-- Keys put in, one behind the other. -/
def putsL (l : List Nat) : List Nat := l.foldl putL []
theorem puts_app (l m : List Nat) : putsL (l ++ m) = m.foldl putL (putsL l) := List.foldl_append
theorem puts_one (l : List Nat) (k : Nat) : putsL (l ++ [k]) = putL (putsL l) k := puts_app l [k]
theorem puts_len' : ∀ (l : List Nat) (m : List Nat), (l.foldl putL m).length ≤ m.length + l.length
  | [], m => by simp
  | k :: l, m => by
    rw [List.foldl_cons, List.length_cons]
    have := puts_len' l (putL m k)
    have := putL_len m k
    omega
theorem puts_len (l : List Nat) : (putsL l).length ≤ l.length := by have := puts_len' l []; simpa [putsL] using this
theorem OwnK.low {w : World} {B B' : Nat} {v : Value} {l : List Nat} (h : OwnK w B v l) (hb : B' ≤ B) : OwnK w B' v l := by
  obtain ⟨h1, h2⟩ := h
  exact ⟨h1, h2.imp id fun ⟨g, cap, cur, a, b, c, d⟩ => ⟨g, cap, cur, a, Nat.le_trans hb b, c, d⟩⟩

theorem range_len {f : Nat → List Nat} {i : Nat} : ∀ {n : Nat}, i ≤ n → ((List.range i).flatMap f).length ≤ ((List.range n).flatMap f).length
  | 0, h => by rw [Nat.le_zero.1 h]; exact Nat.le_refl _
  | n + 1, h => by
    rcases Nat.lt_or_ge i (n + 1) with h1 | h1
    · rw [range_flat n, List.length_append]
      exact Nat.le_trans (range_len (n := n) (by omega)) (by omega)
    · rw [show i = n + 1 by omega]
      exact Nat.le_refl _
theorem keysP_take (p : List (S6 × List Cx)) (t : Nat) : (keysP (p.take t)).length ≤ (keysP p).length := (((List.take_sublist t p).filter _).map _).length_le

set_option maxHeartbeats 4000000 in
theorem rneeds_any {w : World} {pv cv : Value} {c : Cx} {bc oc bp op : Nat} {qv : Nat → Value} {bq oq : Nat → Nat} {lv : Nat → Nat → Value}
    (hc : CxAt (ClAt w) w pv cv c bc oc bp op qv bq oq lv) (hn : ∀ p ∈ c.parts, ∀ x ∈ p, x.1.nm.size ≤ 5000) (hlc : c.parts.length ≤ 1000000) (hal : (asksL c).length ≤ 1000000) :
    Calls Try.prog 16 #[.agg #[pv, cv]] w fun e w' => ∃ v', e = .returned v' ∧ OwnK w' w.heap.size v' (putsL (asksL c)) ∧ Below w.heap.size w w' := by
  have HC := hid_mk hc
  have HN := hid_mk hn
  obtain ⟨ca, cc, rfl, hcn, hcm, _⟩ := hc.cs
  obtain ⟨pa, pc, rfl, hpn, hpm, _⟩ := hc.ps
  obtain ⟨w0, hw0⟩ : ∃ w0, w0 = w.alloc (.cells #[.slice pa c.parts.length pc, .slice ca c.combs.length cc] 36) := ⟨_, rfl⟩
  have hB0 : Below w.heap.size w w0 := by rw [hw0]; exact (Below.refl _ _).alloc (Nat.le_refl _) _
  have HX0 : Hid (w0.heap[w.heap.size]? = some (.cells #[.slice pa c.parts.length pc, .slice ca c.combs.length cc] 36 (0, 0))) := by rw [Hid, hw0]; exact heap_alloc_last w _
  have HBC : Hid (∀ W : World, W.heap[w.heap.size]? = some (.cells #[.slice pa c.parts.length pc, .slice ca c.combs.length cc] 36 (0, 0)) → W.cell? ⟨w.heap.size, 0, none⟩ = some (.slice pa c.parts.length pc) ∧ W.cell? ⟨w.heap.size, 1, none⟩ = some (.slice ca c.combs.length cc)) := fun W hW => ⟨cellAt hW 0, cellAt hW 1⟩
  have HW0 := hid_mk hw0
  have HB0 := hid_mk hB0
  obtain ⟨b0, b1⟩ := HBC.out w0 HX0.out
  clear hc hn hB0
  by_cases hl : c.combs.length + 1 = c.parts.length
  · have HL : Hid (asksL c = (List.range c.combs.length).flatMap (asksI c)) := by rw [Hid]; unfold asksL; rw [if_pos hl]
    have hne : ((c.combs.length : Int) != (c.parts.length : Int) - 1) = false := by
      rw [bne_eq_false_iff_eq]; omega
    have HHL := hid_mk hl
    have hcl : c.combs.length ≤ 1000000 := by omega
    clear hl
    go_enter Try.func16, Try.ntmps16
    go_upto_region 1 with (fail)
    rw [← HW0.out]
    clear hw0 HW0
    go_wp2
    clear b0 b1
    have HLM : Hid (∀ i (_ : i < c.combs.length) t p, p = c.parts.getD i [] → c.combs.getD i 0 = 1 ∨ c.combs.getD i 0 = 2 → (putsL ((List.range i).flatMap (asksI c) ++ keysP (p.take t))).length ≤ 1000000) := fun i hi t p hp hcc => by
      refine Nat.le_trans (puts_len _) (Nat.le_trans ?_ hal)
      have h1 := range_len (f := asksI c) (i := i + 1) (n := c.combs.length) hi
      rw [range_flat, List.length_append] at h1
      have h2 : asksI c i = keysP p := by unfold asksI; rw [if_pos hcc, hp]
      have h3 := keysP_take p t
      rw [List.length_append, HL.out]
      rw [h2] at h1
      omega
    clear hal
    go_loopw [3, 19] (fun a3 a19 wq => ∃ i : Nat, i ≤ c.combs.length ∧ a19 = .int .i64 (i : Int) ∧ Hid (OwnK wq w.heap.size a3 (putsL ((List.range i).flatMap (asksI c)))) ∧ Hid (Below w.heap.size w wq) ∧ Hid (wq.heap[w.heap.size]? = some (.cells #[.slice pa c.parts.length pc, .slice ca c.combs.length cc] 36 (0, 0)))) (fun _ a19 _ => c.combs.length + 1 - (intOf a19).toNat)
    case atStart => exact ⟨0, Nat.zero_le _, rfl, OwnK.nil _ _, HB0, HX0⟩
    case round =>
      obtain ⟨i, hi, rfl, HOi, HBi, HXi⟩ := hrel
      clear HB0 HX0
      by_cases hil : i < c.combs.length
      · have hdi := HC.out.keep HBi.out
        obtain ⟨_, _, e1, _, _, hca⟩ := HC.out.cs
        obtain ⟨rfl, _⟩ : ca = some ⟨bc, oc, none⟩ ∧ True := by cases e1; exact ⟨(hca (by omega)).1, trivial⟩
        have q1 := hdi.cc i hil
        have hip : i < c.parts.length := by have := HHL.out; omega
        obtain ⟨_, _, e2, _, _, hpa⟩ := HC.out.ps
        obtain ⟨rfl, _⟩ : pa = some ⟨bp, op, none⟩ ∧ True := by cases e2; exact ⟨(hpa (by omega)).1, trivial⟩
        have q2 := hdi.pc i hip
        obtain ⟨qa, qc, e3, hqn, hqm, hqa⟩ := hdi.qs i hip
        rw [e3] at q2
        obtain ⟨p, hp⟩ : ∃ p, p = c.parts[i] := ⟨_, rfl⟩
        rw [← hp] at q2 hqn hqa
        have hgd : c.combs.getD i 0 = c.combs[i] := by rw [List.getD_eq_getElem?_getD, List.getElem?_eq_getElem hil]; rfl
        have hpd : c.parts.getD i [] = p := by rw [List.getD_eq_getElem?_getD, List.getElem?_eq_getElem hip, hp]; rfl
        have HAI : Hid (asksI c i = if c.combs[i] = 1 ∨ c.combs[i] = 2 then keysP p else []) := by
          rw [Hid]
          unfold asksI
          rw [hgd, hpd]
        have HLI : Hid (c.combs[i] = 1 ∨ c.combs[i] = 2 → ∀ t, (putsL ((List.range i).flatMap (asksI c) ++ keysP (p.take t))).length ≤ 1000000) := fun h t => HLM.out i hil t p hpd.symm (by rw [hgd]; exact h)
        have HRF : Hid ((List.range (i + 1)).flatMap (asksI c) = (List.range i).flatMap (asksI c) ++ asksI c i) := range_flat i
        have HPN : Hid (∀ t (h : t < p.length), p[t].1.nm.size ≤ 5000) := fun t h => HN.out p (by rw [hp]; exact List.getElem_mem hip) _ (List.getElem_mem h)
        have HQA := hid_mk hqa
        have HQD : Hid (∀ W, Below w.heap.size w W → ∀ t (h : t < p.length), ∀ y u, (s7 p[t].1 (lv i t))[y]? = some u → W.cell? ⟨bq i, oq i + t * 7 + y, none⟩ = some u) := fun W hW t h y u hu => by
          subst hp
          exact (HC.out.keep hW).qc i hip t h y u hu
        have HLS : Hid (∀ t, t < p.length → ∃ la ln lc, lv i t = .slice la ln lc) := fun t h => by
          subst hp
          obtain ⟨_, _, ⟨la, lc, e, _⟩, _⟩ := (hdi.ls i hip t h).at
          exact ⟨la, _, lc, e⟩
        have hpl : p.length ≤ 9223372036854775807 := by omega
        obtain ⟨b0, b1⟩ := HBC.out wr HXi.out
        clear hdi hca hpa e1 e2 e3 hp hqa HN HC hgd hpd HLM
        obtain ⟨cb, hcb⟩ : ∃ cb, cb = c.combs[i] := ⟨_, rfl⟩
        rw [← hcb] at q1 HAI HLI
        clear hcb
        by_cases hcc : cb = 1 ∨ cb = 2
        · have HAE : Hid (asksI c i = keysP p) := by rw [Hid, HAI.out, if_pos hcc]
          have HLT := hid_mk (HLI.out hcc)
          clear HAI HLI
          go_upto_region 7 with (fail)
          go_cut [29] (fun s29 wx => s29 = .bool false ∧ wx = wr)
          case first =>
            rcases hcc with rfl | rfl
            · go_wp2_with fail
              go_meet
              exact ⟨rfl, rfl⟩
            · go_wp2_with fail
              go_meet
              exact ⟨rfl, rfl⟩
          case rest =>
          obtain ⟨rfl, rfl⟩ := hcut
          clear hcc q1
          have HE : Hid ((List.range i).flatMap (asksI c) ++ keysP (p.take p.length) = (List.range (i + 1)).flatMap (asksI c)) := by
            rw [Hid, List.take_length, HRF.out, HAE.out]
          have HS0 : Hid (putsL ((List.range i).flatMap (asksI c)) = putsL ((List.range i).flatMap (asksI c) ++ keysP (p.take 0))) := by rw [Hid]; simp [keysP]
          have HO0 : Hid (OwnK wc w.heap.size u3 (putsL ((List.range i).flatMap (asksI c) ++ keysP (p.take 0)))) := by rw [Hid, ← HS0.out]; exact HOi.out
          clear HRF HAE HS0 HOi
          obtain ⟨L1, hL1⟩ : ∃ L1, L1 = (List.range (i + 1)).flatMap (asksI c) := ⟨_, rfl⟩
          rw [← hL1] at HE
          have HL1 := hid_mk hL1
          clear hL1
          generalize (List.range i).flatMap (asksI c) = L0 at *
          go_wp2
          clear b0 b1 q2
          go_loopw [3, 36] (fun a3 a36 wq => ∃ t : Nat, t ≤ p.length ∧ a36 = .int .i64 (t : Int) ∧ Hid (OwnK wq w.heap.size a3 (putsL (L0 ++ keysP (p.take t)))) ∧ Hid (Below w.heap.size w wq) ∧ Hid (wq.heap[w.heap.size]? = some (.cells #[.slice (some ⟨bp, op, none⟩) c.parts.length pc, .slice (some ⟨bc, oc, none⟩) c.combs.length cc] 36 (0, 0)))) (fun _ a36 _ => p.length + 1 - (intOf a36).toNat)
          case atStart => exact ⟨0, Nat.zero_le _, rfl, HO0, HBi, HXi⟩
          case round =>
            obtain ⟨t, ht, rfl, HOt, HBt, HXt⟩ := hrel
            clear HO0 HXi HBi
            by_cases htl : t < p.length
            · obtain ⟨rfl, _⟩ := HQA.out (by omega)
              have hcell := HQD.out _ HBt.out t htl
              have hnm := HPN.out t htl
              have HKP := hid_mk (keysP_succ htl)
              obtain ⟨s, hs⟩ : ∃ s, s = p[t].1 := ⟨_, rfl⟩
              rw [← hs] at hcell hnm HKP
              obtain ⟨la, ln, lc, hlv⟩ := HLS.out t htl
              rw [hlv] at hcell
              have y0 := hcell 0 _ rfl
              have y1 := hcell 1 _ rfl
              have y2 := hcell 2 _ rfl
              have y3 := hcell 3 _ rfl
              have y4 := hcell 4 _ rfl
              have y5 := hcell 5 _ rfl
              have y6 := hcell 6 _ rfl
              rw [Nat.add_zero] at y0
              obtain ⟨w1, hw1⟩ : ∃ w1, w1 = wr.alloc (.cells #[.int .i64 s.k, .string s.nm, .int .i64 s.op, .string s.v, .int .i64 s.a, .int .i64 s.b, .slice la ln lc] 47) := ⟨_, rfl⟩
              have hB1 : Below wr.heap.size wr w1 := by rw [hw1]; exact (Below.refl _ _).alloc (Nat.le_refl _) _
              have hS1 : w1.heap[wr.heap.size]? = some (.cells #[.int .i64 s.k, .string s.nm, .int .i64 s.op, .string s.v, .int .i64 s.a, .int .i64 s.b, .slice la ln lc] 47 (0, 0)) := by rw [hw1]; exact heap_alloc_last wr _
              have HXl : Hid (w.heap.size < wr.heap.size) := (Array.getElem?_eq_some_iff.1 HXt.out).1
              have HO1 := hid_mk (HOt.out.keep hB1)
              have HBB : Hid (Below w.heap.size w w1) := by rw [Hid, hw1]; exact HBt.out.alloc HBt.out.size _
              have HX1 : Hid (w1.heap[w.heap.size]? = some (.cells #[.slice (some ⟨bp, op, none⟩) c.parts.length pc, .slice (some ⟨bc, oc, none⟩) c.combs.length cc] 36 (0, 0))) := (hB1.block _ HXl.out).trans HXt.out
              have HW1 := hid_mk hw1
              have x0 : w1.cell? ⟨wr.heap.size, 0, none⟩ = some (.int .i64 s.k) := cellAt hS1 0
              have x1 : w1.cell? ⟨wr.heap.size, 1, none⟩ = some (.string s.nm) := cellAt hS1 1
              clear hcell hs hlv hw1 hB1 hS1 HOt
              go_upto_region 11 with (fail)
              rw [← HW1.out]
              clear HW1 y0 y1 y2 y3 y4 y5 y6
              go_cut [57] (fun s57 wx => s57 = .bool (keyedB s) ∧ wx = w1)
              case first =>
                by_cases h3 : s.k = 3
                · have e1 : Hid (keyedB s = true) := by simp [Hid, keyedB, h3]
                  have z1 : (s.k == 1) = false := by simp [h3]
                  have z3 : (s.k == 3) = true := by simp [h3]
                  have z2 : (s.k == 2) = false := by simp [h3]
                  clear h3
                  go_wp2_with fail
                  go_meet
                  exact ⟨by rw [e1.out], rfl⟩
                by_cases h2 : s.k = 2
                · have e1 : Hid (keyedB s = true) := by simp [Hid, keyedB, h2]
                  have z1 : (s.k == 1) = false := by simp [h2]
                  have z3 : (s.k == 3) = false := by simp [h2]
                  have z2 : (s.k == 2) = true := by simp [h2]
                  clear h2 h3
                  go_wp2_with fail
                  go_meet
                  exact ⟨by rw [e1.out], rfl⟩
                by_cases h1 : s.k = 1
                · have z1 : (s.k == 1) = true := by simp [h1]
                  have z3 : (s.k == 3) = false := by simp [h1]
                  have z2 : (s.k == 2) = false := by simp [h1]
                  have e1 : Hid (keyedB s = !(s.nm.toList == [42])) := by simp [Hid, keyedB, h1]
                  clear h1 h2 h3
                  cases hnn : (s.nm.toList == [42]) with
                  | true =>
                    rw [hnn] at e1
                    go_wp2_with fail
                    go_meet
                    exact ⟨by rw [e1.out]; rfl, rfl⟩
                  | false =>
                    rw [hnn] at e1
                    go_wp2_with fail
                    go_meet
                    exact ⟨by rw [e1.out]; rfl, rfl⟩
                · have z1 : (s.k == 1) = false := by simp [h1]
                  have z3 : (s.k == 3) = false := by simp [h3]
                  have z2 : (s.k == 2) = false := by simp [h2]
                  have e1 : Hid (keyedB s = false) := by simp [Hid, keyedB, h1, h2, h3]
                  clear h1 h2 h3
                  go_wp2_with fail
                  go_meet
                  exact ⟨by rw [e1.out], rfl⟩
              case rest =>
              obtain ⟨rfl, hwc⟩ := hcut
              rw [hwc]
              clear hwc
              cases hkb : keyedB s with
              | false =>
                rw [hkb] at HKP
                have HOZ : Hid (OwnK w1 w.heap.size u3 (putsL (L0 ++ keysP (p.take (t + 1))))) := by rw [Hid, HKP.out]; simpa using HO1.out
                clear HKP hkb x0 x1 HQD HPN HO1
                go_wp2
                exact ⟨⟨t + 1, htl, by go_num, HOZ, HBB, HX1⟩, by simp only [intOf]; omega⟩
              | true =>
                rw [hkb] at HKP
                have hky := rkey_any s.k s.nm hnm w1
                have hlt := HLT.out t
                clear hkb
                go_wp2_with (go_at_call 9; fail)
                refine hky.mono ?_
                rintro e w3 ⟨rfl, hB3⟩
                have hpt := rput_any (HO1.out.keep hB3) hlt (keyS s)
                unfold keyS at hpt
                have HX3 : Hid (w3.heap[w.heap.size]? = some (.cells #[.slice (some ⟨bp, op, none⟩) c.parts.length pc, .slice (some ⟨bc, oc, none⟩) c.combs.length cc] 36 (0, 0))) := (hB3.block _ (Array.getElem?_eq_some_iff.1 HX1.out).1).trans HX1.out
                have HB3 : Hid (Below w.heap.size w w3) := HBB.out.trans (hB3.mono HBB.out.size)
                clear hky hB3 HX1 HO1 HBB x0 x1
                go_wp2_with (go_at_call 25; fail)
                refine hpt.mono ?_
                rintro e w4 ⟨v4, rfl, hO4, hB4⟩
                have HX4 : Hid (w4.heap[w.heap.size]? = some (.cells #[.slice (some ⟨bp, op, none⟩) c.parts.length pc, .slice (some ⟨bc, oc, none⟩) c.combs.length cc] 36 (0, 0))) := (hB4.block _ (Array.getElem?_eq_some_iff.1 HX3.out).1).trans HX3.out
                have HB4 : Hid (Below w.heap.size w w4) := HB3.out.trans (hB4.mono HB3.out.size)
                have HOZ : Hid (OwnK w4 w.heap.size v4 (putsL (L0 ++ keysP (p.take (t + 1))))) := by
                  rw [Hid, HKP.out, if_pos trivial, ← List.append_assoc, puts_one]
                  exact hO4.low HB3.out.size
                clear hpt hO4 hB4 HQD HPN HKP HX3 HB3
                go_wp2
                exact ⟨⟨t + 1, htl, by go_num, HOZ, HB4, HX4⟩, by simp only [intOf]; omega⟩
            · obtain rfl : t = p.length := by omega
              have HOZ : Hid (OwnK wr w.heap.size u3 (putsL ((List.range (i + 1)).flatMap (asksI c)))) := by
                rw [Hid, ← HL1.out, ← HE.out]; exact HOt.out
              clear HQD HPN HQA HOt
              go_wp2
              exact ⟨⟨i + 1, hil, by go_num, HOZ, HBt, HXt⟩, by simp only [intOf]; omega⟩
        · have HAE : Hid (asksI c i = []) := by rw [Hid, HAI.out, if_neg hcc]
          have n1 : (cb != 1) = true := bne_iff_ne.2 fun h => hcc (.inl h)
          have n2 : (cb != 2) = true := bne_iff_ne.2 fun h => hcc (.inr h)
          clear hcc HAI HQD HPN HQA q2 b0 b1 HLI
          go_wp2
          exact ⟨⟨i + 1, hil, by go_num, by rw [Hid, HRF.out, HAE.out, List.append_nil]; exact HOi.out, HBi, HXi⟩, by simp only [intOf]; omega⟩
      · obtain rfl : i = c.combs.length := by omega
        clear HN HC HLM
        go_wp2
        go_ret
        exact ⟨_, rfl, by rw [HL.out]; exact HOi.out, HBi.out⟩
  · have HE : Hid (putsL (asksL c) = []) := by rw [Hid]; unfold asksL; rw [if_neg hl]; rfl
    have hne : ((c.combs.length : Int) != (c.parts.length : Int) - 1) = true := by
      rw [bne_iff_ne]; omega
    clear hl
    go_enter Try.func16, Try.ntmps16
    go_upto_region 1 with (fail)
    rw [← HW0.out]
    clear hw0 HW0
    go_wp2
    go_ret
    exact ⟨_, rfl, by rw [HE.out]; exact OwnK.nil _ _, HB0.out⟩
end Go.Proofs.Ytdiljkmlneeboaa
