/- The law BucketLasts. The table of signs, as it is laid. -/
import Derived.Test.YtdgkhpkgjkpmnaaGreatDoorKLd
import Derived.Test.YtdgkhpkgjkpmnaaGreatDoorKOp
import Derived.ProofKit
import Derived.OpenShut
import Derived.LaidMore
import Derived.Lib.LaidTab
import Derived.FnData
namespace Go.Proofs.YtdgkhpkgjkpmnaaGreatDoor.L
open Go.RowKit
set_option maxRecDepth 100000

theorem fit_nil : Fit [] := .mk [] (by simp) (by simp) (by simp)
theorem doc_fit : Fit docV := by
  refine .mk _ (by decide) (fun v hv => ?_) (fun v hv => ?_)
  · simp only [docV, List.mem_cons, List.not_mem_nil, or_false] at hv
    rcases hv with rfl | rfl | rfl | rfl | rfl | rfl | rfl | rfl | rfl | rfl | rfl <;> decide
  · simp only [docV, List.mem_cons, List.not_mem_nil, or_false] at hv
    rcases hv with rfl | rfl | rfl | rfl | rfl | rfl | rfl | rfl | rfl | rfl | rfl
    all_goals first
      | exact fit_nil
      | exact .mk _ (by decide) (fun v hv => by rw [show V.kids _ = [.mk (tk 1 ⟨#[97]⟩) []] from rfl, List.mem_singleton] at hv; rw [hv]; decide) (fun v hv => by rw [show V.kids _ = [.mk (tk 1 ⟨#[97]⟩) []] from rfl, List.mem_singleton] at hv; rw [hv]; exact fit_nil)
theorem doc_cnt : cntL docV ≤ 500000 := by decide
/-- The plain fields of the parts. -/
def plainP (c : Cx) : List (List S6) := c.parts.map (List.map Prod.fst)
theorem CxAt.see {W : World} {pv cv : Value} {c : Cx} {bc oc bp op : Nat} {qv : Nat → Value} {bq oq : Nat → Nat} {lv : Nat → Nat → Value} (h : CxAt (ClAt W) W pv cv c bc oc bp op qv bq oq lv) : LSee W pv (plainP c) ∧ ∃ ca cn cc, cv = .slice ca cn cc := by
  refine ⟨⟨bp, op, by rw [plainP, List.length_map]; exact h.ps, fun j hj => ?_⟩, ?_⟩
  · have hj' : j < c.parts.length := by simpa [plainP] using hj
    obtain ⟨qa, qc, e, h2⟩ := h.qs j hj'
    have el : ((plainP c)[j]'hj).length = (c.parts[j]'hj').length := by simp [plainP]
    refine ⟨qa, qc, ?_, ?_⟩
    · rw [el, ← e]
      exact h.pc j hj'
    · rw [el, ← e]
      refine ⟨bq j, oq j, by rw [el]; exact h.qs j hj', fun t ht => ?_⟩
      have ht' : t < (c.parts[j]'hj').length := by rw [← el]; exact ht
      obtain ⟨_, _, ⟨la, lc, e1, _⟩, _⟩ := (h.ls j hj' t ht').at
      refine ⟨la, ((c.parts[j]'hj')[t]'ht').2.length, lc, fun y u hu => h.qc j hj' t ht' y u ?_⟩
      rw [e1]
      simpa [plainP] using hu
  · obtain ⟨ca, cc, e, _⟩ := h.cs
    exact ⟨ca, _, cc, e⟩
theorem LSee.keep {W W' : World} {pv : Value} {ps : List (List S6)} (h : LSee W pv ps) (hb : Below W.heap.size W W') : LSee W' pv ps := by
  obtain ⟨b, off, h1, h2⟩ := h
  refine ⟨b, off, h1.keep hb, fun j hj => ?_⟩
  obtain ⟨qa, qc, h3, h4⟩ := h2 j hj
  exact ⟨qa, qc, by rw [h1.cell hb (by omega)]; exact h3, h4.keep hb⟩
theorem LSee.sl {W : World} {pv : Value} {ps : List (List S6)} (h : LSee W pv ps) : ∃ a n c, pv = .slice a n c := by
  obtain ⟨_, _, ⟨a, c, e, _⟩, _⟩ := h
  exact ⟨a, _, c, e⟩

theorem last_0 : lastQ (plainP (docC[0]'(by decide))) = (2, ⟨#[98]⟩) := by kernel_rfl
theorem last_1 : lastQ (plainP (docC[1]'(by decide))) = (1, ⟨#[99]⟩) := by kernel_rfl
theorem last_2 : lastQ (plainP (docC[2]'(by decide))) = (0, ⟨#[]⟩) := by kernel_rfl
theorem last_is {W : World} {pv cv : Value} {ps : List (List S6)} {r : Int × ByteArray} (e : lastQ ps = r) (h : LSee W pv ps) (hcv : ∃ ca cn cc, cv = .slice ca cn cc) : Calls Tryz.prog 6 #[.agg #[pv, cv]] W fun e w' => e = .returned (.tuple #[.int .i64 r.1, .string r.2]) ∧ Below W.heap.size W w' := by
  subst e
  exact last_any h hcv

set_option maxHeartbeats 1000000 in
theorem lives_any (W : World) (hsg : Signs W) : Calls Tryz.prog 5 #[] W fun e w' => e = .returned (.bool true) ∧ Below W.heap.size W w' := by
  have htx := text_any docS W hsg (by decide) (by rw [doc_len]; decide) (by rw [doc_vals]; exact doc_fit) (by rw [doc_vals]; exact doc_cnt)
  rw [doc_vals, doc_parse] at htx
  unfold docS at htx
  clear hsg
  go_enter Tryz.func5, Tryz.ntmps5
  go_wp2_with (go_at_call 8; fail)
  refine htx.mono ?_
  rintro e w1 ⟨u, rfl, hcl, hB1⟩
  obtain ⟨b, off, ⟨a, cap, rfl, hc1, hc2, hsa⟩, hat⟩ := hcl.at
  obtain ⟨rfl, hbw⟩ := hsa (by decide)
  obtain ⟨p0, v0, _, _, _, _, _, _, _, _, a0, b0, cx0⟩ := hat 0 (by decide)
  obtain ⟨p1, v1, _, _, _, _, _, _, _, _, a1, b1, cx1⟩ := hat 1 (by decide)
  obtain ⟨p2, v2, _, _, _, _, _, _, _, _, a2, b2, cx2⟩ := hat 2 (by decide)
  obtain ⟨s0, ca0, cn0, cc0, rfl⟩ := cx0.see
  obtain ⟨s1, ca1, cn1, cc1, rfl⟩ := cx1.see
  obtain ⟨s2, ca2, cn2, cc2, rfl⟩ := cx2.see
  have L0 : Hid (∀ w, Below w1.heap.size w1 w → Calls Tryz.prog 6 #[.agg #[p0, .slice ca0 cn0 cc0]] w fun e w' => e = .returned (.tuple #[.int .i64 2, .string ⟨#[98]⟩]) ∧ Below w.heap.size w w') := fun w hw => last_is last_0 (s0.keep hw) ⟨_, _, _, rfl⟩
  have L1 : Hid (∀ w, Below w1.heap.size w1 w → Calls Tryz.prog 6 #[.agg #[p1, .slice ca1 cn1 cc1]] w fun e w' => e = .returned (.tuple #[.int .i64 1, .string ⟨#[99]⟩]) ∧ Below w.heap.size w w') := fun w hw => last_is last_1 (s1.keep hw) ⟨_, _, _, rfl⟩
  have L2 : Hid (∀ w, Below w1.heap.size w1 w → Calls Tryz.prog 6 #[.agg #[p2, .slice ca2 cn2 cc2]] w fun e w' => e = .returned (.tuple #[.int .i64 0, .string ⟨#[]⟩]) ∧ Below w.heap.size w w') := fun w hw => last_is last_2 (s2.keep hw) ⟨_, _, _, rfl⟩
  obtain ⟨pa0, pn0, pc0, rfl⟩ := s0.sl
  obtain ⟨pa1, pn1, pc1, rfl⟩ := s1.sl
  obtain ⟨pa2, pn2, pc2, rfl⟩ := s2.sl
  simp only [Nat.zero_mul, Nat.one_mul, Nat.add_zero] at a0 b0 a1 b1 a2 b2
  have HB1 := hid_mk hB1
  rw [show docC.length = 3 from rfl] at *
  clear htx hcl hsa hat cx0 cx1 cx2 s0 s1 s2 hB1
  have l0 := L0.out w1 (Below.refl _ _)
  go_wp2_with (go_at_call 6; fail)
  refine l0.mono ?_
  rintro e w2 ⟨rfl, hB2⟩
  have l1 := L1.out w2 hB2
  have c1 := (hB2.cell (p := ⟨b, off + 2, none⟩) hbw).trans a1
  have d1 := (hB2.cell (p := ⟨b, off + 2 + 1, none⟩) hbw).trans b1
  have HB2 := hid_mk hB2
  clear l0 L0 hB2 a0 b0
  go_wp2_with (go_at_call 6; fail)
  refine l1.mono ?_
  rintro e w3 ⟨rfl, hB3⟩
  have hB3' : Below w1.heap.size w1 w3 := HB2.out.trans (hB3.mono HB2.out.size)
  have l2 := L2.out w3 hB3'
  have c2 := (hB3'.cell (p := ⟨b, off + 2 * 2, none⟩) hbw).trans a2
  have d2 := (hB3'.cell (p := ⟨b, off + 2 * 2 + 1, none⟩) hbw).trans b2
  have HB3 := hid_mk hB3'
  clear l1 L1 hB3 hB3' HB2 c1 d1 a1 b1
  go_wp2_with (go_at_call 6; fail)
  refine l2.mono ?_
  rintro e w4 ⟨rfl, hB4⟩
  have HB4 : Hid (Below W.heap.size W w4) := by
    have h1 := HB3.out.trans (hB4.mono HB3.out.size)
    exact HB1.out.trans (h1.mono HB1.out.size)
  clear l2 L2 hB4 HB3 c2 d2 a2 b2
  go_wp2
  go_ret
  exact ⟨rfl, HB4.out⟩
theorem ClAt.one {W : World} {pv cv : Value} {c : Cx} {bc oc bp op g : Nat} {qv : Nat → Value} {bq oq : Nat → Nat} {lv : Nat → Nat → Value} (h : CxAt (ClAt W) W pv cv c bc oc bp op qv bq oq lv) (h0 : W.heap[g]? = some (.cells #[pv, cv] 25 (0, 0))) : ClAt W (.slice (some ⟨g, 0, none⟩) 1 1) [c] := by
  have hz : ∀ i, i < [c].length → i = 0 := fun i hi => by simp at hi; omega
  refine .mk _ [c] g 0 (fun _ => pv) (fun _ => cv) (fun _ => bc) (fun _ => oc) (fun _ => bp) (fun _ => op) (fun _ => qv) (fun _ => bq) (fun _ => oq) (fun _ => lv) ⟨_, 1, rfl, Nat.le_refl _, by decide, fun _ => ⟨rfl, (Array.getElem?_eq_some_iff.1 h0).1⟩⟩ (fun i hi => ?_) (fun i hi => ?_) (fun i hi => ?_) (fun i hi => ?_) (fun i hi => ?_) (fun i hi => ?_) (fun i hi => ?_) (fun i hi => ?_)
  · cases hz i hi
    exact ⟨cellAt h0 0, cellAt h0 1⟩
  · cases hz i hi
    exact h.cs
  · cases hz i hi
    exact h.cc
  · cases hz i hi
    exact h.ps
  · cases hz i hi
    exact h.pc
  · cases hz i hi
    exact h.qs
  · cases hz i hi
    exact h.qc
  · cases hz i hi
    exact h.ls

set_option maxHeartbeats 1000000 in
theorem lasts_walk (W : World) (hsg : Signs W) {pv cv : Value} {c : Cx} {bc oc bp op : Nat} {qv : Nat → Value} {bq oq : Nat → Nat} {lv : Nat → Nat → Value} (h : CxAt (ClAt W) W pv cv c bc oc bp op qv bq oq lv) :
    Calls Tryz.prog 3 #[.agg #[pv, cv]] W fun e w' => e = .returned (.bool true) ∧ Below W.heap.size W w' := by
  obtain ⟨hse, ca, cn, cc, rfl⟩ := h.see
  obtain ⟨pa, pn, pc, rfl⟩ := hse.sl
  obtain ⟨W1, hW1⟩ : ∃ W1, W1 = W.alloc (.cells #[.slice pa pn pc, .slice ca cn cc] 25) := ⟨_, rfl⟩
  have hB1 : Below W.heap.size W W1 := by rw [hW1]; exact (Below.refl _ _).alloc (Nat.le_refl _) _
  have x1 : W1.heap[W.heap.size]? = some (.cells #[.slice pa pn pc, .slice ca cn cc] 25 (0, 0)) := by rw [hW1]; exact heap_alloc_last W _
  have hl1 : W.heap.size < W1.heap.size := (Array.getElem?_eq_some_iff.1 x1).1
  have hB2 : Below W1.heap.size W1 (W1.alloc (.cells #[.slice pa pn pc, .slice ca cn cc] 25)) := (Below.refl _ _).alloc (Nat.le_refl _) _
  have hw := weight_some (ClAt.one ((h.keep hB1).keep hB2) (heap_alloc_last W1 _)) 200 _ (Below.refl _ _)
  have HLV : Hid (∀ w, Below W.heap.size W w → Calls Tryz.prog 5 #[] w fun e w' => e = .returned (.bool true) ∧ Below w.heap.size w w') := fun w hb => lives_any w (hsg.keep hb)
  have HLA : Hid (∀ w, Below W.heap.size W w → Calls Tryz.prog 6 #[.agg #[.slice pa pn pc, .slice ca cn cc]] w fun e w' => e = .returned (.tuple #[.int .i64 (lastQ (plainP c)).1, .string (lastQ (plainP c)).2]) ∧ Below w.heap.size w w') := fun w hb => last_any (hse.keep hb) ⟨_, _, _, rfl⟩
  have HLR : Hid (∀ w, Below W.heap.size W w → Calls Tryz.prog 7 #[.agg #[.slice pa pn pc, .slice ca cn cc]] w fun e w' => e = .returned (.tuple #[.int .i64 (lastQ (plainP c)).1, .string (lastQ (plainP c)).2]) ∧ Below w.heap.size w w') := fun w hb => rlast_any (hse.keep hb) ⟨_, _, _, rfl⟩
  generalize lastQ (plainP c) = R at *
  obtain ⟨Ri, Rs⟩ := R
  obtain ⟨k0, k1, _, _⟩ := cells2v x1
  have HB2 : Hid (Below W.heap.size W (W1.alloc (.cells #[.slice pa pn pc, .slice ca cn cc] 25))) := hB1.trans (hB2.mono hB1.size)
  have HK : Hid (∀ w, Below W1.heap.size W1 w → w.cell? ⟨W.heap.size, 0, none⟩ = some (.slice pa pn pc) ∧ w.cell? ⟨W.heap.size, 1, none⟩ = some (.slice ca cn cc)) := fun w hb => ⟨(hb.cell (p := ⟨W.heap.size, 0, none⟩) hl1).trans k0, (hb.cell (p := ⟨W.heap.size, 1, none⟩) hl1).trans k1⟩
  have HB12 := hid_mk hB2
  have HB1 := hid_mk hB1
  have HW1 := hid_mk hW1
  clear h hse hsg hW1 x1 hB2 hB1
  go_enter Tryz.func3, Tryz.ntmps3
  go_upto_region 1 with (fail)
  rw [← HW1.out]
  go_wp2_with (go_at_call 4; fail)
  refine hw.mono ?_
  rintro e w3 ⟨n, rfl, hb3⟩
  have hB3 : Below W1.heap.size W1 w3 := HB12.out.trans (hb3.mono HB12.out.size)
  have hBW3 : Below W.heap.size W w3 := HB1.out.trans (hB3.mono HB1.out.size)
  obtain ⟨m0, m1⟩ := HK.out w3 hB3
  have HB3 := hid_mk hB3
  have HBW3 := hid_mk hBW3
  clear hw hb3 hB3 hBW3 k0 k1
  by_cases hgt : (200 : Int) < n
  · have hd1 : decide ((200 : Int) < n) = true := decide_eq_true hgt
    have hlv := HLV.out w3 HBW3.out
    clear HLA HLR HLV HK
    go_wp2_with (go_at_call 5; fail)
    refine hlv.mono ?_
    rintro e w4 ⟨rfl, hb4⟩
    have HB4 : Hid (Below W.heap.size W w4) := HBW3.out.trans (hb4.mono HBW3.out.size)
    clear hlv hb4
    go_wp2
    go_ret
    exact ⟨rfl, HB4.out⟩
  · have hd1 : decide ((200 : Int) < n) = false := decide_eq_false hgt
    have hla := HLA.out w3 HBW3.out
    clear HLA
    go_wp2_with (go_at_call 6; fail)
    refine hla.mono ?_
    rintro e w4 ⟨rfl, hb4⟩
    have hB4 : Below W1.heap.size W1 w4 := HB3.out.trans (hb4.mono HB3.out.size)
    have hBW4 : Below W.heap.size W w4 := HB1.out.trans (hB4.mono HB1.out.size)
    obtain ⟨n0, n1⟩ := HK.out w4 hB4
    have hlr := HLR.out w4 hBW4
    have HB4 := hid_mk hB4
    clear hla hb4 hB4 hBW4 m0 m1 HLR
    simp only []
    go_wp2_with (go_at_call 7; fail)
    refine hlr.mono ?_
    rintro e w5 ⟨rfl, hb5⟩
    have hB5 : Below W1.heap.size W1 w5 := HB4.out.trans (hb5.mono HB4.out.size)
    have hBW5 : Below W.heap.size W w5 := HB1.out.trans (hB5.mono HB1.out.size)
    have hlv := HLV.out w5 hBW5
    have HBW5 := hid_mk hBW5
    clear hlr hb5 hB5 hBW5 n0 n1 HLV HK
    simp only []
    have hsb : (Rs.toList == Rs.toList) = true := by simp
    go_wp2_with (go_at_call 5; fail)
    refine hlv.mono ?_
    rintro e w6 ⟨rfl, hb6⟩
    have HB6 : Hid (Below W.heap.size W w6) := HBW5.out.trans (hb6.mono HBW5.out.size)
    clear hlv hb6
    go_wp2
    go_ret
    exact ⟨rfl, HB6.out⟩
end Go.Proofs.YtdgkhpkgjkpmnaaGreatDoor.L
namespace Go.Proofs.YtdgkhpkgjkpmnaaGreatDoor.L
open Go.ChangeShapes Go.WideShapes Go.ChangeAt Go.RowKit
set_option maxRecDepth 100000

theorem k122 : Tryz.prog.cellsOf 122 = 3 := by kernel_rfl
theorem k123 : Tryz.prog.cellsOf 123 = 45 := by kernel_rfl
theorem chunks : ∀ (n : Nat) (a b : List Value), a.length = 3 * n → b.length = 3 * n → (∀ i, i < n → (a.drop (i * 3)).take 3 = (b.drop (i * 3)).take 3) → a = b
  | 0, a, b, ha, hb, _ => by rw [List.length_eq_zero_iff.1 (by omega : a.length = 0), List.length_eq_zero_iff.1 (by omega : b.length = 0)]
  | n + 1, a, b, ha, hb, h => by
    have h0 := h 0 (by omega)
    rw [Nat.zero_mul, List.drop_zero, List.drop_zero] at h0
    have ih := chunks n (a.drop 3) (b.drop 3) (by rw [List.length_drop]; omega) (by rw [List.length_drop]; omega) fun i hi => by
      have := h (i + 1) (by omega)
      rw [List.drop_drop, List.drop_drop, show 3 + i * 3 = (i + 1) * 3 by omega]
      exact this
    rw [← List.take_append_drop 3 a, ← List.take_append_drop 3 b, h0, ih]
section
variable {H : Type} {enc : TypeId × Value → H} {W : World} {base : Nat} {sp : Nat → Bool} {held : Bool}
theorem row3 {m : Nat} {cs : List Value} {a b : Int} {s : List UInt8} {p : List MemPlace} (hf : DataW.trod enc Tryz.prog W base sp held m 122 cs = some (.agg [.lit (.int .i64 a), .lit (.int .i64 b), .lit (.string s)], p)) (hl : cs.length = 3) : cs = [.int .i64 a, .int .i64 b, .string ⟨s.toArray⟩] := by
  obtain ⟨y0, y1, y2, rfl⟩ : ∃ y0 y1 y2, cs = [y0, y1, y2] := by
    match cs, hl with
    | [a, b, c], _ => exact ⟨a, b, c, rfl⟩
  obtain ⟨xs, n, hmn, hx, hl2, hxl, hel⟩ := DataW.trod_struct Tryz.underlying122 hf
  have h0 := hel 0 _ rfl
  have h1 := hel 1 _ rfl
  have h2 := hel 2 _ rfl
  have hxl3 : xs.length = 3 := hxl
  obtain ⟨x0, x1, x2, rfl⟩ : ∃ x0 x1 x2, xs = [x0, x1, x2] := by
    match xs, hxl3 with
    | [a, b, c], _ => exact ⟨a, b, c, rfl⟩
  obtain ⟨k, a0, b0, _⟩ := DataW.trod_int Tryz.underlying3 h0
  obtain ⟨l, a1, b1, _⟩ := DataW.trod_int Tryz.underlying3 h1
  obtain ⟨nm, a2, b2, _⟩ := DataW.trod_string Tryz.underlying9 h2
  have e0 : y0 = .int .i64 k := head_of (by rw [← a0]; show _ = List.take (Tryz.prog.cellsOf 3) _; rw [k3]; rfl)
  have e1 : y1 = .int .i64 l := head_of (by rw [← a1]; show _ = List.take (Tryz.prog.cellsOf 3) _; rw [k3]; rfl)
  have e2 : y2 = .string nm := head_of (by rw [← a2]; show _ = List.take (Tryz.prog.cellsOf 9) _; rw [k9]; rfl)
  have hx1 := congrArg Prod.fst hx
  simp only [List.map_cons, List.map_nil] at hx1
  subst b0 b1 b2
  simp only [DataW.agg.injEq, List.cons.injEq, DataW.lit.injEq, Lit.int.injEq, Lit.string.injEq, true_and, and_true] at hx1
  obtain ⟨g0, g1, g2⟩ := hx1
  rw [e0, e1, e2, g0, g1, g2]
end
theorem sgn_len : sgnC.length = 45 := rfl
theorem signs_of {W : World} {fuel : Nat} {cs : List Value} {p : List MemPlace} (h : DataW.trod (fun _ => ()) Tryz.prog W 0 (fun _ => true) false fuel 123 cs = some (Rows.laid_gouache_selector_signs, p)) : cs = sgnC := by
  obtain ⟨xs, m, _, hx, hl, hxl, hel⟩ := DataW.trod_array Tryz.underlying123 h
  rw [k123] at hl
  have hx1 := congrArg Prod.fst hx
  simp only [] at hx1
  have hx2 : ∀ i (hi : i < xs.length), some ((xs[i]'hi).1) = (xs.map (·.1))[i]? := fun i hi => by rw [List.getElem?_map, List.getElem?_eq_getElem hi]; rfl
  unfold Rows.laid_gouache_selector_signs at hx1
  injection hx1 with hx1
  refine chunks 15 cs sgnC hl sgn_len fun i hi => ?_
  have h1 := hel i hi
  rw [k122, List.getElem?_eq_getElem (by omega)] at h1
  have h2 := hx2 i (by omega)
  rw [← hx1] at h2
  have hcl : ((cs.drop (i * 3)).take 3).length = 3 := by rw [List.length_take, List.length_drop, hl]; omega
  obtain ⟨⟨xd, xp⟩, hxi⟩ : ∃ y, y = xs[i]'(by omega) := ⟨_, rfl⟩
  rw [← hxi] at h1 h2
  simp only [] at h2
  have hc : i = 0 ∨ i = 1 ∨ i = 2 ∨ i = 3 ∨ i = 4 ∨ i = 5 ∨ i = 6 ∨ i = 7 ∨ i = 8 ∨ i = 9 ∨ i = 10 ∨ i = 11 ∨ i = 12 ∨ i = 13 ∨ i = 14 := by omega
  clear hxi
  rcases hc with rfl | rfl | rfl | rfl | rfl | rfl | rfl | rfl | rfl | rfl | rfl | rfl | rfl | rfl | rfl
  all_goals
    have h3 := Option.some.inj h2
    subst h3
    exact row3 h1 hcl
def laid3 : List (String × DataW Unit) := [("unicode/utf8.acceptRanges", Rows.laid_unicode_utf8_acceptRanges), ("gouache/selector.signs", Rows.laid_gouache_selector_signs), ("unicode/utf8.first", Rows.laid_unicode_utf8_first)]
theorem gsg : Tryz.prog.globalNamed "gouache/selector.signs" = some 1 := by kernel_rfl
theorem tsg : (Tryz.prog.globals[1]?).map (·.type) = some 123 := by kernel_rfl
theorem of_laid {W : World} (h : laidMetH Tryz.prog laid3 W) : Signs W := by
  rw [MakeChecks.laidMetH_plain _ _ _ (by kernel_rfl)] at h
  obtain ⟨ps, ⟨g0, t0, cs0, f0, p0, q0, hg0, ht0, hv0, hd0, ⟨g1, t1, cs1, f1, p1, q1, hg1, ht1, hv1, hd1, _, _⟩, _⟩, _, _⟩ := h
  obtain rfl := Option.some.inj (gsg.symm.trans hg1)
  obtain rfl := Option.some.inj (tsg.symm.trans ht1)
  have e := signs_of hd1
  intro j v hv
  have := World.var?_cell gsg hv1 j
  rw [Nat.zero_add]
  refine this.trans ?_
  rw [← e] at hv
  simpa using hv
end Go.Proofs.YtdgkhpkgjkpmnaaGreatDoor.L
