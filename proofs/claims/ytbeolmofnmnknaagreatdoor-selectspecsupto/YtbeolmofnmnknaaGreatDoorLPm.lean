/- selector.Most: what its loop keeps. selector.Most: the walk. selector.Of: one selector. A List within one of a kind; a Part more: where they lie. selector.Parse: the mathematics of lists whose Lists come later. -/
import Derived.Test.YtbeolmofnmnknaaGreatDoorLSd
namespace Go.Proofs.YtbeolmofnmnknaaGreatDoor.L
open Go.RowKit
set_option maxRecDepth 100000

theorem info39 : ∃ i z, Tryz.prog.info? 30 = some i ∧ i.zero = some z ∧ i.size = 3 ∧ i.bytes = 24 ∧ z.cells.size = 3 := ⟨_, _, by rfl, by rfl, by rfl, by rfl, by rfl⟩
/-- The row of specificities, from m on; all that was before stays. -/
structure Ms (w2 : World) (al : List (List Cx)) (m : Nat) (w : World) : Prop where
  row : ∃ cur : Array Value, w.heap[w2.heap.size]? = some (.cells cur 30 (0, 0)) ∧ cur.size = al.length * 3 ∧ ∀ j (h : j < al.length), m ≤ j → cur[j * 3]? = some (.int .i64 (mostZ (al[j]'h)).a) ∧ cur[j * 3 + 1]? = some (.int .i64 (mostZ (al[j]'h)).b) ∧ cur[j * 3 + 2]? = some (.int .i64 (mostZ (al[j]'h)).c)
  bel : Below w2.heap.size w2 w
theorem Ms.start {w2 w : World} {al : List (List Cx)} {xs : List Value} (h : w.ownsRow w2.heap.size 30 3 (.slice (some ⟨w2.heap.size, 0, none⟩) al.length al.length) al.length xs) (hb : Below w2.heap.size w2 w) : Ms w2 al al.length w := by
  refine ⟨?_, hb⟩
  rcases h.2 with ⟨e, _⟩ | ⟨g, cap, cur, e, _, h2, _, _, h5, _⟩
  · cases e
  · cases e
    exact ⟨cur, h2, h5, fun j h1 h2 => by omega⟩
theorem Ms.then {w2 w w' : World} {al : List (List Cx)} {m : Nat} (h : Ms w2 al m w) (hb : Below w.heap.size w w') : Ms w2 al m w' := by
  obtain ⟨cur, h1, h2, h3⟩ := h.row
  exact ⟨⟨cur, (hb.block _ (Array.getElem?_eq_some_iff.1 h1).1).trans h1, h2, h3⟩, h.bel.trans (hb.mono h.bel.size)⟩
/-- The part of the row that lies behind. -/
theorem Ms.sp {w2 w : World} {al : List (List Cx)} {m k : Nat} (h : Ms w2 al m w) (hk : m ≤ k) (hkn : k ≤ al.length) (hbig : al.length ≤ 1000000) {ia : Option Addr} (hia : k < al.length → ia = some ⟨w2.heap.size, k * 3, none⟩) : SpAt w (.slice ia (al.length - k) (al.length - k)) ((al.drop k).map mostZ) := by
  obtain ⟨cur, h1, h2, h3⟩ := h.row
  refine ⟨w2.heap.size, k * 3, ⟨ia, al.length - k, by rw [List.length_map, List.length_drop], by rw [List.length_map, List.length_drop]; exact Nat.le_refl _, by omega, fun h0 => ⟨hia (by rw [List.length_map, List.length_drop] at h0; omega), (Array.getElem?_eq_some_iff.1 h1).1⟩⟩, fun i hi => ?_⟩
  have hi' : k + i < al.length := by rw [List.length_map, List.length_drop] at hi; omega
  obtain ⟨q0, q1, q2⟩ := h3 (k + i) hi' (by omega)
  have hc : ∀ o u, cur[o]? = some u → w.cell? ⟨w2.heap.size, o, none⟩ = some u := fun o u hu => (cellAt h1 o).trans hu
  rw [List.getElem_map, List.getElem_drop, show k * 3 + i * 3 = (k + i) * 3 by omega]
  exact ⟨hc _ _ q0, hc _ _ q1, hc _ _ q2⟩
/-- One more is laid down. -/
theorem Ms.put {w2 w : World} {al : List (List Cx)} {i : Nat} (h : Ms w2 al (i + 1) w) (hi : i < al.length) : Ms w2 al i (((w.setCell ⟨w2.heap.size, i * 3, none⟩ (.int .i64 (mostZ (al[i]'hi)).a)).setCell ⟨w2.heap.size, i * 3 + 1, none⟩ (.int .i64 (mostZ (al[i]'hi)).b)).setCell ⟨w2.heap.size, i * 3 + 2, none⟩ (.int .i64 (mostZ (al[i]'hi)).c)) := by
  obtain ⟨cur, h1, h2, h3⟩ := h.row
  have s1 := set_at (i * 3) (.int .i64 (mostZ (al[i]'hi)).a) (0, 0) h1
  have s2 := set_at (i * 3 + 1) (.int .i64 (mostZ (al[i]'hi)).b) (0, 0) s1
  have s3 := set_at (i * 3 + 2) (.int .i64 (mostZ (al[i]'hi)).c) (0, 0) s2
  refine ⟨⟨_, s3, by simpa using h2, fun j hj hij => ?_⟩, ((h.bel.setCell (p := ⟨w2.heap.size, i * 3, none⟩) (Nat.le_refl _) _).setCell (p := ⟨w2.heap.size, i * 3 + 1, none⟩) (Nat.le_refl _) _).setCell (p := ⟨w2.heap.size, i * 3 + 2, none⟩) (Nat.le_refl _) _⟩
  by_cases hj2 : j = i
  · subst hj2
    have b0 : j * 3 < cur.size := by omega
    have b1 : j * 3 + 1 < cur.size := by omega
    have b2 : j * 3 + 2 < cur.size := by omega
    simp [b0, b1, b2]
  · obtain ⟨q0, q1, q2⟩ := h3 j hj (by omega)
    refine ⟨?_, ?_, ?_⟩
    · rw [Array.getElem?_setIfInBounds_ne (by omega), Array.getElem?_setIfInBounds_ne (by omega), Array.getElem?_setIfInBounds_ne (by omega)]
      exact q0
    · rw [Array.getElem?_setIfInBounds_ne (by omega), Array.getElem?_setIfInBounds_ne (by omega), Array.getElem?_setIfInBounds_ne (by omega)]
      exact q1
    · rw [Array.getElem?_setIfInBounds_ne (by omega), Array.getElem?_setIfInBounds_ne (by omega), Array.getElem?_setIfInBounds_ne (by omega)]
      exact q2
end Go.Proofs.YtbeolmofnmnknaaGreatDoor.L
namespace Go.Proofs.YtbeolmofnmnknaaGreatDoor.L
open Go.RowKit
set_option maxRecDepth 100000

set_option maxHeartbeats 1000000 in
theorem most_any {W : World} {v : Value} {l : List Cx} (h : ClAt W v l) (hsz : szZ l ≤ 1000000) :
    Calls Tryz.prog 6 #[v] W fun e w' => e = .returned (mostZ l).v ∧ Below W.heap.size W w' := by
  obtain ⟨i0, hi0, hz0, hz1, hz2⟩ : ∃ i, Tryz.prog.info? 30 = some i ∧ i.zero = some (.agg #[.int .i64 0, .int .i64 0, .int .i64 0]) ∧ i.size = 3 ∧ i.bytes = 24 := ⟨_, by rfl, by rfl, by rfl, by rfl⟩
  obtain ⟨a, ll, cap, rfl⟩ : ∃ a n c, v = .slice a n c := by
    obtain ⟨_, _, ⟨a, cap, e, _⟩, _⟩ := h.at
    exact ⟨_, _, _, e⟩
  obtain ⟨W1, hW1⟩ : ∃ W1, W1 = W.alloc (.cells #[.int .i64 0, .int .i64 0, .int .i64 0] 30) := ⟨_, rfl⟩
  have hB1 : Below W.heap.size W W1 := by rw [hW1]; exact (Below.refl _ _).alloc (Nat.le_refl _) _
  have hR1 : SB W1 W.heap.size z3 := by
    unfold SB
    rw [hW1]
    exact heap_alloc_last W _
  have hcall := spread_any (h.keep hB1) hsz
  have HSZ := hid_mk hsz
  have HB1 := hid_mk hB1
  have HR1 := hid_mk hR1
  have HW1 := hid_mk hW1
  clear h hB1 hR1 hsz hW1
  go_enter Tryz.func6, Tryz.ntmps6
  go_upto_region 1 with (fail)
  rw [← HW1.out]
  clear HW1
  go_wp2_with (go_at_call 12; fail)
  refine hcall.mono ?_
  rintro e w2 ⟨av, iv, al, ins, rfl, ⟨us, hus, hf⟩, hin, hq, hb2⟩
  clear hcall
  obtain ⟨aa, an, ac, rfl⟩ := own_sl hus
  obtain ⟨ia, im, ic, rfl⟩ := own_sl hin
  have hnl : an = al.length := own_n hus
  have hml : im = ins.length := own_n hin
  have hql := hq.len
  have hbig : an ≤ 1000000 := by
    have := hq.big
    have := HSZ.out
    omega
  have hpos : 0 < an := by
    have h1 := hq.first
    have := (List.getElem?_eq_some_iff.1 h1).1
    omega
  have HCE : Hid (∀ i, i < an → ∃ (hi : i < al.length) (k : Nat) (ag ig : Nat) (xa : Option Addr) (xn xc : Nat), aa = some ⟨ag, 0, none⟩ ∧ an ≤ ac ∧ ac ≤ 9223372036854775807 ∧ ia = some ⟨ig, 0, none⟩ ∧ im ≤ ic ∧ ic ≤ 9223372036854775807 ∧ ag < w2.heap.size ∧ ig < w2.heap.size ∧ w2.cell? ⟨ag, i, none⟩ = some (.slice xa xn xc) ∧ w2.cell? ⟨ig, i, none⟩ = some (.int .i64 (k : Int)) ∧ ClAt W1 (.slice xa xn xc) (al[i]'hi) ∧ i < k ∧ k ≤ an ∧ ∃ rest, al.drop k = wgL (al[i]'hi) ++ rest) := fun i hi => by
    have hi' : i < al.length := by omega
    have hi2 : i < ins.length := by omega
    obtain ⟨ag, agc, x, e1, hag, _, hc1, hc2, hx, cx⟩ := own_cell hus hi'
    obtain ⟨ig, igc, y, e2, hig, _, hd1, hd2, hy, cy⟩ := own_cell hin hi2
    have hxi : i < us.length := by have := hf.len; omega
    rw [List.getElem?_eq_getElem hxi] at hx
    have hcl := hf.get i hxi hi'
    rw [Option.some.inj hx] at hcl
    obtain ⟨xa, xn, xc, rfl⟩ : ∃ a n c, x = .slice a n c := by
      obtain ⟨_, _, ⟨a, cap, e, _⟩, _⟩ := hcl.at
      exact ⟨_, _, _, e⟩
    rw [List.getElem?_map, List.getElem?_eq_getElem hi2] at hy
    obtain ⟨o1, o2, rest, o3⟩ := hq.ok i hi2 hi'
    cases hy
    cases e1
    cases e2
    exact ⟨hi', _, ag, ig, xa, xn, xc, rfl, hc1, hc2, rfl, hd1, hd2, hag, hig, cx, cy, hcl, o1, o2, rest, o3⟩
  have HFI : Hid (∀ hi : 0 < al.length, al[0]'hi = l) := fun hi => by
    have h1 := hq.first
    rw [List.getElem?_eq_getElem hi] at h1
    exact Option.some.inj h1
  have him : im = an := by omega
  subst him
  have HB2 := hid_mk hb2
  have HNL := hid_mk hnl
  have hszb : W.heap.size < w2.heap.size := by
    have h1 := (Array.getElem?_eq_some_iff.1 HR1.out).1
    have h2 := hb2.size
    omega
  clear hus hf hin hq hb2 hnl hml hql
  go_wp2_with (at_make; with_reducible refine wpList_make_full _ rfl _ _ 46 rfl w2.heap.size 30 i0 (.agg #[.int .i64 0, .int .i64 0, .int .i64 0]) 3 Tryz.underlying46 hi0 hz0 hz1 .i64 .i64 _ _ im rfl rfl rfl rfl ?c1 ?c2 ?c3 ?_)
  case c1 => rw [hz2]; omega
  case c2 => unfold maxLen; omega
  case c3 => exact Nat.le_refl _
  intro w3 ho3 hg3
  have HM0 : Hid (Ms w2 al im w3) := by
    rw [Hid]
    rw [HNL.out] at ho3 ⊢
    exact Ms.start ho3 ((Below.refl _ _).grown hg3 (Nat.le_refl _) fun k hk => by cases hk)
  clear ho3 hg3
  go_wp2
  go_loopw [6] (fun a6 wq => ∃ (m : Nat) (z : Int), m ≤ im ∧ z = (m : Int) - 1 ∧ a6 = .int .i64 z ∧ Hid (Ms w2 al m wq)) (fun a6 _ => (intOf a6 + 1).toNat)
  case atStart => exact ⟨im, _, Nat.le_refl _, rfl, rfl, HM0⟩
  case round =>
    obtain ⟨m, z, hm, hz, rfl, HM⟩ := hrel
    clear HM0
    cases m with
    | zero =>
      obtain rfl : z = -1 := by omega
      clear hz hm
      have hn0 : 0 < al.length := by have := HNL.out; omega
      obtain ⟨cur, h1, h2, h3⟩ := HM.out.row
      obtain ⟨q0, q1, q2⟩ := h3 0 hn0 (Nat.le_refl _)
      rw [HFI.out hn0] at q0 q1 q2
      rw [Nat.zero_mul] at q0 q1 q2
      have c0 : wr.cell? ⟨w2.heap.size, 0, none⟩ = some (.int .i64 (mostZ l).a) := (cellAt h1 0).trans q0
      have c1 : wr.cell? ⟨w2.heap.size, 1, none⟩ = some (.int .i64 (mostZ l).b) := (cellAt h1 1).trans q1
      have c2 : wr.cell? ⟨w2.heap.size, 2, none⟩ = some (.int .i64 (mostZ l).c) := (cellAt h1 2).trans q2
      have hbw : Below W1.heap.size W1 wr := HB2.out.trans (HM.out.bel.mono HB2.out.size)
      have hr : SB wr W.heap.size z3 := (hbw.block _ (Array.getElem?_eq_some_iff.1 HR1.out).1).trans HR1.out
      obtain ⟨⟨k0, k1, k2⟩, f0, f1, f2⟩ := cells3s hr
      have HBW : Hid (Below W.heap.size W wr) := HB1.out.trans (hbw.mono HB1.out.size)
      clear h1 h2 h3 q0 q1 q2 hr hbw HM HCE HFI
      go_wp2
      exact bodyPost_ret (by simp [results, Tryz.results6, go_sem, k0, k1, k2]; rfl) rfl ⟨rfl, below_set3 HBW.out (Nat.le_refl _) _ _ _⟩
    | succ i =>
      obtain rfl : z = (i : Int) := by omega
      clear hz
      obtain ⟨hi, k, ag, ig, xa, xn, xc, rfl, hc1, hc2, rfl, hd1, hd2, hag, hig, cx, cy, hcl, o1, o2, rest, o3⟩ := HCE.out i (by omega)
      have cx' := (HM.out.bel.cell (p := ⟨ag, i, none⟩) hag).trans cx
      have cy' := (HM.out.bel.cell (p := ⟨ig, i, none⟩) hig).trans cy
      have hbw : Below W1.heap.size W1 wr := HB2.out.trans (HM.out.bel.mono HB2.out.size)
      have HGR : Hid (∀ w' ia', Below wr.heap.size wr w' → (k < im → ia' = some ⟨w2.heap.size, k * 3, none⟩) → Calls Tryz.prog 13 #[.slice xa xn xc, .slice ia' (im - k) (im - k)] w' fun e w'' => e = .returned (.agg #[.int .i64 (mostZ (al[i]'hi)).a, .int .i64 (mostZ (al[i]'hi)).b, .int .i64 (mostZ (al[i]'hi)).c]) ∧ Below wr.heap.size wr w'') := fun w' ia' hb hia => by
        have hsp := (HM.out.then hb).sp (k := k) (ia := ia') o1 (by have := HNL.out; omega) (by have := HNL.out; omega) (fun h => hia (by have := HNL.out; omega))
        rw [o3, List.map_append, ← HNL.out] at hsp
        exact (greatest_any (hcl.keep (hbw.trans (hb.mono hbw.size))) hsp).mono fun _ _ q => ⟨q.1, hb.trans (q.2.mono hb.size)⟩
      have HCL : Hid (∀ w', Below wr.heap.size wr w' → (∃ x0 x1 x2, w'.cell? ⟨w2.heap.size, i * 3, none⟩ = some x0 ∧ w'.cell? ⟨w2.heap.size, i * 3 + 1, none⟩ = some x1 ∧ w'.cell? ⟨w2.heap.size, i * 3 + 2, none⟩ = some x2) ∧ w'.frozen? ⟨w2.heap.size, i * 3, none⟩ = false ∧ w'.frozen? ⟨w2.heap.size, i * 3 + 1, none⟩ = false ∧ w'.frozen? ⟨w2.heap.size, i * 3 + 2, none⟩ = false) := fun w' hb => by
        obtain ⟨cur, h1, h2, h3⟩ := (HM.out.then hb).row
        have b2 : i * 3 + 2 < cur.size := by omega
        refine ⟨⟨_, _, _, (cellAt h1 _).trans (Array.getElem?_eq_getElem (by omega)), (cellAt h1 _).trans (Array.getElem?_eq_getElem (by omega)), (cellAt h1 _).trans (Array.getElem?_eq_getElem b2)⟩, ?_, ?_, ?_⟩ <;> simp [World.frozen?, h1]
      have HPU : Hid (∀ w', Below wr.heap.size wr w' → Ms w2 al i (((w'.setCell ⟨w2.heap.size, i * 3, none⟩ (.int .i64 (mostZ (al[i]'hi)).a)).setCell ⟨w2.heap.size, i * 3 + 1, none⟩ (.int .i64 (mostZ (al[i]'hi)).b)).setCell ⟨w2.heap.size, i * 3 + 2, none⟩ (.int .i64 (mostZ (al[i]'hi)).c))) := fun w' hb => (HM.out.then hb).put hi
      generalize mostZ (al[i]'hi) = y at *
      have gr : Below wr.heap.size wr wr := Below.refl _ _
      have gd : Below wr.heap.size wr wr.drew := gr.drew
      have hin : i < im := by omega
      clear cx cy hcl hbw o3 HM HCE HFI
      go_upto_region 6 with (fail)
      go_region_law (go_simp; go_at_call 13; refine (HGR.out _ _ ?_ ?_).mono ?_; assumption; (intro hkk; first | rw [if_neg (by omega)] | (simp; omega)); rintro e w5 ⟨rfl, hb5⟩; obtain ⟨⟨x0, x1, x2, t0, t1, t2⟩, k0, k1, k2⟩ := HCL.out w5 hb5; have HS5 := hid_mk (HPU.out w5 hb5); clear hb5)
      all_goals
        obtain ⟨W6, hW6⟩ : ∃ W6, W6 = ((w5.setCell ⟨w2.heap.size, i * 3, none⟩ (.int .i64 y.a)).setCell ⟨w2.heap.size, i * 3 + 1, none⟩ (.int .i64 y.b)).setCell ⟨w2.heap.size, i * 3 + 2, none⟩ (.int .i64 y.c) := ⟨_, rfl⟩
        rw [← hW6] at HS5 ⊢
        clear hW6 t0 t1 t2 k0 k1 k2 HCL HPU HGR cx' cy' gr gd
        go_wp2
        exact ⟨⟨i, _, by omega, rfl, rfl, HS5⟩, by simp only [intOf]; omega⟩
end Go.Proofs.YtbeolmofnmnknaaGreatDoor.L
namespace Go.Proofs.YtbeolmofnmnknaaGreatDoor.L
open Go.RowKit
set_option maxRecDepth 100000

theorem ClAt.one {W : World} {g : Nat} {pv cv : Value} {c : Cx} {bc oc bp op : Nat} {qv : Nat → Value} {bq oq : Nat → Nat} {lv : Nat → Nat → Value} (h : CxAt (ClAt W) W pv cv c bc oc bp op qv bq oq lv) (hg : g < W.heap.size) (h0 : W.cell? ⟨g, 0, none⟩ = some pv) (h1 : W.cell? ⟨g, 1, none⟩ = some cv) : ClAt W (.slice (some ⟨g, 0, none⟩) 1 1) [c] := by
  have e : ∀ i (hi : i < [c].length), [c][i]'hi = c := fun i hi => by
    have : i = 0 := by simpa using hi
    subst this
    rfl
  refine .mk _ [c] g 0 (fun _ => pv) (fun _ => cv) (fun _ => bc) (fun _ => oc) (fun _ => bp) (fun _ => op) (fun _ => qv) (fun _ => bq) (fun _ => oq) (fun _ => lv) ⟨_, 1, rfl, Nat.le_refl _, by decide, fun _ => ⟨rfl, hg⟩⟩ (fun i hi => ?_) (fun i hi => ?_) (fun i hi t ht => ?_) (fun i hi => ?_) (fun i hi j hj => ?_) (fun i hi j hj => ?_) (fun i hi j hj t ht => ?_) (fun i hi j hj t ht => ?_)
  all_goals
    have : i = 0 := by simpa using hi
    subst this
  · exact ⟨h0, h1⟩
  · exact h.cs
  · exact h.cc t ht
  · exact h.ps
  · exact h.pc j hj
  · exact h.qs j hj
  · exact h.qc j hj t ht
  · exact h.ls j hj t ht

set_option maxHeartbeats 400000 in
theorem of_any {W : World} {pv cv : Value} {c : Cx} {bc oc bp op : Nat} {qv : Nat → Value} {bq oq : Nat → Nat} {lv : Nat → Nat → Value} (h : CxAt (ClAt W) W pv cv c bc oc bp op qv bq oq lv) (hsz : szZ [c] ≤ 1000000) :
    Calls Tryz.prog 9 #[.agg #[pv, cv]] W fun e w' => e = .returned (mostZ [c]).v ∧ Below W.heap.size W w' := by
  obtain ⟨pa, pc, rfl, _⟩ := h.ps
  obtain ⟨ca, cc, rfl, _⟩ := h.cs
  generalize c.parts.length = pn at *
  generalize c.combs.length = cn at *
  obtain ⟨W1, hW1⟩ : ∃ W1, W1 = ((W.alloc (.cells #[.slice pa pn pc, .slice ca cn cc] 26)).alloc (.cells #[.int .i64 0, .int .i64 0, .int .i64 0] 30)).alloc (.cells #[.slice pa pn pc, .slice ca cn cc] 26) := ⟨_, rfl⟩
  have hB1 : Below W.heap.size W W1 := by rw [hW1]; exact (((Below.refl _ _).alloc (Nat.le_refl _) _).alloc (by simp) _).alloc (by simp; omega) _
  have x2 : W1.heap[W.heap.size + 2]? = some (.cells #[.slice pa pn pc, .slice ca cn cc] 26 (0, 0)) := by
    have e : W.heap.size + 2 = ((W.alloc (.cells #[.slice pa pn pc, .slice ca cn cc] 26)).alloc (.cells #[.int .i64 0, .int .i64 0, .int .i64 0] 30)).heap.size := by simp
    rw [hW1, e]
    exact heap_alloc_last _ _
  have x1 : SB W1 (W.heap.size + 1) z3 := by
    have e : W.heap.size + 1 = (W.alloc (.cells #[.slice pa pn pc, .slice ca cn cc] 26)).heap.size := by simp
    unfold SB
    rw [hW1, Below.heap_alloc _ _ _ (by simp), e]
    exact heap_alloc_last _ _
  have hcall := most_any (ClAt.one (h.keep hB1) (Array.getElem?_eq_some_iff.1 x2).1 (cellAt x2 0) (cellAt x2 1)) hsz
  have HFR : Hid (∀ w', Below W1.heap.size W1 w' → SB w' (W.heap.size + 1) z3 ∧ Below W.heap.size W w') := fun w' hb => ⟨(hb.block _ (Array.getElem?_eq_some_iff.1 x1).1).trans x1, hB1.trans (hb.mono hB1.size)⟩
  have HW1 := hid_mk hW1
  unfold S3.v at hcall ⊢
  generalize mostZ [c] = R at *
  clear h hsz hB1 x1 x2 hW1
  go_enter Tryz.func9, Tryz.ntmps9
  go_wp2_with (go_at_call 6; fail)
  rw [← HW1.out]
  refine hcall.mono ?_
  rintro e w2 ⟨rfl, hb⟩
  obtain ⟨hs, hbw⟩ := HFR.out w2 hb
  obtain ⟨⟨k0, k1, k2⟩, f0, f1, f2⟩ := cells3s hs
  have HBW := hid_mk hbw
  clear hb hs hbw HFR hcall HW1
  go_wp2
  exact bodyPost_ret (by simp [results, Tryz.results9, go_sem, k0, k1, k2]) rfl ⟨rfl, below_set3 HBW.out (by omega) _ _ _⟩
end Go.Proofs.YtbeolmofnmnknaaGreatDoor.L
namespace Go.Proofs.YtbeolmofnmnknaaGreatDoor.L
open Go.RowKit
set_option maxRecDepth 100000

theorem sl_nil (W : World) (b off : Nat) : Sl W (.slice none 0 0) 0 b off := ⟨none, 0, rfl, Nat.le_refl _, by decide, fun h => absurd h (by omega)⟩
theorem sl_one {W : World} {g : Nat} (hg : g < W.heap.size) : Sl W (.slice (some ⟨g, 0, none⟩) 1 1) 1 g 0 := ⟨_, 1, rfl, Nat.le_refl _, by decide, fun _ => ⟨rfl, hg⟩⟩
theorem inK_at {W : World} {g1 g2 : Nat} {v : Value} {l : List Cx} {k : Int} (hv : ClAt W v l) (h1 : W.heap[g1]? = some (.cells #[.int .i64 k, .string ⟨#[]⟩, .int .i64 0, .string ⟨#[]⟩, .int .i64 0, .int .i64 0, v] 36 (0, 0))) (h2 : W.heap[g2]? = some (.cells #[.slice (some ⟨g1, 0, none⟩) 1 1] 37 (0, 0))) :
    CxAt (ClAt W) W (.slice (some ⟨g2, 0, none⟩) 1 1) (.slice none 0 0) (inK k l) 0 0 g2 0 (fun _ => .slice (some ⟨g1, 0, none⟩) 1 1) (fun _ => g1) (fun _ => 0) (fun _ _ => v) := by
  have l1 := (Array.getElem?_eq_some_iff.1 h1).1
  have l2 := (Array.getElem?_eq_some_iff.1 h2).1
  refine ⟨sl_nil _ _ _, fun t ht => absurd ht (by simp [inK, Cx.combs]), sl_one l2, fun j hj => ?_, fun j hj => ?_, fun j hj t ht y u hu => ?_, fun j hj t ht => ?_⟩
  · obtain rfl : j = 0 := by have : j < 1 := hj; omega
    exact cellAt h2 0
  · obtain rfl : j = 0 := by have : j < 1 := hj; omega
    exact sl_one l1
  · obtain rfl : j = 0 := by have : j < 1 := hj; omega
    obtain rfl : t = 0 := by have : t < 1 := ht; omega
    have hu' : (s7 (kd k) v)[y]? = some u := hu
    rw [Nat.zero_mul, Nat.zero_add, cellAt h1 y]
    rw [← hu']
    show (_ : List Value).toArray[y]? = _
    rw [List.getElem?_toArray]
    rfl
  · obtain rfl : j = 0 := by have : j < 1 := hj; omega
    obtain rfl : t = 0 := by have : t < 1 := ht; omega
    exact hv

set_option maxHeartbeats 400000 in
theorem within7_any {W : World} {v : Value} {l : List Cx} (k : Int) (hv : ClAt W v l) (hsz : szZ l ≤ 900000) :
    Calls Tryz.prog 7 #[.int .i64 k, v] W fun e w' => e = .returned (mostZ [inK k l]).v ∧ Below W.heap.size W w' := by
  obtain ⟨va, vn, vc, rfl⟩ : ∃ va vn vc, v = .slice va vn vc := by
    obtain ⟨_, _, ⟨a, c, e, _⟩, _⟩ := hv.at
    exact ⟨_, _, _, e⟩
  obtain ⟨W1, hW1⟩ : ∃ W1, W1 = ((W.alloc (.cells #[.int .i64 0, .int .i64 0, .int .i64 0] 30)).alloc (.cells #[.int .i64 k, .string ⟨#[]⟩, .int .i64 0, .string ⟨#[]⟩, .int .i64 0, .int .i64 0, .slice va vn vc] 36)).alloc (.cells #[.slice (some ⟨W.heap.size + 1, 0, none⟩) 1 1] 37) := ⟨_, rfl⟩
  have hB1 : Below W.heap.size W W1 := by rw [hW1]; exact (((Below.refl _ _).alloc (Nat.le_refl _) _).alloc (by simp) _).alloc (by simp; omega) _
  have x2 : W1.heap[W.heap.size + 1 + 1]? = some (.cells #[.slice (some ⟨W.heap.size + 1, 0, none⟩) 1 1] 37 (0, 0)) := by
    have e : W.heap.size + 1 + 1 = ((W.alloc (.cells #[.int .i64 0, .int .i64 0, .int .i64 0] 30)).alloc (.cells #[.int .i64 k, .string ⟨#[]⟩, .int .i64 0, .string ⟨#[]⟩, .int .i64 0, .int .i64 0, .slice va vn vc] 36)).heap.size := by simp
    rw [hW1, e]
    exact heap_alloc_last _ _
  have x1 : W1.heap[W.heap.size + 1]? = some (.cells #[.int .i64 k, .string ⟨#[]⟩, .int .i64 0, .string ⟨#[]⟩, .int .i64 0, .int .i64 0, .slice va vn vc] 36 (0, 0)) := by
    have e : W.heap.size + 1 = (W.alloc (.cells #[.int .i64 0, .int .i64 0, .int .i64 0] 30)).heap.size := by simp
    rw [hW1, Below.heap_alloc _ _ _ (by simp), e]
    exact heap_alloc_last _ _
  have x0 : SB W1 W.heap.size z3 := by
    unfold SB
    rw [hW1, Below.heap_alloc _ _ _ (by simp; omega), Below.heap_alloc _ _ _ (by simp)]
    exact heap_alloc_last _ _
  have hcall := of_any (inK_at (hv.keep hB1) x1 x2) (by have := sz_in k l; omega)
  have HFR : Hid (∀ w', Below W1.heap.size W1 w' → SB w' W.heap.size z3 ∧ Below W.heap.size W w') := fun w' hb => ⟨(hb.block _ (Array.getElem?_eq_some_iff.1 x0).1).trans x0, hB1.trans (hb.mono hB1.size)⟩
  have HW1 := hid_mk hW1
  unfold S3.v at hcall ⊢
  generalize mostZ [inK k l] = R at *
  clear hv hsz hB1 x0 x1 x2 hW1
  go_enter Tryz.func7, Tryz.ntmps7
  go_wp2_with (go_at_call 9; fail)
  rw [← HW1.out]
  refine hcall.mono ?_
  rintro e w2 ⟨rfl, hb⟩
  obtain ⟨hs, hbw⟩ := HFR.out w2 hb
  obtain ⟨⟨k0, k1, k2⟩, f0, f1, f2⟩ := cells3s hs
  have HBW := hid_mk hbw
  clear hb hs hbw HFR hcall HW1
  go_wp2
  exact bodyPost_ret (by simp [results, Tryz.results7, go_sem, k0, k1, k2]) rfl ⟨rfl, below_set3 HBW.out (by omega) _ _ _⟩
/-- The Parts of a selector as a row of their own, one more behind them. -/
def qvL (n : Nat) (qv : Nat → Value) : List Value := (List.range n).map qv
theorem qvL_get (n : Nat) (qv : Nat → Value) (j : Nat) : (qvL n qv)[j]? = if j < n then some (qv j) else none := by
  unfold qvL
  rw [List.getElem?_map]
  by_cases h : j < n
  · rw [if_pos h, List.getElem?_range h]
    rfl
  · rw [if_neg h, List.getElem?_eq_none (by simpa using h)]
    rfl
theorem onS_at {W : World} {pv cv rv v : Value} {c : Cx} {bc oc bp op g1 B : Nat} {qv : Nat → Value} {bq oq : Nat → Nat} {lv : Nat → Nat → Value} {l : List Cx} (h : CxAt (ClAt W) W pv cv c bc oc bp op qv bq oq lv) (hv : ClAt W v l)
    (h1 : W.heap[g1]? = some (.cells #[.int .i64 6, .string ⟨#[]⟩, .int .i64 0, .string ⟨#[]⟩, .int .i64 0, .int .i64 0, v] 36 (0, 0)))
    (ho : W.ownsRow B 37 1 rv (c.parts.length + 1) (qvL c.parts.length qv ++ [.slice (some ⟨g1, 0, none⟩) 1 1])) :
    ∃ bp' qv' bq' oq' lv', CxAt (ClAt W) W rv (.slice none 0 0) (onS c l) 0 0 bp' 0 qv' bq' oq' lv' := by
  have l1 := (Array.getElem?_eq_some_iff.1 h1).1
  obtain ⟨hlen, ⟨rfl, h0⟩ | ⟨g, cap, cur, rfl, hBg, hg, hnc, hcm, hcs, htake⟩⟩ := ho
  · omega
  have hcell : ∀ j u, (qvL c.parts.length qv ++ [Value.slice (some ⟨g1, 0, none⟩) 1 1])[j]? = some u → W.cell? ⟨g, 0 + j, none⟩ = some u := fun j u hu => by
    rw [← htake] at hu
    rw [Nat.zero_add, cellAt hg j, ← hu]
    have hj : j < (c.parts.length + 1) * 1 := by
      have := (List.getElem?_eq_some_iff.1 hu).1
      rw [List.length_take] at this
      omega
    rw [List.getElem?_take_of_lt hj, Array.getElem?_toList]
  have hql : (qvL c.parts.length qv).length = c.parts.length := by simp [qvL]
  have hpl : (onS c l).parts.length = c.parts.length + 1 := by simp [onS, Cx.parts]
  have hget : ∀ j (hj : j < c.parts.length) (hj' : j < (onS c l).parts.length), (onS c l).parts[j]'hj' = c.parts[j]'hj := fun j hj hj' => (List.getElem_of_eq (rfl : (onS c l).parts = c.parts ++ [[(kd 6, l)]]) hj').trans (List.getElem_append_left hj)
  have hlast : ∀ (hj' : c.parts.length < (onS c l).parts.length), (onS c l).parts[c.parts.length]'hj' = [(kd 6, l)] := fun hj' => (List.getElem_of_eq (rfl : (onS c l).parts = c.parts ++ [[(kd 6, l)]]) hj').trans (List.getElem_concat_length rfl _)
  refine ⟨g, fun j => if j < c.parts.length then qv j else .slice (some ⟨g1, 0, none⟩) 1 1, fun j => if j < c.parts.length then bq j else g1, fun j => if j < c.parts.length then oq j else 0, fun j t => if j < c.parts.length then lv j t else v, sl_nil _ _ _, fun t ht => absurd ht (by simp [onS, Cx.combs]), ⟨_, cap, by rw [hpl], by rw [hpl]; exact hnc, Nat.le_trans hcm (by decide), fun _ => ⟨rfl, (Array.getElem?_eq_some_iff.1 hg).1⟩⟩, fun j hj => ?_, fun j hj => ?_, fun j hj t ht y u hu => ?_, fun j hj t ht => ?_⟩
  · rw [hpl] at hj
    by_cases hjc : j < c.parts.length
    · simp only [if_pos hjc]
      refine hcell j _ ?_
      rw [List.getElem?_append_left (by omega), qvL_get, if_pos hjc]
    · obtain rfl : j = c.parts.length := by omega
      simp only [if_neg hjc]
      refine hcell _ _ ?_
      rw [List.getElem?_append_right (by omega), hql, Nat.sub_self]
      rfl
  · by_cases hjc : j < c.parts.length
    · simp only [if_pos hjc, hget j hjc hj]
      exact h.qs j hjc
    · obtain rfl : j = c.parts.length := by omega
      simp only [if_neg hjc, hlast hj]
      exact sl_one l1
  · by_cases hjc : j < c.parts.length
    · simp only [if_pos hjc] at hu ⊢
      have e := hget j hjc hj
      have ht' : t < (c.parts[j]'hjc).length := by rw [← e]; exact ht
      refine h.qc j hjc t ht' y u ?_
      have e2 : ((onS c l).parts[j]'hj)[t]'ht = (c.parts[j]'hjc)[t]'ht' := by
        simp only [e]
      rw [← e2]
      exact hu
    · obtain rfl : j = c.parts.length := by omega
      simp only [if_neg hjc] at hu ⊢
      have e := hlast hj
      obtain rfl : t = 0 := by rw [e] at ht; have : t < 1 := ht; omega
      have e2 : ((onS c l).parts[c.parts.length]'hj)[0]'ht = (kd 6, l) := by simp only [e]; rfl
      rw [e2] at hu
      have hu' : (s7 (kd 6) v)[y]? = some u := hu
      rw [Nat.zero_mul, Nat.zero_add, cellAt h1 y, ← hu']
      show (_ : List Value).toArray[y]? = _
      rw [List.getElem?_toArray]
      rfl
  · by_cases hjc : j < c.parts.length
    · simp only [if_pos hjc]
      have e := hget j hjc hj
      have ht' : t < (c.parts[j]'hjc).length := by rw [← e]; exact ht
      have e2 : ((onS c l).parts[j]'hj)[t]'ht = (c.parts[j]'hjc)[t]'ht' := by
        simp only [e]
      rw [e2]
      exact h.ls j hjc t ht'
    · obtain rfl : j = c.parts.length := by omega
      simp only [if_neg hjc]
      have e := hlast hj
      obtain rfl : t = 0 := by rw [e] at ht; have : t < 1 := ht; omega
      have e2 : ((onS c l).parts[c.parts.length]'hj)[0]'ht = (kd 6, l) := by simp only [e]; rfl
      rw [e2]
      exact hv
end Go.Proofs.YtbeolmofnmnknaaGreatDoor.L
namespace Go.Proofs.YtbeolmofnmnknaaGreatDoor.L
open Go.RowKit
set_option maxRecDepth 100000

/-- The compound selectors of a list, each with its slice. -/
def prs (l : List Cv) (xs : List (Value × Value × List Value)) : List (List Sv × Value) := (l.zip xs).flatMap fun y => y.1.1.zip y.2.2.2
/-- Those with a List: the List's values, and where the simple selector stands. -/
def tkF (g : Nat) : Nat → List Sv → List (List V × Addr)
  | _, [] => []
  | t, s :: r => (if lstB s.1.k = true then [(s.2, ⟨g, t * 7, none⟩)] else []) ++ tkF g (t + 1) r
def tks (l : List Cv) (xs : List (Value × Value × List Value)) : List (List V × Addr) := (prs l xs).flatMap fun z => tkF (blk z.2) 0 z.1
/-- Kinds and addresses. -/
def kaF (g : Nat) : Nat → List Sv → List (Int × Addr)
  | _, [] => []
  | t, s :: r => (s.1.k, ⟨g, t * 7, none⟩) :: kaF g (t + 1) r
def see (l : List Cv) (xs : List (Value × Value × List Value)) : List (List (List (Int × Addr))) := (l.zip xs).map fun y => (y.1.1.zip y.2.2.2).map fun z => kaF (blk z.2) 0 z.1
theorem kaF_len (g : Nat) : ∀ (t : Nat) (p : List Sv), (kaF g t p).length = p.length
  | _, [] => rfl
  | t, s :: r => by rw [kaF, List.length_cons, kaF_len g (t + 1) r, List.length_cons]
theorem kaF_get (g : Nat) : ∀ (t : Nat) (p : List Sv) (i : Nat) (h : i < (kaF g t p).length) (h' : i < p.length), (kaF g t p)[i]'h = ((p[i]'h').1.k, ⟨g, (t + i) * 7, none⟩)
  | t, s :: r, 0, h, h' => by simp [kaF]
  | t, s :: r, i + 1, h, h' => by
    simp only [kaF, List.getElem_cons_succ]
    rw [kaF_get g (t + 1) r i (by rw [kaF_len]; simp at h'; omega) (by simp at h'; omega)]
    rw [show t + 1 + i = t + (i + 1) by omega]
theorem kaF_sel (g : Nat) : ∀ (t : Nat) (p : List Sv), selP lstB (kaF g t p) = (tkF g t p).map Prod.snd
  | _, [] => rfl
  | t, s :: r => by
    have ih := kaF_sel g (t + 1) r
    unfold selP at ih ⊢
    rw [kaF, tkF, List.map_append, ← ih]
    by_cases h : lstB s.1.k = true
    · simp [h]
    · simp [h]
theorem tkF_kids (g : Nat) : ∀ (t : Nat) (p : List Sv), (tkF g t p).map Prod.fst = kidsOf p
  | _, [] => rfl
  | t, s :: r => by
    rw [tkF, List.map_append, tkF_kids g (t + 1) r]
    unfold kidsOf
    by_cases h : lstB s.1.k = true
    · simp [h]
    · simp [h]
theorem see_sel (l : List Cv) (xs : List (Value × Value × List Value)) : selL lstB (see l xs) = (tks l xs).map Prod.snd := by
  unfold selL see tks prs
  rw [List.flatMap_map, List.flatMap_assoc, List.map_flatMap]
  congr 1
  funext y
  unfold selC
  rw [List.flatMap_map, List.map_flatMap]
  congr 1
  funext z
  exact kaF_sel _ 0 _
/-- Each part has its slice. -/
def Lens (l : List Cv) (xs : List (Value × Value × List Value)) : Prop := xs.length = l.length ∧ ∀ i (h : i < l.length) (h' : i < xs.length), (xs[i]'h').2.2.length = (l[i]'h).1.length
theorem Lens.cons {c : Cv} {l : List Cv} {x : Value × Value × List Value} {xs : List (Value × Value × List Value)} (h : Lens (c :: l) (x :: xs)) : x.2.2.length = c.1.length ∧ Lens l xs :=
  ⟨h.2 0 (by simp) (by simp), by have := h.1; simpa using this, fun i hi hi' => by have := h.2 (i + 1) (by simpa using hi) (by simpa using hi'); simpa using this⟩
theorem zip_flat {α β γ : Type} (f : α → List γ) : ∀ (a : List α) (b : List β), b.length = a.length → (a.zip b).flatMap (fun z => f z.1) = a.flatMap f
  | [], _, _ => by simp
  | x :: r, [], h => by simp at h
  | x :: r, y :: s, h => by
    rw [List.zip_cons_cons, List.flatMap_cons, List.flatMap_cons, zip_flat f r s (by simpa using h)]
theorem tks_kids : ∀ (l : List Cv) (xs : List (Value × Value × List Value)), Lens l xs → (tks l xs).map Prod.fst = kidsL l
  | [], _, _ => by simp [tks, prs, kidsL]
  | c :: l, [], h => by have := h.1; simp at this
  | c :: l, x :: xs, h => by
    obtain ⟨h1, h2⟩ := h.cons
    have ih := tks_kids l xs h2
    have e1 : tks (c :: l) (x :: xs) = ((c.1.zip x.2.2).flatMap fun z => tkF (blk z.2) 0 z.1) ++ tks l xs := by
      unfold tks prs
      rw [List.zip_cons_cons, List.flatMap_cons, List.flatMap_append]
    rw [e1, List.map_append, ih, List.map_flatMap, show kidsL (c :: l) = kidsC c ++ kidsL l by simp [kidsL]]
    congr 1
    have e2 : (fun z : List Sv × Value => (tkF (blk z.2) 0 z.1).map Prod.fst) = fun z => kidsOf z.1 := by
      funext z
      exact tkF_kids _ 0 _
    rw [e2, zip_flat kidsOf c.1 x.2.2 h1]
    rfl
theorem tkF_mem {g : Nat} : ∀ {t : Nat} {p : List Sv} {x : List V × Addr}, x ∈ tkF g t p → ∃ i, ∃ h : i < p.length, lstB (p[i]'h).1.k = true ∧ x = ((p[i]'h).2, ⟨g, (t + i) * 7, none⟩)
  | _, [], _, h => by cases h
  | t, s :: r, x, h => by
    rw [tkF] at h
    rcases List.mem_append.1 h with h | h
    · by_cases hl : lstB s.1.k = true
      · rw [if_pos hl] at h
        exact ⟨0, by simp, hl, List.mem_singleton.1 h⟩
      · rw [if_neg hl] at h
        cases h
    · obtain ⟨i, hi, h1, h2⟩ := tkF_mem h
      exact ⟨i + 1, by simpa using hi, h1, by rw [h2, show t + 1 + i = t + (i + 1) by omega]; rfl⟩
theorem tkF_in {g : Nat} : ∀ {t : Nat} {p : List Sv} {i : Nat} (h : i < p.length), lstB (p[i]'h).1.k = true → ((p[i]'h).2, (⟨g, (t + i) * 7, none⟩ : Addr)) ∈ tkF g t p
  | t, s :: r, 0, h, hl => by
    rw [tkF]
    refine List.mem_append.2 (.inl ?_)
    have hl' : lstB s.1.k = true := hl
    rw [if_pos hl']
    exact List.mem_singleton.2 rfl
  | t, s :: r, i + 1, h, hl => by
    rw [tkF]
    refine List.mem_append.2 (.inr ?_)
    have := tkF_in (g := g) (t := t + 1) (p := r) (i := i) (by simpa using h) hl
    rw [show t + 1 + i = t + (i + 1) by omega] at this
    exact this
theorem prs_mem {l : List Cv} {xs : List (Value × Value × List Value)} {z : List Sv × Value} (h : z ∈ prs l xs) : ∃ i, ∃ hi : i < l.length, ∃ hi' : i < xs.length, ∃ j, ∃ hj : j < (l[i]'hi).1.length, ∃ hj' : j < (xs[i]'hi').2.2.length, z = ((l[i]'hi).1[j]'hj, (xs[i]'hi').2.2[j]'hj') := by
  obtain ⟨y, hy, hz⟩ := List.mem_flatMap.1 h
  obtain ⟨i, hi, rfl⟩ := List.mem_iff_getElem.1 hy
  obtain ⟨j, hj, rfl⟩ := List.mem_iff_getElem.1 hz
  have hi1 : i < l.length := by rw [List.length_zip] at hi; omega
  have hi2 : i < xs.length := by rw [List.length_zip] at hi; omega
  simp only [List.getElem_zip] at hj ⊢
  have hj1 : j < (l[i]'hi1).1.length := by rw [List.length_zip] at hj; omega
  have hj2 : j < (xs[i]'hi2).2.2.length := by rw [List.length_zip] at hj; omega
  exact ⟨i, hi1, hi2, j, hj1, hj2, rfl⟩
theorem prs_in {l : List Cv} {xs : List (Value × Value × List Value)} {i j : Nat} (hi : i < l.length) (hi' : i < xs.length) (hj : j < (l[i]'hi).1.length) (hj' : j < (xs[i]'hi').2.2.length) : ((l[i]'hi).1[j]'hj, (xs[i]'hi').2.2[j]'hj') ∈ prs l xs := by
  refine List.mem_flatMap.2 ⟨(l[i]'hi, xs[i]'hi'), ?_, ?_⟩
  · rw [List.mem_iff_getElem]
    exact ⟨i, by rw [List.length_zip]; omega, by simp [List.getElem_zip]⟩
  · rw [List.mem_iff_getElem]
    exact ⟨j, by simp only []; rw [List.length_zip]; omega, by simp [List.getElem_zip]⟩
theorem prs_snd : ∀ (l : List Cv) (xs : List (Value × Value × List Value)), Lens l xs → (prs l xs).map Prod.snd = xs.flatMap fun x => x.2.2
  | [], xs, h => by
    have : xs = [] := List.length_eq_zero_iff.1 h.1
    subst this
    rfl
  | c :: l, [], h => by have := h.1; simp at this
  | c :: l, x :: xs, h => by
    obtain ⟨h1, h2⟩ := h.cons
    have ih := prs_snd l xs h2
    unfold prs at ih ⊢
    rw [List.zip_cons_cons, List.flatMap_cons, List.map_append, ih, List.flatMap_cons]
    congr 1
    exact List.map_snd_zip (Nat.le_of_eq h1)
theorem tkF_off {g : Nat} : ∀ (t : Nat) (p : List Sv), (tkF g t p).Pairwise fun x y => x.2 ≠ y.2
  | _, [] => List.Pairwise.nil
  | t, s :: r => by
    rw [tkF]
    refine List.pairwise_append.2 ⟨by split <;> simp, tkF_off (t + 1) r, fun x hx y hy => ?_⟩
    by_cases hl : lstB s.1.k = true
    · rw [if_pos hl] at hx
      rw [List.mem_singleton.1 hx]
      obtain ⟨i, hi, _, rfl⟩ := tkF_mem hy
      intro e
      have : t * 7 = (t + 1 + i) * 7 := congrArg Addr.off e
      omega
    · rw [if_neg hl] at hx
      cases hx
/-- No two of them stand at one place. -/
theorem tks_apart {l : List Cv} {xs : List (Value × Value × List Value)} (hl : Lens l xs) (hu : (xs.flatMap fun x => x.2.2).Pairwise fun x y => blk x < blk y) : (tks l xs).Pairwise fun x y => x.2 ≠ y.2 := by
  rw [← prs_snd l xs hl, List.pairwise_map] at hu
  unfold tks
  refine List.pairwise_flatMap.2 ⟨fun z _ => tkF_off 0 _, hu.imp fun {a b} hab x hx y hy => ?_⟩
  obtain ⟨i, _, _, rfl⟩ := tkF_mem hx
  obtain ⟨j, _, _, rfl⟩ := tkF_mem hy
  intro e
  have : blk a.2 = blk b.2 := congrArg Addr.block e
  omega
theorem allO_get {α β : Type} {f : α → Option β} : ∀ {l : List α} {R : List β}, allO f l = some R → R.length = l.length ∧ ∀ i (h : i < l.length) (h' : i < R.length), f (l[i]'h) = some (R[i]'h')
  | [], R, h => by
    cases h
    exact ⟨rfl, fun i h => absurd h (by simp)⟩
  | a :: r, R, h => by
    unfold allO at h
    cases ha : f a with
    | none => rw [ha] at h; cases h
    | some b =>
      rw [ha] at h
      cases hr : allO f r with
      | none => rw [hr] at h; cases h
      | some L =>
        rw [hr] at h
        cases h
        obtain ⟨h1, h2⟩ := allO_get hr
        refine ⟨by simp [h1], fun i hi hi' => ?_⟩
        cases i with
        | zero => exact ha
        | succ i => exact h2 i (by simpa using hi) (by simpa using hi')
theorem allO_none {α β : Type} {f : α → Option β} : ∀ {l : List α}, allO f l = none → ∃ a ∈ l, f a = none
  | [], h => by cases h
  | a :: r, h => by
    unfold allO at h
    cases ha : f a with
    | none => exact ⟨a, by simp, ha⟩
    | some b =>
      rw [ha] at h
      cases hr : allO f r with
      | none =>
        obtain ⟨x, hx, e⟩ := allO_none hr
        exact ⟨x, by simp [hx], e⟩
      | some L => rw [hr] at h; cases h
theorem fC_get {f : List V → Option (List Cx)} {c : Cv} {x : Cx} (h : fC f c = some x) : x.combs = c.2 ∧ allO (allO (fS f)) c.1 = some x.parts := by
  unfold fC at h
  cases hp : allO (allO (fS f)) c.1 with
  | none => rw [hp] at h; cases h
  | some ps =>
    rw [hp] at h
    cases h
    exact ⟨rfl, rfl⟩
theorem fS_get {f : List V → Option (List Cx)} {s : Sv} {x : S6 × List Cx} (h : fS f s = some x) : x.1 = s.1 ∧ ((lstB s.1.k = true ∧ f s.2 = some x.2) ∨ (lstB s.1.k = false ∧ x.2 = [])) := by
  unfold fS at h
  by_cases hl : lstB s.1.k = true
  · rw [if_pos hl] at h
    cases hf : f s.2 with
    | none => rw [hf] at h; cases h
    | some l =>
      rw [hf] at h
      cases h
      exact ⟨rfl, .inl ⟨hl, rfl⟩⟩
  · rw [if_neg hl] at h
    cases h
    exact ⟨rfl, .inr ⟨by simpa using hl, rfl⟩⟩
/-- A list that is read whole has Lists that are; one that is not, has one that is not. -/
theorem all_some {l : List Cv} {xs : List (Value × Value × List Value)} {R : List Cx} (h : allO (fC parseZ) l = some R) : ∀ x ∈ tks l xs, ∃ L, parseZ x.1 = some L := fun x hx => by
  obtain ⟨z, hz, hx⟩ := List.mem_flatMap.1 hx
  obtain ⟨i, hi, hi', j, hj, hj', rfl⟩ := prs_mem hz
  obtain ⟨t, ht, hls, rfl⟩ := tkF_mem hx
  simp only [] at ht hls ⊢
  obtain ⟨h1, h2⟩ := allO_get h
  obtain ⟨_, h4⟩ := fC_get (h2 i hi (by omega))
  obtain ⟨h5, h6⟩ := allO_get h4
  obtain ⟨h7, h8⟩ := allO_get (h6 j hj (by omega))
  rcases (fS_get (h8 t ht (by omega))).2 with ⟨_, e⟩ | ⟨e, _⟩
  · exact ⟨_, e⟩
  · rw [e] at hls
    cases hls
theorem some_none {l : List Cv} {xs : List (Value × Value × List Value)} (hl : Lens l xs) (h : allO (fC parseZ) l = none) : ∃ x ∈ tks l xs, parseZ x.1 = none := by
  obtain ⟨c, hc, e⟩ := allO_none h
  obtain ⟨i, hi, rfl⟩ := List.mem_iff_getElem.1 hc
  have hi' : i < xs.length := by rw [hl.1]; exact hi
  unfold fC at e
  cases hp : allO (allO (fS parseZ)) (l[i]'hi).1 with
  | some ps => rw [hp] at e; cases e
  | none =>
    obtain ⟨p, hp, e⟩ := allO_none hp
    obtain ⟨j, hj, rfl⟩ := List.mem_iff_getElem.1 hp
    obtain ⟨s, hs, e⟩ := allO_none e
    obtain ⟨t, ht, rfl⟩ := List.mem_iff_getElem.1 hs
    have hj' : j < (xs[i]'hi').2.2.length := by rw [hl.2 i hi hi']; exact hj
    unfold fS at e
    by_cases hls : lstB (((l[i]'hi).1[j]'hj)[t]'ht).1.k = true
    · rw [if_pos hls] at e
      cases hf : parseZ (((l[i]'hi).1[j]'hj)[t]'ht).2 with
      | some L => rw [hf] at e; cases e
      | none => exact ⟨_, List.mem_flatMap.2 ⟨_, prs_in hi hi' hj hj', tkF_in ht hls⟩, hf⟩
    · rw [if_neg hls] at e
      cases e
end Go.Proofs.YtbeolmofnmnknaaGreatDoor.L
