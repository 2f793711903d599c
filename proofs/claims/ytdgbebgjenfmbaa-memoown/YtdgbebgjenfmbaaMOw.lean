/- MemoOwn's walk. -/
import Derived.Test.YtdgbebgjenfmbaaMAp
namespace Go.Proofs.Ytdgbebgjenfmbaa.M
open Go.RowKit Go.Shelf
set_option maxRecDepth 100000

theorem find_empty {n : Nat} (hn : 0 < n) (e d : Int) : find (List.replicate n none) e d = .free (homeN n e d) := by
  have hl : (List.replicate n (none : Option En)).length = n := List.length_replicate
  have hh := home_lt (n := n) e d hn
  have := find_free (L := List.replicate n none) (e := e) (d := d) (i := 0) (by rw [hl]; exact hn) (Past.zero _ _ _ _) (by rw [hl, Nat.add_zero, Nat.mod_eq_of_lt hh, List.getElem?_replicate, if_pos hh])
  rw [hl, Nat.add_zero, Nat.mod_eq_of_lt hh] at this
  exact this
theorem isE_self (x : En) : isE x x.e x.d = true := by simp [isE]
theorem find_one {n : Nat} (hn : 0 < n) (x : En) : find ((List.replicate n none).set (homeN n x.e x.d) (some x)) x.e x.d = .here x := by
  have hl : ((List.replicate n (none : Option En)).set (homeN n x.e x.d) (some x)).length = n := by rw [List.length_set]; exact List.length_replicate
  have hh := home_lt (n := n) x.e x.d hn
  have hc : ((List.replicate n (none : Option En)).set (homeN n x.e x.d) (some x))[homeN n x.e x.d]? = some (some x) := by
    rw [List.getElem?_set, if_pos rfl, if_pos (by rw [List.length_replicate]; exact hh)]
  exact find_here (L := (List.replicate n none).set (homeN n x.e x.d) (some x)) (i := 0) (by rw [hl]; exact hn) (Past.zero _ _ _ _) (by rw [hl, Nat.add_zero, Nat.mod_eq_of_lt hh]; exact hc) (isE_self x)
theorem got_one {n : Nat} (hn : 0 < n) (x : En) : getC ((List.replicate n none).set (homeN n x.e x.d) (some x)) (homeN n x.e x.d : Int) = some x := by
  have hh := home_lt (n := n) x.e x.d hn
  unfold getC
  rw [if_pos (by omega), Int.toNat_natCast, List.getElem?_set, if_pos rfl, if_pos (by rw [List.length_replicate]; exact hh)]
  rfl
theorem short_one {n : Nat} (j : Nat) (x : En) (hx : x.l.length ≤ 8796093021952) : Short ((List.replicate n none).set j (some x)) := fun i y hy => by
  rw [List.getElem?_set] at hy
  split at hy
  · split at hy
    · injection hy with hy
      injection hy with hy
      rw [← hy]
      exact hx
    · cases hy
  · rw [List.getElem?_replicate] at hy
    split at hy
    · injection hy with hy
      cases hy
    · cases hy
/-- A row of texts of which the first i were written. -/
def Mut (Q : Nat → Prop) (B : Nat) (v : Value) (l : List ByteArray) (w0 : World) (i : Nat) (wr : World) : Prop := Kb Q w0 wr ∧ ∃ ls : List ByteArray, ls.length = l.length ∧ (∀ j, i ≤ j → ls[j]? = l[j]?) ∧ StO B wr v ls
theorem Mut.zero {Q : Nat → Prop} {B : Nat} {v : Value} {l : List ByteArray} {w0 : World} (h : StO B w0 v l) : Mut Q B v l w0 0 w0 := ⟨Kb.refl _ _, l, rfl, fun _ _ => rfl, h⟩
theorem Mut.step {Q : Nat → Prop} {B g i c : Nat} {v : Value} {l : List ByteArray} {w0 wr : World} (h : Mut Q B v l w0 i wr) (hi : i < l.length) (hv : v = .slice (some ⟨g, 0, none⟩) l.length c) (hg : ¬ Q g) : ∃ s, l[i]? = some s ∧ wr.cell? ⟨g, i, none⟩ = some (.string s) ∧ wr.frozen? ⟨g, i, none⟩ = false ∧ ∀ s', Mut Q B v l w0 (i + 1) (wr.setCell ⟨g, i, none⟩ (.string s')) := by
  obtain ⟨hk, ls, h1, h2, h3⟩ := h
  obtain ⟨g', c', e1, _, _, _, h4, h5⟩ := h3.parts (by omega)
  rw [hv] at e1
  injection e1 with e1 _ _
  injection e1 with e1
  injection e1 with e1
  subst e1
  have hs := List.getElem?_eq_getElem hi
  refine ⟨_, hs, (h4 i _ ((h2 i (Nat.le_refl _)).trans hs)).1, (h4 i _ ((h2 i (Nat.le_refl _)).trans hs)).2, fun s' => ⟨hk.set (p := ⟨g, i, none⟩) hg _, ls.set i s', by rw [List.length_set]; exact h1, fun j hj => ?_, h5 i s'⟩⟩
  rw [List.getElem?_set_ne (by omega)]
  exact h2 j (by omega)
set_option maxHeartbeats 8000000 in
theorem own_walk (W : World) {v : Value} {l : List ByteArray} (h : SsAt Any W v l) (hs : ∀ z ∈ l, z.size ≤ 140737488351232) (e d : Int) : Calls Try.prog 5 #[v, .int .i64 e, .int .i64 d] W fun q w' => q = .returned (.bool true) ∧ Below W.heap.size W w' := by
  obtain ⟨va, vc, hv⟩ : ∃ va vc, v = .slice va l.length vc := by
    obtain ⟨sa, scp, sg0, so, hsv, _⟩ := h
    exact ⟨sa, scp, hsv⟩
  by_cases hl : 100 < l.length
  · have hd : decide ((100 : Int) < (l.length : Int)) = true := decide_eq_true (by omega)
    subst hv
    clear h hs
    generalize l.length = n at *
    go_enter Try.func5, Try.ntmps5
    go_wp2_with (go_at_call 9; refine (lives_any W).mono ?_; rintro e w' ⟨rfl, hb⟩; have HB := hid_mk hb; clear hb)
    go_ret
    exact ⟨rfl, HB.out⟩
  · have hl100 : l.length ≤ 100 := by omega
    have hd : decide ((100 : Int) < (l.length : Int)) = false := decide_eq_false (by omega)
    obtain ⟨t, ht⟩ : ∃ t, t = W.heap.size := ⟨_, rfl⟩
    have hnew := new_any (w := W) (n := 3) (by omega)
    rw [← ht] at hnew
    have HV : Hid (∀ A, Below t W A → SsAt Any A v l) := fun A hA => ((h.mono (Q := fun k => k < t) fun k hk _ => by omega).keep ⟨hA.os, hA.tape, hA.output, hA.size, fun k _ hk => hA.block k hk⟩).mono fun _ _ _ => trivial
    have hSW := h
    have HS := hid_mk hs
    have HH := home_lt (n := 3) e d (by omega)
    rw [← ht]
    clear h hs ht
    subst hv
    go_enter Try.func5, Try.ntmps5
    go_upto_region 6 with (go_at_call 10; refine hnew.mono ?_; rintro q w1 ⟨rfl, hb1, hT1⟩)
    have hT0 := (hT1 (fun k => k ≠ t ∧ k ≠ t + 1) (fun hh => hh.1 rfl) (fun hh => hh.2 rfl) ⟨by omega, by omega⟩).lt
    have hb1b : Below w1.heap.size w1 (w1.alloc (.cells #[] 9)) := (Below.refl _ w1).alloc (Nat.le_refl _) _
    have hsz1 : t ≤ w1.heap.size := by omega
    have hS1 := HV.out _ (hb1.trans (hb1b.mono hsz1))
    clear hnew
    go_upto_region 7 with (at_builtin; go_must (refine wpList_app _ rfl _ _ rfl rfl rfl (heap_alloc_last w1 _) hS1 (by omega) ?_); intro v2 w2 hst hgr hbl)
    obtain ⟨g, hgX, hgl, hgv⟩ : ∃ g, w1.heap.size ≤ g ∧ g < w2.heap.size ∧ (0 < l.length → ∃ c2, v2 = .slice (some ⟨g, 0, none⟩) l.length c2) := by
      by_cases h0 : 0 < l.length
      · obtain ⟨g, c2, e1, _, e2, e3, _⟩ := hst.parts h0
        exact ⟨g, e2, e3, fun _ => ⟨c2, e1⟩⟩
      · have := hgr.size
        rw [World.size_alloc] at this
        exact ⟨w1.heap.size, Nat.le_refl _, by omega, fun h => absurd h h0⟩
    obtain ⟨P, hP⟩ : ∃ P : Nat → Prop, P = fun b => b ≠ t ∧ b ≠ t + 1 ∧ b ≠ g := ⟨_, rfl⟩
    have hb12 : Below w1.heap.size w1 w2 := by
      have hs2 := hgr.size
      rw [World.size_alloc] at hs2
      exact ⟨hgr.os, hgr.tape, hgr.output, by omega, fun k hk => (hgr.block k (by rw [World.size_alloc]; omega) (fun e => by injection e with e; omega)).trans (Below.heap_alloc w1 _ k hk)⟩
    have hT2 : Tab P w2 t (t + 2) (t + 1) (List.replicate 3 none) := (hT1 P (by rw [hP]; exact fun hh => hh.1 rfl) (by rw [hP]; exact fun hh => hh.2.1 rfl) (by rw [hP]; exact ⟨by omega, by omega, by omega⟩)).below hb12
    obtain ⟨x, hx⟩ : ∃ x : En, x = ⟨e, d, l⟩ := ⟨_, rfl⟩
    have hxl : x.l = l := by rw [hx]
    have hp0 := put_tab hT2 x (sv := v2) (by rw [hxl]; exact hst.ss) (by rw [hxl]; omega) (fun b hb => by rw [hP]; exact ⟨by omega, by omega, by omega⟩)
    have hxe : x.e = e := by rw [hx]
    have hxd : x.d = d := by rw [hx]
    obtain ⟨L1, hL1⟩ : ∃ L1, L1 = (List.replicate 3 none).set (homeN 3 e d) (some x) := ⟨_, rfl⟩
    have hL3 : L1.length = 3 := by rw [hL1, List.length_set, List.length_replicate]
    have hfd : find L1 e d = .here x := by
      have := find_one (n := 3) (by omega) x
      rw [hxe, hxd] at this
      rw [hL1]
      exact this
    have hgt : getC L1 (homeN 3 e d : Int) = some x := by
      have := got_one (n := 3) (by omega) x
      rw [hxe, hxd] at this
      rw [hL1]
      exact this
    have hsh : Short L1 := by rw [hL1]; exact short_one _ x (by rw [hxl]; omega)
    rw [hxe, hxd, find_empty (by omega) e d] at hp0
    have hp : Calls Try.prog 12 #[.pointer (some ⟨t, 0, none⟩), .agg #[.int .i64 e, .int .i64 d, v2]] w2 fun q w' => q = .returned (.bool true) ∧ Tab P w' t (t + 2) (t + 1) L1 ∧ Kb (fun k => k ≠ t + 1) w2 w' := by rw [hL1]; exact hp0
    have HX := hid_mk hx
    have HFD := hid_mk hfd
    have HGT := hid_mk hgt
    have HSH := hid_mk hsh
    have HL3 := hid_mk hL3
    have hBt : Below t W w2 := hb1.trans (hb12.mono hsz1)
    have HHid := hid_mk HH
    clear hp0 hxe hxd hxl hL1 hL3 hfd hgt hsh hx hT2 hT1 hb1 hgr hbl hb12 hS1 hb1b HH
    obtain ⟨pa2, pc2, hv2⟩ := hst.form
    subst hv2
    go_wp2_with (go_at_call 12; refine hp.mono ?_; rintro q w3 ⟨rfl, hT3, hk3⟩)
    have HST : Hid (StO w1.heap.size w3 (.slice pa2 l.length pc2) l) := hst.keep fun q hq hBq => hk3.block q hq (by omega)
    have HB3 : Hid (Below t W w3) := hBt.trans (hk3.below (fun q hq => by omega) (by have := hBt.size; omega))
    have HT3 := hid_mk hT3
    have hsz3 : w2.heap.size ≤ w3.heap.size := hk3.size
    clear hp hT3 hk3 hst hBt
    go_loopw [36] (fun p wr => ∃ i : Nat, p = .int .i64 (i : Int) ∧ i ≤ l.length ∧ Hid (Mut (fun k => k ≠ g) w1.heap.size (.slice pa2 l.length pc2) l w3 i wr)) (fun p _ => l.length + 1 - (intOf p).toNat)
    case atStart => exact ⟨0, rfl, Nat.zero_le _, Mut.zero HST.out⟩
    case round =>
      clear HST
      obtain ⟨i, rfl, hi, HM⟩ := hrel
      by_cases hlt : i < l.length
      · obtain ⟨c2, ev⟩ := hgv (by omega)
        obtain ⟨s, hs, c0, f0, hM⟩ := HM.out.step hlt ev (fun hh => hh rfl)
        injection ev with ev1 _ _
        subst ev1
        have hss : s.size ≤ 140737488351232 := HS.out s (List.mem_of_getElem? hs)
        have hcat : ¬ (9223372036854775807 < s.size + 1) := by omega
        have HM2 := hid_mk hM
        have hd1 : (i : Int) < (l.length : Int) := by omega
        clear hM hs HM hgv HV hSW
        go_wp2
        refine ⟨⟨i + 1, by go_num, by omega, HM2.out _⟩, ?_⟩
        simp only [intOf]
        omega
      · have hie : i = l.length := by omega
        subst hie
        have hk := HM.out.1
        have hlt3 := HT3.out.lt
        have hTr : Tab P wr t (t + 2) (t + 1) L1 := HT3.out.keep (hk.mono fun k _ hh => by rw [hP] at hh; exact hh.2.2) (hk.block t hlt3.1 (by omega)) (hk.block (t + 1) hlt3.2.2 (by omega))
        have hBr : Below t W wr := HB3.out.trans (hk.below (fun q hq => by omega) (by omega))
        obtain ⟨B5, hB5⟩ : ∃ B5, B5 = wr.heap.size := ⟨_, rfl⟩
        have hltr := hTr.lt
        have hTq : Tab (fun k => k < B5 ∧ k ≠ t ∧ k ≠ t + 1) wr t (t + 2) (t + 1) L1 := hTr.mono (fun k hk hh => by rw [hP] at hh; exact ⟨by omega, hh.1, hh.2.1⟩) (fun hh => hh.2.1 rfl) (fun hh => hh.2.2 rfl)
        have hge := get_any (Src.of hTr) HSH.out e d
        rw [HFD.out] at hge
        have hxl : x.l = l := by rw [HX.out]
        have hge : Calls Try.prog 14 #[.pointer (some ⟨t, 0, none⟩), .int .i64 e, .int .i64 d] wr fun q w' => ∃ v, q = .returned (.tuple #[v, .bool true]) ∧ StO B5 w' v l ∧ Below B5 wr w' := hge.mono fun q w' hh => by
          obtain ⟨h1, v, h2, h3⟩ := hh
          rw [hxl] at h3
          exact ⟨v, h2, by rw [hB5]; exact h3, by rw [hB5]; exact h1⟩
        have HTQ := hid_mk hTq
        have HBR := hid_mk hBr
        have htB : t + 2 < B5 := by omega
        clear hTr hTq hBr hk HM HT3 HB3 hgv hP hgX hgl hsz3 hT0 hsz1 hlt3 hltr
        go_wp2_with (go_at_call 14; fail)
        refine hge.mono ?_
        rintro q w5 ⟨v5, rfl, hs5, hb5⟩
        have hbt : Below t W w5 := HBR.out.trans (hb5.mono (by omega))
        have hT5 := hid_mk (HTQ.out.below (by rw [← hB5]; exact hb5))
        have tx5 := texts_yes hs5.ss (HV.out w5 hbt)
        have HS5 := hid_mk hs5
        have HB5 := hid_mk hbt
        have hsz5 : B5 ≤ w5.heap.size := by have := hb5.size; omega
        obtain ⟨pa5, pc5, hv5⟩ := hs5.form
        subst hv5
        clear hge hs5 hb5 hbt
        go_wp2_with (go_at_call 16; refine tx5.mono ?_; rintro q w6 ⟨rfl, hb6⟩)
        have hbt6 : Below t W w6 := HB5.out.trans (hb6.mono (by omega))
        have HT6 := hid_mk (hT5.out.below hb6)
        have HS6 : Hid (StO B5 w6 (.slice pa5 l.length pc5) l) := HS5.out.keep fun q hq _ => hb6.block q hq
        have HB6 := hid_mk hbt6
        have hsz6 : B5 ≤ w6.heap.size := by have := hb6.size; omega
        clear hT5 HS5 HB5 tx5 hb6 hbt6 hsz5
        obtain ⟨g5, hg5, hgv5⟩ : ∃ g5, B5 ≤ g5 ∧ (0 < l.length → ∃ c5, (Value.slice pa5 l.length pc5) = .slice (some ⟨g5, 0, none⟩) l.length c5) := by
          by_cases h0 : 0 < l.length
          · obtain ⟨g, c2, e1, _, e2, e3, _⟩ := HS6.out.parts h0
            exact ⟨g, e2, fun _ => ⟨c2, e1⟩⟩
          · exact ⟨B5, Nat.le_refl _, fun h => absurd h h0⟩
        go_loopw [63] (fun p wq => ∃ i : Nat, p = .int .i64 (i : Int) ∧ i ≤ l.length ∧ Hid (Mut (fun k => k < B5) B5 (.slice pa5 l.length pc5) l w6 i wq)) (fun p _ => l.length + 1 - (intOf p).toNat)
        case atStart => exact ⟨0, rfl, Nat.zero_le _, Mut.zero HS6.out⟩
        case round =>
          clear HS6
          obtain ⟨i, rfl, hi, HM⟩ := hrel
          by_cases hlt : i < l.length
          · obtain ⟨c2, ev⟩ := hgv5 (by omega)
            obtain ⟨s, hs, c0, f0, hM⟩ := HM.out.step hlt ev (fun hh => by omega)
            injection ev with ev1 _ _
            subst ev1
            have hss : s.size ≤ 140737488351232 := HS.out s (List.mem_of_getElem? hs)
            have hcat : ¬ (9223372036854775807 < s.size + 1) := by omega
            have HM2 := hid_mk hM
            have hd1 : (i : Int) < (l.length : Int) := by omega
            clear hM hs HM hgv5 HV hSW
            go_wp2
            refine ⟨⟨i + 1, by go_num, by omega, HM2.out _⟩, ?_⟩
            simp only [intOf]
            omega
          · have hie : i = l.length := by omega
            subst hie
            have hk := HM.out.1
            have hlt6 := HT6.out.lt
            have hTq : Tab (fun k => k < B5 ∧ k ≠ t ∧ k ≠ t + 1) wr t (t + 2) (t + 1) L1 := HT6.out.keep (hk.mono fun k _ hh => hh.1) (hk.block t hlt6.1 (by omega)) (hk.block (t + 1) hlt6.2.2 (by omega))
            have hBq : Below t W wr := HB6.out.trans (hk.below (fun q hq => by omega) (by omega))
            have hho := homeT_any hTq e d
            rw [HL3.out] at hho
            have hxx := HX.out
            have hgt := HGT.out
            have hfd := HFD.out
            rw [hxx] at hgt hfd
            have hlo := load_on hTq hgt (by show l.length ≤ 8796093021952; omega)
            have hlo : Calls Try.prog 19 #[.pointer (some ⟨t, 0, none⟩), .int .i64 (homeN 3 e d : Int)] wr fun q w' => ∃ v, q = .returned (.tuple #[.agg #[.int .i64 e, .int .i64 d, v], .bool true]) ∧ StO wr.heap.size w' v l ∧ Below wr.heap.size wr w' := hlo
            have HTQ2 := hid_mk hTq
            have HBQ := hid_mk hBq
            have HFD2 := hid_mk hfd
            generalize homeN 3 e d = hm at *
            clear hTq hBq hk HM HT6 hlt6 HB6 HGT HX HFD hxx hgt hfd hgv5 hge hxl HTQ HBR hB5
            go_wp2_with (first
              | (go_at_call 27; refine hho.mono ?_; rintro q w' ⟨rfl, hw⟩; rw [hw]; clear hw w')
              | (go_at_call 19; refine hlo.mono ?_; rintro q w7 ⟨v7, rfl, hs7, hb7⟩; obtain ⟨pa7, pc7, e7⟩ := hs7.form; rw [e7])
              | (go_at_call 14; fail))
            obtain ⟨w8, hw8⟩ : ∃ w8, w8 = w7.alloc (.cells #[.int .i64 e, .int .i64 d, .slice pa7 l.length pc7] 31) := ⟨_, rfl⟩
            rw [← hw8]
            have hb78 : Below w7.heap.size w7 w8 := by rw [hw8]; exact (Below.refl _ w7).alloc (Nat.le_refl _) _
            have hx8 : w8.heap[w7.heap.size]? = some (.cells #[.int .i64 e, .int .i64 d, .slice pa7 l.length pc7] 31 (0, 0)) := by rw [hw8]; exact heap_alloc_last w7 _
            rw [e7] at hs7
            have hs8 : SsAt (fun k => wr.heap.size ≤ k) w8 (.slice pa7 l.length pc7) l := hs7.ss.keep (Kb.of_below hb78)
            have hbr8 : Below wr.heap.size wr w8 := hb7.trans (hb78.mono hb7.size)
            have hT8 := HTQ2.out.below hbr8
            have hlq := HTQ2.out.lt
            have hB8 : Below t W w8 := HBQ.out.trans (hbr8.mono (by omega))
            have hge8 := get_any (Src.of hT8) HSH.out e d
            rw [HFD2.out] at hge8
            have hge8 : Calls Try.prog 14 #[.pointer (some ⟨t, 0, none⟩), .int .i64 e, .int .i64 d] w8 fun q w' => ∃ v, q = .returned (.tuple #[v, .bool true]) ∧ StO w8.heap.size w' v l ∧ Below w8.heap.size w8 w' := hge8.mono fun q w' hh => by
              obtain ⟨h1, v, h2, h3⟩ := hh
              exact ⟨v, h2, h3, h1⟩
            have h8lt := (Array.getElem?_eq_some_iff.1 hx8).1
            have h8t : t ≤ w8.heap.size := by have := hT8.lt; omega
            have HG : Hid (∀ w9 v9, StO w8.heap.size w9 v9 l → Below w8.heap.size w8 w9 → w9.cell? ⟨w7.heap.size, 2, none⟩ = some (.slice pa7 l.length pc7) ∧ (Calls Try.prog 16 #[.slice pa7 l.length pc7, .slice va l.length vc] w9 fun e w' => e = .returned (.bool true) ∧ Below w9.heap.size w9 w') ∧ (∀ wa, Below w9.heap.size w9 wa → Calls Try.prog 16 #[v9, .slice va l.length vc] wa fun e w' => e = .returned (.bool true) ∧ Below wa.heap.size wa w') ∧ ∀ wa, Below w9.heap.size w9 wa → Below t W wa) := fun w9 v9 h1 h2 => by
              have hB9 : Below t W w9 := hB8.trans (h2.mono (by omega))
              refine ⟨?_, texts_yes (hs8.keep (Kb.of_below h2)) (HV.out w9 hB9), fun wa ha => ?_, fun wa ha => hB9.trans (ha.mono (by have := h2.size; omega))⟩
              · exact (box3 ((h2.block _ h8lt).trans hx8)).1.2.2
              · exact texts_yes (h1.ss.keep (Kb.of_below ha)) (HV.out wa (hB9.trans (ha.mono (by have := h2.size; omega))))
            clear hw8 hb78 hx8 hs8 hbr8 hT8 hlq hB8 hs7 hb7 e7 hho hlo HV hSW HTQ2 HBQ HFD2
            refine hge8.mono ?_
            rintro q w9 ⟨v9, rfl, hs9, hb9⟩
            obtain ⟨c2, hta, htb, hBB⟩ := HG.out w9 v9 hs9 hb9
            have HTB := hid_mk htb
            have HBB := hid_mk hBB
            obtain ⟨pa9, pc9, e9⟩ := hs9.form
            subst e9
            clear hge8 HG hs9 hb9 htb hBB
            go_wp2_with (first
              | (go_at_call 16; refine hta.mono ?_; rintro q wa ⟨rfl, hba⟩; have htb2 := HTB.out wa hba; clear hta)
              | (go_at_call 16; refine htb2.mono ?_; rintro q wb ⟨rfl, hbb⟩; have hab := hba.trans (hbb.mono hba.size); clear htb2)
              | (go_at_call 9; refine (lives_any wb).mono ?_; rintro q wc ⟨rfl, hbc⟩; have HFIN := hid_mk (HBB.out wc (hab.trans (hbc.mono hab.size))); clear hab hbc hba hbb))
            go_ret
            exact ⟨rfl, HFIN.out⟩
end Go.Proofs.Ytdgbebgjenfmbaa.M
