/- gouachelaw16.ShortJoins: the walk. -/
import Derived.Test.YtlhdapckenjigaaGreatDoorSRj
namespace Go.Proofs.YtlhdapckenjigaaGreatDoor.S
open Go.RowKit
open Go.Proofs.YtlhdapckenjigaaGreatDoor.L (T5 V VsAt t5Cells vCells cell_of_heap hid_mk cellAt set_at)
open Go.Proofs.YtlhdapckenjigaaGreatDoor.P (Bx StrAt)
set_option maxRecDepth 100000

set_option maxHeartbeats 4000000 in
theorem joins_walk {W : World} {v : Value} {l : List ByteArray} (name : ByteArray) (n s : Int) (h : SsAt W v l) (hsn : name.size ≤ 140737488351232) (hin : ∀ x ∈ l, x.size ≤ 140737488351232) (hok : Okk W) :
    Calls Tryz.prog 4 #[.string name, v, .agg #[.int .i64 n, .int .i64 s]] W fun e w' => e = .returned (.bool true) ∧ Below W.heap.size W w' := by
  have HLV : Hid (∀ w, Below W.heap.size W w → Calls Tryz.prog 8 #[] w fun e w' => e = .returned (.bool true) ∧ Below w.heap.size w w') := fun w hb => lives_any w (hok.keep hb)
  have HJ1 : Hid (∀ w, Below W.heap.size W w → (∀ x ∈ l, x.size ≤ 200) → Calls Tryz.prog 15 #[.string name, v] w fun e w' => e = .returned (Z.res (joinO name l)) ∧ Below w.heap.size w w') := fun w hb hz => join_any name (h.keep hb) (fun x hx => Nat.le_trans (hz x hx) (by omega)) (hok.keep hb).sid
  have HJ2 : Hid (∀ w, Below W.heap.size W w → (∀ x ∈ l, x.size ≤ 200) → Calls Tryz.prog 16 #[.string name, v] w fun e w' => e = .returned (Z.res (joinO name l)) ∧ Below w.heap.size w w') := fun w hb hz => rjoin_any name (h.keep hb) (fun x hx => Nat.le_trans (hz x hx) (by omega))
  have HS1 : Hid (∀ w, Below W.heap.size W w → Calls Tryz.prog 17 #[.int .i64 n, .int .i64 s] w fun e w' => e = .returned (.int .i64 (sidesZ n s)) ∧ w' = w) := fun w hb => sides_any n s w (hok.keep hb).sid
  have HS2 : Hid (∀ w, Calls Tryz.prog 18 #[.int .i64 n, .int .i64 s] w fun e w' => e = .returned (.int .i64 (sidesZ n s)) ∧ w' = w) := fun w => rsides_any n s w
  obtain ⟨a, c, g, o, rfl, hc, hcm, ha, hcell⟩ := h
  have HC := hid_mk hcell
  have HA := hid_mk ha
  have HIN := hid_mk hin
  generalize joinO name l = jo at *
  generalize sidesZ n s = sz at *
  generalize hll : l.length = L at *
  have HLL := hid_mk hll
  have hB0 : Below W.heap.size W (W.alloc (.cells #[.int .i64 n, .int .i64 s] 37)) := (Below.refl _ W).alloc (Nat.le_refl _) _
  have hX := Bx.new W 37 #[.int .i64 n, .int .i64 s]
  have b0 := hX.cell 0 _ rfl
  have b1 := hX.cell 1 _ rfl
  have HB0 := hid_mk hB0
  have HDR : Hid (∀ nq, Below W.heap.size W ((W.alloc (.cells #[.int .i64 n, .int .i64 s] 37)).drewN nq)) := fun nq => HB0.out.trans ⟨rfl, rfl, rfl, Nat.le_refl _, fun _ _ => rfl⟩
  clear hll hcell ha hin hok hX hB0
  go_enter Tryz.func4, Tryz.ntmps4
  go_upto_region 1 with (fail)
  go_quiet (fail)
  have HBq := hid_mk (HDR.out nq)
  clear HDR b0 b1
  generalize (W.alloc (.cells #[.int .i64 n, .int .i64 s] 37)).drewN nq = w1 at *
  by_cases h500 : 500 < name.size
  · have z5 : decide ((500 : Int) < (name.size : Int)) = true := decide_eq_true (by omega)
    have hlv := HLV.out w1 HBq.out
    go_wp2_with (go_at_call 8; fail)
    refine hlv.mono ?_
    rintro e w2 ⟨rfl, hb2⟩
    have HB2 : Hid (Below W.heap.size W w2) := HBq.out.trans (hb2.mono HBq.out.size)
    clear hlv hb2
    go_wp2
    go_ret
    exact ⟨rfl, HB2.out⟩
  have z5 : decide ((500 : Int) < (name.size : Int)) = false := decide_eq_false (by omega)
  by_cases h20 : 20 < L
  · have z6 : decide ((20 : Int) < (L : Int)) = true := decide_eq_true (by omega)
    have hlv := HLV.out w1 HBq.out
    go_wp2_with (go_at_call 8; fail)
    refine hlv.mono ?_
    rintro e w2 ⟨rfl, hb2⟩
    have HB2 : Hid (Below W.heap.size W w2) := HBq.out.trans (hb2.mono HBq.out.size)
    clear hlv hb2
    go_wp2
    go_ret
    exact ⟨rfl, HB2.out⟩
  have z6 : decide ((20 : Int) < (L : Int)) = false := decide_eq_false (by omega)
  go_wp2
  go_loopw [30] (fun a30 wr => ∃ i : Nat, i ≤ L ∧ a30 = .int .i64 (i : Int) ∧ Hid (Below W.heap.size W wr ∧ ∀ x ∈ l.take i, x.size ≤ 200)) (fun a30 _ => L + 1 - (intOf a30).toNat)
  case atStart => exact ⟨0, Nat.zero_le _, rfl, HBq.out, fun x hx => by simp at hx⟩
  case round =>
    obtain ⟨i, hi, rfl, HJ⟩ := hrel
    by_cases hlt : i < L
    · have hd : decide ((i : Int) < (L : Int)) = true := decide_eq_true (by omega)
      obtain ⟨x, hx⟩ : ∃ x, l[i]? = some x := ⟨_, List.getElem?_eq_getElem (by rw [HLL.out]; exact hlt)⟩
      obtain ⟨ea, _⟩ := HA.out (by omega)
      subst ea
      have h5 := HC.out i x hx
      have r1 : wr.cell? ⟨g, o + i, none⟩ = some (.string x) := (HJ.out.1.cell (p := ⟨g, o + i, none⟩) (P.lt_of_cell h5)).trans h5
      have hxs := HIN.out x (List.mem_of_getElem? hx)
      have HTK : Hid (x.size ≤ 200 → ∀ y ∈ l.take (i + 1), y.size ≤ 200) := fun h y hy => by
        rw [take_snoc hx] at hy
        rcases List.mem_append.1 hy with hy | hy
        · exact HJ.out.2 y hy
        · rw [List.mem_singleton.1 hy]; exact h
      clear h5 hx
      by_cases h200 : 200 < x.size
      · have z7 : decide ((200 : Int) < (x.size : Int)) = true := decide_eq_true (by omega)
        have hlv := HLV.out wr HJ.out.1
        go_wp2_with (go_at_call 8; fail)
        refine hlv.mono ?_
        rintro e w2 ⟨rfl, hb2⟩
        have HB2 : Hid (Below W.heap.size W w2) := HJ.out.1.trans (hb2.mono HJ.out.1.size)
        clear hlv hb2
        go_wp2
        go_ret
        exact ⟨rfl, HB2.out⟩
      · have z7 : decide ((200 : Int) < (x.size : Int)) = false := decide_eq_false (by omega)
        have HT2 := hid_mk (HTK.out (by omega))
        go_wp2
        exact ⟨⟨i + 1, by omega, rfl, HJ.out.1, HT2.out⟩, by simp only [intOf]; omega⟩
    · have hd : decide ((i : Int) < (L : Int)) = false := decide_eq_false (by omega)
      have hall : ∀ x ∈ l, x.size ≤ 200 := by
        have h1 := HJ.out.2
        rw [List.take_of_length_le (by rw [HLL.out]; omega)] at h1
        exact h1
      have hj1 := HJ1.out wr HJ.out.1 hall
      have HALL := hid_mk hall
      clear hall
      go_wp2_with (go_at_call 15; fail)
      refine hj1.mono ?_
      rintro e w2 ⟨rfl, hb2⟩
      have HB2 : Hid (Below W.heap.size W w2) := HJ.out.1.trans (hb2.mono HJ.out.1.size)
      have hj2 := HJ2.out w2 HB2.out HALL.out
      clear hj1 hb2 HJ HJ1 HJ2
      obtain ⟨js, jb, hjo⟩ : ∃ js jb, Z.res jo = .tuple #[.string js, .bool jb] := ⟨_, _, rfl⟩
      rw [hjo] at hj2 ⊢
      go_wp2_with (go_at_call 16; fail)
      refine hj2.mono ?_
      rintro e w3 ⟨rfl, hb3⟩
      have HB3 : Hid (Below W.heap.size W w3) := HB2.out.trans (hb3.mono HB2.out.size)
      have hs1 := HS1.out w3 HB3.out
      have e1 : (js.toList == js.toList) = true := by simp
      have e2 : (jb == jb) = true := by simp
      have e3 : (sz == sz) = true := by simp
      clear hj2 hb3 HB2
      go_wp2_with (go_at_call 17; fail)
      refine hs1.mono ?_
      rintro e w' ⟨rfl, rfl⟩
      have hs2 := HS2.out w'
      clear hs1
      go_wp2_with (go_at_call 18; fail)
      refine hs2.mono ?_
      rintro e w'' ⟨rfl, rfl⟩
      have hlv := HLV.out w'' HB3.out
      clear hs2
      go_wp2_with (go_at_call 8; fail)
      refine hlv.mono ?_
      rintro e w5 ⟨rfl, hb5⟩
      have HB5 : Hid (Below W.heap.size W w5) := HB3.out.trans (hb5.mono HB3.out.size)
      clear hlv hb5
      go_wp2
      go_ret
      exact ⟨rfl, HB5.out⟩
end Go.Proofs.YtlhdapckenjigaaGreatDoor.S
