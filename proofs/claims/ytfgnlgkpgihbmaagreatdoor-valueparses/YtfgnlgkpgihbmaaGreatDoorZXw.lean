/- gouachelaw15.ValueParses: the walk. -/
import Derived.Test.YtfgnlgkpgihbmaaGreatDoorZRw
import Derived.Test.YtfgnlgkpgihbmaaGreatDoorZGr
namespace Go.Proofs.YtfgnlgkpgihbmaaGreatDoor.Z
open Go.RowKit
open Go.Proofs.YtfgnlgkpgihbmaaGreatDoor.L (T5 V VsAt t5Cells vCells cell_of_heap hid_mk)
set_option maxRecDepth 100000

set_option maxHeartbeats 8000000 in
theorem parses_walk (name : ByteArray) {P0 : Nat → Prop} {v : Value} {vs : List V} (w : World) (hv : VsAt P0 w v vs) (hm : Y.V.most vs) (hz : ∀ y ∈ vs, y.tok.tx.size ≤ 140737488351232 ∧ y.tok.un.size ≤ 140737488351232) (hok : Ok w) :
    Calls Tryz.prog 3 #[.string name, v] w fun e w' => e = .returned (.bool true) ∧ Below w.heap.size w w' := by
  have HOK : Hid (∀ w', Below w.heap.size w w' → Ok w') := fun w' hb => hok.keep hb
  have HL : Hid (∀ w', Below w.heap.size w w' → Calls Tryz.prog 9 #[] w' fun e w'' => e = .returned (.bool true) ∧ Below w.heap.size w w'') := fun w' hb => (lives_any w' (HOK.out w' hb)).mono fun e w'' h => ⟨h.1, hb.trans (h.2.mono hb.size)⟩
  have hgr := great_any hv (fun y hy => by have := hz y hy; omega)
  have HSM : Hid ((∀ y ∈ vs, y.tok.tx.size + y.tok.un.size ≤ 500) → ∀ y ∈ vs, y.tok.tx.size ≤ 100000 ∧ y.tok.un.size ≤ 100000) := fun hs y hy => by have := hs y hy; omega
  have HPA : Hid (∀ w', Below w.heap.size w w' → (∀ y ∈ vs, y.tok.tx.size + y.tok.un.size ≤ 500) → Calls Tryz.prog 10 #[.string name, v] w' fun e w'' => e = .returned (res (parseO name vs)) ∧ Below w.heap.size w w'') := fun w' hb hs => (parse_any name (hv.keep hb) hm (HSM.out hs) (HOK.out w' hb)).mono fun e w'' h => ⟨h.1, hb.trans (h.2.mono hb.size)⟩
  have HQA : Hid (∀ w', Below w.heap.size w w' → (∀ y ∈ vs, y.tok.tx.size + y.tok.un.size ≤ 500) → Calls Tryz.prog 11 #[.string name, v] w' fun e w'' => e = .returned (res (parseO name vs)) ∧ Below w.heap.size w w'') := fun w' hb hs => (rparse_any name (hv.keep hb) hm.len (HSM.out hs)).mono fun e w'' h => ⟨h.1, hb.trans (h.2.mono hb.size)⟩
  have HWA : Hid (∀ w', Below w.heap.size w w' → (∀ y ∈ vs, y.tok.tx.size + y.tok.un.size ≤ 500) → Calls Tryz.prog 12 #[v] w' fun e w'' => e = .returned (.string (wideS vs)) ∧ Below w.heap.size w w'') := fun w' hb hs => (wide_any (hv.keep hb) hm (HSM.out hs)).mono fun e w'' h => ⟨h.1, hb.trans (h.2.mono hb.size)⟩
  have HXA : Hid (∀ w', Below w.heap.size w w' → (∀ y ∈ vs, y.tok.tx.size + y.tok.un.size ≤ 500) → Calls Tryz.prog 13 #[v] w' fun e w'' => e = .returned (.string (wideS vs)) ∧ Below w.heap.size w w'') := fun w' hb hs => (rwide_any (hv.keep hb) hm.len (HSM.out hs)).mono fun e w'' h => ⟨h.1, hb.trans (h.2.mono hb.size)⟩
  obtain ⟨rs, rb, er, -, -⟩ := res_form (parseO name vs)
  rw [er] at HPA HQA
  generalize wideS vs = wd at *
  obtain ⟨va, vc, rfl, _, _⟩ := hv.slice
  generalize vs.length = vn at *
  have h1 : (rs.toList == rs.toList) = true := by simp
  have h2 : (rb == rb) = true := by simp
  have h3 : (wd.toList == wd.toList) = true := by simp
  clear hv hm hz hok HSM er
  by_cases hnm : 500 < name.size
  · have hd : decide ((500 : Int) < (name.size : Int)) = true := decide_eq_true (by omega)
    have hi : (500 : Int) < (name.size : Int) := by omega
    have e9 := HL.out _ (Below.refl _ _)
    clear HPA HQA HWA HXA hgr
    go_enter Tryz.func3, Tryz.ntmps3
    go_wp2_with (go_at_call 9; fail)
    refine e9.mono ?_
    rintro e y8 ⟨rfl, d8⟩
    clear e9
    go_wp2
    go_ret
    exact ⟨rfl, d8⟩
  · have hd : decide ((500 : Int) < (name.size : Int)) = false := decide_eq_false (by omega)
    have hi : ¬ (500 : Int) < (name.size : Int) := by omega
    go_enter Tryz.func3, Tryz.ntmps3
    go_wp2_with (go_at_call 8; fail)
    refine hgr.mono ?_
    rintro e w2 ⟨⟨gb, rfl, hgs⟩, hb2⟩
    have HB2 := hid_mk hb2
    clear hgr hb2
    cases gb with
    | true =>
      have e9 := HL.out _ HB2.out
      clear HPA HQA HWA HXA
      go_wp2_with (go_at_call 9; fail)
      refine e9.mono ?_
      rintro e y8 ⟨rfl, d8⟩
      clear e9
      go_wp2
      go_ret
      exact ⟨rfl, d8⟩
    | false =>
      have HGS := hid_mk (hgs rfl)
      have e10 := HPA.out _ HB2.out HGS.out
      clear hgs HPA HB2
      go_wp2_with (go_at_call 10; fail)
      refine e10.mono ?_
      rintro e w3 ⟨rfl, d3⟩
      have e11 := HQA.out _ d3 HGS.out
      clear e10 HQA
      go_wp2_with (go_at_call 11; fail)
      refine e11.mono ?_
      rintro e w4 ⟨rfl, d4⟩
      have e12 := HWA.out _ d4 HGS.out
      clear e11 HWA d3
      go_wp2_with (go_at_call 12; fail)
      refine e12.mono ?_
      rintro e w5 ⟨rfl, d5⟩
      have e13 := HXA.out _ d5 HGS.out
      clear e12 HXA d4
      go_wp2_with (go_at_call 13; fail)
      refine e13.mono ?_
      rintro e w6 ⟨rfl, d6⟩
      have e9 := HL.out _ d6
      clear e13 HL d5
      go_wp2_with (go_at_call 9; fail)
      refine e9.mono ?_
      rintro e w7 ⟨rfl, d7⟩
      clear e9 d6
      go_wp2
      go_ret
      exact ⟨rfl, d7⟩
end Go.Proofs.YtfgnlgkpgihbmaaGreatDoor.Z
