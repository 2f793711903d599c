/- PropParts: the walk. -/
import Derived.Test.YtaoodkpbhehdgaaDoorPLv
namespace Go.Proofs.YtaoodkpbhehdgaaDoor
open Go.RowKit
set_option maxRecDepth 100000

/-- Parts with the sign between. -/
def jn : List (List UInt8) → List UInt8
  | [] => []
  | x :: r => r.foldl (fun a y => a ++ 124 :: y) x
theorem fold_cons (b : UInt8) (t : List (List UInt8)) : ∀ x : List UInt8, t.foldl (fun a y => a ++ 124 :: y) (b :: x) = b :: t.foldl (fun a y => a ++ 124 :: y) x := by
  induction t with
  | nil => intro x; rfl
  | cons y t ih => intro x; exact ih (x ++ 124 :: y)
theorem jn_cut (l : List UInt8) : jn (cut l) = l := by
  induction l with
  | nil => rfl
  | cons b r ih =>
    unfold cut
    cases h : cut r with
    | nil => exact absurd h (cut_ne r)
    | cons x t =>
      rw [h] at ih
      split
      · rename_i e
        subst e
        show t.foldl (fun a y => a ++ 124 :: y) ([] ++ 124 :: x) = _
        rw [List.nil_append, fold_cons]
        exact congrArg _ ih
      · show t.foldl (fun a y => a ++ 124 :: y) (b :: x) = _
        rw [fold_cons]
        exact congrArg _ ih
theorem jn_snoc (l : List (List UInt8)) (y : List UInt8) (h : l ≠ []) : jn (l ++ [y]) = jn l ++ 124 :: y := by
  cases l with
  | nil => exact absurd rfl h
  | cons x r => simp [jn, List.foldl_append]
theorem jn_le (r : List (List UInt8)) : ∀ l, (jn l).length ≤ (jn (l ++ r)).length := by
  induction r with
  | nil => intro l; simp
  | cons y r ih =>
    intro l
    have h1 := ih (l ++ [y])
    rw [List.append_assoc] at h1
    refine Nat.le_trans ?_ h1
    by_cases h : l = []
    · subst h
      simp [jn]
    · rw [jn_snoc l y h, List.length_append]
      omega
theorem jn_take (l : List (List UInt8)) (k : Nat) : (jn (l.take k)).length ≤ (jn l).length := by
  have := jn_le (l.drop k) (l.take k)
  rwa [List.take_append_drop] at this
theorem cut_no (l : List UInt8) : ∀ x ∈ cut l, (124 : UInt8) ∉ x := by
  induction l with
  | nil => intro x hx; simp [cut] at hx; subst hx; simp
  | cons b r ih =>
    unfold cut
    intro x hx
    split at hx
    · rcases List.mem_cons.1 hx with rfl | hx
      · simp
      · exact ih x hx
    · rename_i hb
      cases h : cut r with
      | nil => exact absurd h (cut_ne r)
      | cons y t =>
        rw [h] at hx ih
        rcases List.mem_cons.1 hx with rfl | hx
        · intro hm
          rcases List.mem_cons.1 hm with e | hm
          · exact hb e.symm
          · exact ih y (by simp) hm
        · exact ih x (by simp [hx]) 
theorem str_data {a b : ByteArray} (h : a.data.toList = b.data.toList) : a = b := by
  obtain ⟨⟨x⟩⟩ := a
  obtain ⟨⟨y⟩⟩ := b
  simp only at h
  subst h
  rfl
theorem prts_at {f : ByteArray} {k : Nat} (hk : k < (prts f).length) : ∃ x, (prts f)[k]? = some x ∧ (cut f.data.toList)[k]? = some x.data.toList ∧ (∀ j (h : j < x.size), x[j].toNat ≠ 124) := by
  have hk2 : k < (cut f.data.toList).length := by
    unfold prts at hk
    rwa [List.length_map] at hk
  refine ⟨⟨((cut f.data.toList)[k]).toArray⟩, ?_, ?_, fun j h e => ?_⟩
  · unfold prts
    rw [List.getElem?_map, List.getElem?_eq_getElem hk2]
    rfl
  · rw [List.getElem?_eq_getElem hk2]
  · have hno := cut_no f.data.toList _ (List.getElem_mem hk2)
    apply hno
    have hm : (⟨((cut f.data.toList)[k]).toArray⟩ : ByteArray)[j] ∈ (cut f.data.toList)[k] := by
      have hl : j < ((cut f.data.toList)[k]).length := by simpa [ByteArray.size] using h
      have : (⟨((cut f.data.toList)[k]).toArray⟩ : ByteArray)[j] = ((cut f.data.toList)[k])[j]'hl := rfl
      rw [this]
      exact List.getElem_mem hl
    have he : (⟨((cut f.data.toList)[k]).toArray⟩ : ByteArray)[j] = 124 := UInt8.toNat_inj.1 e
    rwa [he] at hm
theorem take_snoc {C : List (List UInt8)} {k : Nat} {x : List UInt8} (h : C[k]? = some x) : C.take (k + 1) = C.take k ++ [x] := by
  rw [List.take_add_one, h]
  rfl

set_option maxHeartbeats 4000000 in
theorem parts_walk (p : Pr) (w : World) (hm : MC w) : Calls Tryd.prog 5 #[.agg (c4 p)] w fun e w' => e = .returned (.bool true) ∧ Below w.heap.size w w' := by
  obtain ⟨pn, pi, ph, pf⟩ := p
  have hX0 := Bx.new w 24 (c4 ⟨pn, pi, ph, pf⟩)
  have hB0 : Below w.heap.size w (w.alloc (.cells (c4 ⟨pn, pi, ph, pf⟩) 24)) := (Below.refl _ w).alloc (Nat.le_refl _) _
  obtain ⟨w1, hw1⟩ : ∃ w1, w1 = w.alloc (.cells (c4 ⟨pn, pi, ph, pf⟩) 24) := ⟨_, rfl⟩
  rw [← hw1] at hX0 hB0
  have hm1 := hm.keep hB0
  have q1 : w1.cell? ⟨w.heap.size, 0, none⟩ = some (.string pn) := hX0.cell 0 _ rfl
  have q2 : w1.cell? ⟨w.heap.size, 1, none⟩ = some (.string pi) := hX0.cell 1 _ rfl
  have q3 : w1.cell? ⟨w.heap.size, 2, none⟩ = some (.bool ph) := hX0.cell 2 _ rfl
  have q4 : w1.cell? ⟨w.heap.size, 3, none⟩ = some (.string pf) := hX0.cell 3 _ rfl
  have HX0 := hid_mk hX0
  have HB0 := hid_mk hB0
  have HM1 := hid_mk hm1
  have HW1 : Hid (w1 = w.alloc (.cells #[.string pn, .string pi, .bool ph, .string pf] 24)) := hw1
  clear hm hX0 hB0 hm1 hw1
  by_cases hsz : pf.size ≤ 1000
  · have hf := forms_any ⟨pn, pi, ph, pf⟩ w1 HM1.out hsz
    have HPA : Hid (∀ k, k < (prts pf).length → ∃ x, (prts pf)[k]? = some x ∧ (cut pf.data.toList)[k]? = some x.data.toList ∧ (∀ j (h : j < x.size), x[j].toNat ≠ 124)) := fun k hk => prts_at hk
    have HCL : Hid ((cut pf.data.toList).length = (prts pf).length) := by
      unfold prts
      rw [Hid, List.length_map]
    have HJC : Hid (jn (cut pf.data.toList) = pf.data.toList) := jn_cut _
    have HFL : Hid (pf.data.toList.length = pf.size) := (Lib.size_eq pf).symm
    have hn1 : 1 ≤ (prts pf).length := by
      have h1 := HCL.out
      have h2 := cut_ne pf.data.toList
      cases h : cut pf.data.toList with
      | nil => exact absurd h h2
      | cons x t => rw [h] at h1; simp at h1; omega
    have hn2 : (prts pf).length ≤ 1001 := by have := prts_len pf; omega
    dsimp only at hf
    generalize (prts pf).length = n at *
    generalize prts pf = L at *
    generalize cut pf.data.toList = C at *
    go_enter Tryd.func5, Tryd.ntmps5
    go_upto_region 1 with fail
    rw [← HW1.out]
    clear HW1
    go_wp2_with (go_at_call 14; fail)
    refine hf.mono ?_
    rintro e w2 ⟨⟨a, c, rfl, hS⟩, hb⟩
    obtain ⟨a', cap', e', hc1, hc2, hcells⟩ := hS.form
    injection e' with ea en ec
    subst ea ec
    have HCE := hid_mk hcells
    have HB2 := hid_mk (later HB0.out hb)
    have q4' : w2.cell? ⟨w.heap.size, 3, none⟩ = some (.string pf) := (HX0.out.below hb).cell 3 _ rfl
    have HEN := hid_mk en
    have hcn : n ≤ c := by omega
    clear hf hS hb q1 q2 q3 q4 hcells en hc1 HX0 HB0 HM1
    go_wp2
    go_loopw [4, 17] (fun a4 a17 wr => ∃ (s : ByteArray) (k : Nat), a4 = .string s ∧ a17 = .int .i64 (k : Int) ∧ k ≤ n ∧ s.size ≤ 1000 ∧ Hid (s.data.toList = jn (C.take k)) ∧ wr = w2) (fun _ a17 _ => n + 1 - (intOf a17).toNat)
    case atStart => exact ⟨⟨#[]⟩, 0, rfl, rfl, Nat.zero_le _, Nat.zero_le _, rfl, rfl⟩
    case round =>
      obtain ⟨s, k, rfl, rfl, hk, hss, HS, rfl⟩ := hrel
      by_cases hlt : k < n
      · obtain ⟨x, hx, hcx, hno⟩ := HPA.out k hlt
        obtain ⟨g, rfl, hcell⟩ := HCE.out (by have := HEN.out; omega)
        have q5 : wr.cell? ⟨g, k, none⟩ = some (.string x) := hcell k x hx
        have HNO := hid_mk hno
        have HTS := hid_mk (take_snoc hcx)
        have HLE : Hid ((jn (C.take (k + 1))).length ≤ 1000) := by
          have h1 := jn_take C (k + 1)
          have h2 := HFL.out
          rw [HJC.out] at h1
          rw [Hid]
          omega
        clear hx hcx hno hcell
        by_cases h0 : 0 < k
        · have HSN : Hid ((s ++ ⟨#[124]⟩ ++ x).data.toList = jn (C.take (k + 1))) := by
            have hne : C.take k ≠ [] := by
              intro e
              have := congrArg List.length e
              rw [List.length_take, HCL.out] at this
              simp at this
              omega
            rw [Hid, HTS.out, jn_snoc _ _ hne, ByteArray.data_append, ByteArray.data_append, Array.toList_append, Array.toList_append, HS.out]
            simp
          have hs2 : (s ++ ⟨#[124]⟩ ++ x).size ≤ 1000 := by
            rw [Lib.size_eq, HSN.out]
            exact HLE.out
          have hs3 : (s ++ ⟨#[124]⟩).size ≤ 1000 := by
            rw [ByteArray.size_append] at hs2
            omega
          have hs4 : x.size ≤ 1000 := by
            rw [ByteArray.size_append] at hs2
            omega
          have HS2 := hid_mk hs2
          obtain ⟨w5, hw5⟩ : ∃ w5, w5 = wr := ⟨_, rfl⟩
          have HW5 := hid_mk hw5
          clear HTS HLE HS hs2 hw5
          go_wp2
          go_loopw [7] (fun a7 wq => ∃ j : Nat, a7 = .int .i64 (j : Int) ∧ j ≤ x.size ∧ wq = w5) (fun a7 _ => x.size + 1 - (intOf a7).toNat)
          case atStart => exact ⟨0, rfl, Nat.zero_le _, HW5.out.symm⟩
          case round =>
            obtain ⟨j, rfl, hj, rfl⟩ := hrel
            by_cases hjl : j < x.size
            · have hb : ((x[j].toNat : Int) == 124) = false := by
                rw [beq_eq_false_iff_ne]
                have := HNO.out j hjl
                omega
              go_wp2
              refine ⟨⟨j + 1, by simp, by omega, trivial⟩, ?_⟩
              simp only [intOf]
              omega
            · have HWE := HW5.out
              subst HWE
              go_wp2
              refine ⟨⟨_, k + 1, rfl, by simp, by omega, HS2.out, HSN, trivial⟩, ?_⟩
              simp only [intOf]
              omega
        · obtain rfl : k = 0 := by omega
          have HSN : Hid ((s ++ x).data.toList = jn (C.take (0 + 1))) := by
            rw [Hid, HTS.out, ByteArray.data_append, Array.toList_append, HS.out]
            simp [jn]
          have hs2 : (s ++ x).size ≤ 1000 := by
            rw [Lib.size_eq, HSN.out]
            exact HLE.out
          have hs4 : x.size ≤ 1000 := by
            rw [ByteArray.size_append] at hs2
            omega
          have HS2 := hid_mk hs2
          obtain ⟨w5, hw5⟩ : ∃ w5, w5 = wr := ⟨_, rfl⟩
          have HW5 := hid_mk hw5
          clear HTS HLE HS hs2 hw5
          go_wp2
          go_loopw [7] (fun a7 wq => ∃ j : Nat, a7 = .int .i64 (j : Int) ∧ j ≤ x.size ∧ wq = w5) (fun a7 _ => x.size + 1 - (intOf a7).toNat)
          case atStart => exact ⟨0, rfl, Nat.zero_le _, HW5.out.symm⟩
          case round =>
            obtain ⟨j, rfl, hj, rfl⟩ := hrel
            by_cases hjl : j < x.size
            · have hb : ((x[j].toNat : Int) == 124) = false := by
                rw [beq_eq_false_iff_ne]
                have := HNO.out j hjl
                omega
              go_wp2
              refine ⟨⟨j + 1, by simp, by omega, trivial⟩, ?_⟩
              simp only [intOf]
              omega
            · have HWE := HW5.out
              subst HWE
              go_wp2
              refine ⟨⟨_, 0 + 1, rfl, by simp, by omega, HS2.out, HSN, trivial⟩, ?_⟩
              simp only [intOf]
              omega
      · obtain rfl : k = n := by omega
        have hse : s = pf := by
          apply str_data
          rw [HS.out, List.take_of_length_le (by rw [HCL.out]; omega), HJC.out]
        subst hse
        have hv := lives_any wr
        clear HS HPA HCL HJC HFL HCE
        go_wp2_with (go_at_call 6; fail)
        refine hv.mono ?_
        rintro e w3 ⟨rfl, hb3⟩
        have hend := later HB2.out hb3
        clear hv hb3
        go_wp2
        go_ret
        exact ⟨rfl, hend⟩
  · have hv := lives_any w1
    have hlt : 1000 < pf.size := by omega
    clear HX0 HM1
    go_enter Tryd.func5, Tryd.ntmps5
    go_upto_region 1 with fail
    rw [← HW1.out]
    clear HW1
    go_wp2_with (go_at_call 6; fail)
    refine hv.mono ?_
    rintro e w2 ⟨rfl, hb⟩
    have hend := later HB0.out hb
    clear hv hb q1 q2 q3 q4
    go_wp2
    go_ret
    exact ⟨rfl, hend⟩
end Go.Proofs.YtaoodkpbhehdgaaDoor
