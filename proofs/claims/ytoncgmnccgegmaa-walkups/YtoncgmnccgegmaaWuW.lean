/- WalkUps: the walk. -/
import Derived.Test.YtoncgmnccgegmaaLvwN
import Derived.Test.YtoncgmnccgegmaaLitN
namespace Go.Proofs.Ytoncgmnccgegmaa.N
open Go.RowKit
set_option maxRecDepth 100000

section
variable {uok : List (ByteArray × ByteArray) → Prop} {m : M} {nx : Int} {d : Int → Nat}
theorem ups_drop (I : Inv uok m nx d) : ∀ (i : Nat) (a x : Int), (ups m a)[i]? = some x → ups m x = (ups m a).drop i := by
  intro i
  induction i with
  | zero =>
    intro a x h
    cases hm : m a with
    | none => rw [ups_none hm] at h; cases h
    | some e =>
      rw [ups_head I hm] at h
      simp only [List.getElem?_cons_zero, Option.some.injEq] at h
      subst h
      rfl
  | succ i ih =>
    intro a x h
    cases hm : m a with
    | none => rw [ups_none hm] at h; cases h
    | some e =>
      rw [ups_head I hm] at h ⊢
      rw [List.drop_succ_cons]
      rw [List.getElem?_cons_succ] at h
      exact ih e.par x h
theorem ups_step (I : Inv uok m nx d) {a x y : Int} {i : Nat} (h : (ups m a)[i]? = some x) (hy : (ups m a)[i + 1]? = some y) : ∃ f, m x = some f ∧ f.par = y := by
  have hd := ups_drop I i a x h
  have hy' : (ups m x)[1]? = some y := by rw [hd, List.getElem?_drop]; exact hy
  cases hm : m x with
  | none => rw [ups_none hm] at hy'; cases hy'
  | some f =>
    refine ⟨f, rfl, ?_⟩
    rw [ups_head I hm, List.getElem?_cons_succ] at hy'
    cases hp : m f.par with
    | none => rw [ups_none hp] at hy'; cases hy'
    | some g =>
      rw [ups_head I hp] at hy'
      simpa using hy'
theorem ups_last (I : Inv uok m nx d) {a : Int} {e : El} (h : m a = some e) : (a :: ups m e.par)[(ups m e.par).length]? = some 1 := by
  have h1 := (down_chain I _ a e h rfl _ rfl).1
  rw [ups_head I h] at h1
  rw [List.getElem?_reverse (by simp)] at h1
  simpa using h1
/-- What the law asks of those above. -/
structure UpsM (m : M) (id : Int) (U : List Int) : Prop where
  small : U.length ≤ 512
  step : ∀ (i : Nat) (hi : i < U.length), ∃ f, m ((id :: U).getD i 0) = some f ∧ f.par = U[i] ∧ (id :: U).getD (i + 1) 0 = U[i] ∧ cmpZ m U[i] id = -1
  last : ((id :: U).getD U.length 0 == 1) = (m id).isSome
  deep : (((U.length : Int) + 1) == ((ups m id).length : Int)) = (m id).isSome
theorem ups_math (I : Inv uok m nx d) (id : Int) : UpsM m id (ups m (parOf m id)) := by
  cases hm : m id with
  | none =>
    have hp : parOf m id = 0 := by unfold parOf; rw [hm]; rfl
    rw [hp, ups_none I.zero]
    refine ⟨by simp, fun i hi => by simp at hi, ?_, by rw [ups_none hm, hm]; rfl⟩
    obtain ⟨e, he, _⟩ := I.root
    have hne : id ≠ 1 := fun h => by rw [h, he] at hm; cases hm
    rw [hm]
    show (id == 1) = false
    simp [hne]
  | some e =>
    have hp : parOf m id = e.par := by unfold parOf; rw [hm]; rfl
    have hu := ups_head I hm
    have hl := ups_le I id
    rw [hp]
    rw [hu] at hl
    refine ⟨by simp at hl; omega, fun i hi => ?_, ?_, ?_⟩
    · have hg1 : (id :: ups m e.par)[i + 1]? = some (ups m e.par)[i] := by rw [List.getElem?_cons_succ]; exact List.getElem?_eq_getElem hi
      have hil : i < (id :: ups m e.par).length := by simp; omega
      have hg0 : (id :: ups m e.par)[i]? = some ((id :: ups m e.par).getD i 0) := by rw [List.getD_eq_getElem?_getD, List.getElem?_eq_getElem hil]; rfl
      rw [← hu] at hg0 hg1
      obtain ⟨f, h1, h2⟩ := ups_step I hg0 hg1
      rw [hu] at h1 hg1
      exact ⟨f, h1, h2, by rw [List.getD_eq_getElem?_getD, hg1]; rfl, cmpZ_up I hm (List.getElem_mem hi)⟩
    · rw [List.getD_eq_getElem?_getD, ups_last I hm, hm]
      rfl
    · rw [hu, hm]
      simp
end

set_option maxHeartbeats 8000000 in
theorem ups_walk {W : World} {v : Value} {xs : List Act6} (hp : ActsIn W v xs) (id : Int) : Calls Try.prog 5 #[v, .int .i64 id] W fun e w' => e = .returned (.bool true) ∧ Below W.heap.size W w' := by
  have hlight := rlight_any hp 80 (by decide)
  have HLV : Hid (∀ w', Calls Try.prog 7 #[] w' fun e w'' => e = .returned (.bool true) ∧ Below w'.heap.size w' w'') := fun w' => wlives_any w'
  have HTA : Hid (∀ w', Below W.heap.size W w' → xs.length ≤ 130 → _) := fun w' hw' hx => tree_any (W := w') (v := v) (xs := xs) ⟨hp.1.keep hw', hp.2⟩ hx
  obtain ⟨⟨av, cap, rfl, hcap, hmax, hx⟩, hsz⟩ := hp
  clear hx hsz
  go_enter Try.func5, Try.ntmps5
  go_wp2_with (go_at_call 6; fail)
  refine hlight.mono ?_
  rintro e w1 ⟨lb, rfl, hlen, hB1⟩
  have HB1 := hid_mk hB1
  clear hlight hB1
  cases lb with
  | false =>
    clear HTA
    go_wp2_with (go_at_call 7; refine (HLV.out _).mono ?_; rintro e w2 ⟨rfl, hB2⟩)
    go_ret
    exact ⟨rfl, HB1.out.trans (hB2.mono HB1.out.size)⟩
  | true =>
    have h80 := hlen rfl
    have hta := HTA.out w1 HB1.out (by omega)
    clear HTA hlen
    go_wp2_with (go_at_call 8; fail)
    refine hta.mono ?_
    rintro e w2 ⟨p, q, m, nx, L, rfl, hR, _, hT, hRT, hB2⟩
    have HB2 := hid_mk (HB1.out.trans (hB2.mono HB1.out.size))
    have HT := hid_mk hT
    obtain ⟨d, I⟩ := hT.2
    have HI := hid_mk I
    have HCM : Hid (∀ w' x y, Below w2.heap.size w2 w' → _) := fun w' x y hw' => wcompare_any (HT.out.keep hw') x y
    have HND : Hid (∀ w' x, Below w2.heap.size w2 w' → _) := fun w' x hw' => tree_node (HT.out.keep hw') x
    have HDP : Hid (∀ w' x, Below w2.heap.size w2 w' → _) := fun w' x hw' => wdepth_any (HT.out.keep hw') x
    have hup := wup_any HT.out id
    have HM := hid_mk (ups_math I id)
    generalize ups m (parOf m id) = U at *
    clear hta hR hT hRT hB2 I HB1 HT HI
    go_wp2_with (go_at_call 15; fail)
    refine hup.mono ?_
    rintro e w3 ⟨v3, rfl, ho, hB3⟩
    obtain ⟨av3, cv, rfl, hrv, _⟩ := RowAt.of_owns ho (by simp [intsV, Value.oneCell'])
    have hs := HM.out.small
    have HC : Hid (∀ w', Below w3.heap.size w3 w' → ∀ t (ht : t < U.length), ∃ ab ao, av3 = some ⟨ab, ao, none⟩ ∧ w'.cell? ⟨ab, ao + t, none⟩ = some (.int .i64 U[t])) := fun w' hw' t ht => by
      obtain ⟨ab, ao, e1, l1, g1⟩ := hrv.intAt ht
      exact ⟨ab, ao, e1, (hw'.cell (p := ⟨ab, ao + t, none⟩) l1).trans g1⟩
    have HB3 := hid_mk hB3
    have HB23 : Hid (∀ w', Below w3.heap.size w3 w' → Below w2.heap.size w2 w') := fun w' hw' => HB3.out.trans (hw'.mono HB3.out.size)
    clear hup ho hrv hB3 HB3
    go_wp2
    go_loopw [8, 30] (fun a8 a30 wr => ∃ i : Nat, i ≤ U.length ∧ a8 = .int .i64 ((id :: U).getD i 0) ∧ a30 = .int .i64 (i : Int) ∧ Hid (Below w3.heap.size w3 wr)) (fun _ a30 _ => U.length + 1 - (intOf a30).toNat)
    case atStart => exact ⟨0, Nat.zero_le _, rfl, rfl, hid_mk (Below.refl _ _)⟩
    case round =>
      obtain ⟨i, hi, rfl, rfl, HB⟩ := hrel
      by_cases hlt : i < U.length
      · obtain ⟨ab, ao, rfl, hc⟩ := HC.out wr HB.out i hlt
        obtain ⟨f, m1, m2, m3, m4⟩ := HM.out.step i hlt
        have hnd := HND.out wr ((id :: U).getD i 0) (HB23.out wr HB.out)
        have HCK : Hid (∀ w', Below w3.heap.size w3 w' → Calls Try.prog 9 #[.pointer (some ⟨p, 0, none⟩), .int .i64 U[i], .int .i64 id] w' fun x wx => x = .returned (.int .i64 (-1)) ∧ Below w'.heap.size w' wx) := fun w' hw' => by
          have := HCM.out w' U[i] id (HB23.out w' hw')
          rw [m4] at this
          exact this
        rw [m1] at hnd
        have HM3 := hid_mk m3
        clear HCM HND HDP HM HC m4 m3 m1 HLV
        generalize (id :: U).getD i 0 = atv at *
        generalize U[i] = k at *
        go_wp2_with (go_at_call 10; fail)
        refine hnd.mono ?_
        rintro x w4 ⟨s, rfl, hE, hB4⟩
        have hpar : s.par = k := hE.2.2.1.trans m2
        obtain ⟨w5, hw5⟩ : ∃ w5, w5 = w4.alloc (.cells #[.int .i64 s.id, .string s.tag, .int .i64 s.par, .slice s.ka s.kn s.kc, .slice s.aa s.an s.ac] 33) := ⟨_, rfl⟩
        have hB4' := HB.out.trans (hB4.mono HB.out.size)
        have HB5 : Hid (Below w3.heap.size w3 w5) := by rw [Hid, hw5]; exact hB4'.alloc hB4'.size _
        have hN5 : NodeAt w5 w4.heap.size s := by rw [hw5]; exact heap_alloc_last w4 _
        obtain ⟨⟨_, _, n2, _, _⟩, _⟩ := hN5.cells
        rw [hpar] at n2
        have HW5 := hid_mk hw5
        have hck := HCK.out w5 HB5.out
        clear hnd hE hB4 hB4' hN5 hw5 hpar HB HCK m2
        go_upto_region 10 with (fail)
        rw [← HW5.out]
        go_wp2_with (go_at_call 9; fail)
        refine hck.mono ?_
        rintro x w6 ⟨rfl, hB6⟩
        have HB6 := hid_mk (HB5.out.trans (hB6.mono HB5.out.size))
        clear hck hB6 HB5 n2
        go_wp2
        exact ⟨⟨i + 1, hlt, by rw [HM3.out], by go_num, HB6⟩, by simp only [intOf]; omega⟩
      · obtain rfl : i = U.length := by omega
        have hl := HM.out.last
        have hd := HM.out.deep
        have hnd := HND.out wr id (HB23.out wr HB.out)
        have HD : Hid (∀ w', Below w3.heap.size w3 w' → _) := fun w' hw' => HDP.out w' id (HB23.out w' hw')
        have hwr : IntKind.i64.wrap ((U.length : Int) + 1) = (U.length : Int) + 1 := by rw [IntKind.wrap_i64]; omega
        clear HCM HND HDP HM HC
        generalize (id :: U).getD U.length 0 = atv at *
        generalize (m id).isSome = is at *
        generalize ((ups m id).length : Int) = D at *
        go_wp2_with (go_at_call 10; fail)
        refine hnd.mono ?_
        rintro x w4 ⟨s, rfl, _, hB4⟩
        obtain ⟨w5, hw5⟩ : ∃ w5, w5 = w4.alloc (.cells #[.int .i64 s.id, .string s.tag, .int .i64 s.par, .slice s.ka s.kn s.kc, .slice s.aa s.an s.ac] 33) := ⟨_, rfl⟩
        have hB4' := HB.out.trans (hB4.mono HB.out.size)
        have HB5 : Hid (Below w3.heap.size w3 w5) := by rw [Hid, hw5]; exact hB4'.alloc hB4'.size _
        have HW5 := hid_mk hw5
        clear hnd hB4 hB4' hw5 HB
        go_upto_region 15 with (fail)
        rw [← HW5.out]
        cases is
        all_goals
          go_wp2_with (go_at_call 14; fail)
          refine (HD.out w5 HB5.out).mono ?_
          rintro x w6 ⟨rfl, hB6⟩
          have HB6 := hid_mk (HB5.out.trans (hB6.mono HB5.out.size))
          go_wp2_with (go_at_call 7; fail)
          refine (HLV.out w6).mono ?_
          rintro e w7 ⟨rfl, hB7⟩
          go_wp2
          go_ret
          exact ⟨rfl, HB2.out.trans ((HB23.out _ (HB6.out.trans (hB7.mono HB6.out.size))).mono HB2.out.size)⟩

end Go.Proofs.Ytoncgmnccgegmaa.N
