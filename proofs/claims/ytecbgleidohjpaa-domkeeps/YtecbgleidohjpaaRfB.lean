/- The document's New and Attr. -/
import Derived.Test.YtecbgleidohjpaaRfW
import Derived.Test.YtecbgleidohjpaaRfM
import Derived.Test.YtecbgleidohjpaaSatO
namespace Go.Proofs.Ytecbgleidohjpaa.N
open Go.RowKit
set_option maxRecDepth 100000

theorem rnew_no (tag : ByteArray) (w : World) (hs : tag.size ≤ 281474976710656) (hn : nameZ tag = false) : Calls Try.prog 12 #[.string tag] w fun x w' => x = .returned (.tuple #[.pointer none, .int .i64 7]) ∧ w' = w := by
  have h := refName_any tag w hs
  rw [hn] at h
  go_enter Try.func12, Try.ntmps12
  go_wp2_with (go_at_call 31; refine h.mono ?_; clear h; rintro e w1 ⟨rfl, rfl⟩)
  go_ret2
  exact ⟨rfl, rfl⟩
theorem rnew_yes (tag : ByteArray) (w : World) (hs : tag.size ≤ 281474976710656) (hn : nameZ tag = true) : Calls Try.prog 12 #[.string tag] w fun x w' => ∃ b, x = .returned (.tuple #[.pointer (some ⟨b, 0, none⟩), .int .i64 0]) ∧ RTree w' (.pointer (some ⟨b, 0, none⟩)) [⟨1, tag, 0, [], []⟩] (mset (fun _ => none) 1 ⟨1, tag, 0, [], []⟩) 2 ∧ Below w.heap.size w w' := by
  have h := refName_any tag w hs
  rw [hn] at h
  have hA : Below w.heap.size w (w.alloc (.cells #[.int .i64 1, .string tag, .int .i64 0, .slice none 0 0, .slice none 0 0] 52)) := (Below.refl _ _).alloc (Nat.le_refl _) _
  have hA2 : Below w.heap.size w ((w.alloc (.cells #[.int .i64 1, .string tag, .int .i64 0, .slice none 0 0, .slice none 0 0] 52)).alloc (.cells #[.slice (some ⟨w.heap.size, 0, none⟩) 1 1, .int .i64 2] 76)) := hA.alloc hA.size _
  have hs1 : (w.alloc (.cells #[.int .i64 1, .string tag, .int .i64 0, .slice none 0 0, .slice none 0 0] 52)).heap.size = w.heap.size + 1 := by simp
  have hb : ((w.alloc (.cells #[.int .i64 1, .string tag, .int .i64 0, .slice none 0 0, .slice none 0 0] 52)).alloc (.cells #[.slice (some ⟨w.heap.size, 0, none⟩) 1 1, .int .i64 2] 76)).heap[w.heap.size]? = some (.cells #[.int .i64 1, .string tag, .int .i64 0, .slice none 0 0, .slice none 0 0] 52 (0, 0)) := (((Below.refl (w.heap.size + 1) _).alloc (by rw [hs1]; omega) _).block _ (by omega)).trans (heap_alloc_last w _)
  have hd : ((w.alloc (.cells #[.int .i64 1, .string tag, .int .i64 0, .slice none 0 0, .slice none 0 0] 52)).alloc (.cells #[.slice (some ⟨w.heap.size, 0, none⟩) 1 1, .int .i64 2] 76)).heap[w.heap.size + 1]? = some (.cells #[.slice (some ⟨w.heap.size, 0, none⟩) 1 1, .int .i64 2] 76 (0, 0)) := by
    rw [← hs1]
    exact heap_alloc_last _ _
  have HR : Hid (RTree ((w.alloc (.cells #[.int .i64 1, .string tag, .int .i64 0, .slice none 0 0, .slice none 0 0] 52)).alloc (.cells #[.slice (some ⟨w.heap.size, 0, none⟩) 1 1, .int .i64 2] 76)) (.pointer (some ⟨w.heap.size + 1, 0, none⟩)) [⟨1, tag, 0, [], []⟩] (mset (fun _ => none) 1 ⟨1, tag, 0, [], []⟩) 2) := by
    generalize ((w.alloc (.cells #[.int .i64 1, .string tag, .int .i64 0, .slice none 0 0, .slice none 0 0] 52)).alloc (.cells #[.slice (some ⟨w.heap.size, 0, none⟩) 1 1, .int .i64 2] 76)) = W at *
    refine ⟨⟨w.heap.size + 1, _, 1, 1, rfl, hd, [⟨1, tag, 0, none, 0, 0, none, 0, 0⟩], ⟨rfl, Nat.le_refl _, by decide, flat5_one _, .inr ⟨w.heap.size, 0, rfl, (Array.getElem?_eq_some_iff.1 hb).1, fun j u hu => ?_⟩⟩, rfl, fun i hi hi' => ?_⟩, fun id => ?_, by simp, _, Inv.new uOk_nil tag⟩
    · simp only [World.cell?, hb]
      have hj : j < 5 := (List.getElem?_eq_some_iff.1 hu).1
      rw [Nat.zero_add]
      simpa [c5] using hu
    · have hi0 : i = 0 := by simp at hi; omega
      subst hi0
      exact ⟨rfl, rfl, rfl, RowAt.nil _ 1, RowAt.nil _ 2⟩
    · unfold findL mset
      by_cases h1 : id = 1
      · subst h1
        simp
      · rw [if_neg h1]
        simp
        omega
  have HB := hid_mk hA2
  clear hA hA2 hs1 hb hd
  go_enter Try.func12, Try.ntmps12
  go_wp2_with (go_at_call 31; refine h.mono ?_; clear h; rintro e w1 ⟨rfl, rfl⟩)
  go_ret2
  exact ⟨w.heap.size + 1, rfl, HR.out, HB.out⟩

theorem cmp_eq {a b : ByteArray} : (decide (cmpB a b = 0)) = (a == b) := by
  rw [beq_toListBytes, Bool.eq_iff_iff, decide_eq_true_iff, beq_iff_eq, ByteArray.toList_eq, ByteArray.toList_eq]
  exact ⟨fun h => by rw [cmpB_zero.1 h], fun h => cmpB_zero.2 (ByteArray.ext (Array.toList_inj.1 h))⟩

theorem valA_some {us : Us} {nm : ByteArray} {t : Nat} (h : t < us.length) (he : (us[t].1 == nm) = true) (hno : ∀ j (hj : j < us.length), j < t → (us[j].1 == nm) = false) : valA us nm = some us[t].2 := by
  have : us.find? (fun p => decide (cmpB p.1 nm = 0)) = some us[t] := by
    rw [List.find?_eq_some_iff_getElem]
    exact ⟨by rw [cmp_eq]; exact he, t, h, rfl, fun j hj => by simp only [cmp_eq]; rw [hno j (by omega) hj]; rfl⟩
  unfold valA
  rw [this]
  rfl
theorem valA_none {us : Us} {nm : ByteArray} (hno : ∀ j (hj : j < us.length), (us[j].1 == nm) = false) : valA us nm = none := by
  have : us.find? (fun p => decide (cmpB p.1 nm = 0)) = none := by
    rw [List.find?_eq_none]
    intro p hp
    obtain ⟨j, hj, rfl⟩ := List.getElem_of_mem hp
    rw [cmp_eq, hno j hj]
    simp
  unfold valA
  rw [this]
  rfl
theorem ret2_val {o : Option ByteArray} {v : ByteArray} {b : Bool} (h : o.getD ⟨#[]⟩ = v) (h2 : o.isSome = b) : Ending.returned (.tuple #[.string v, .bool b]) = .returned (.tuple #[.string (o.getD ⟨#[]⟩), .bool o.isSome]) := by rw [h, h2]
set_option maxHeartbeats 4000000 in
theorem rattr_any {w : World} {rp : Value} {L : List El} {m : M} {nx : Int} (h : RTree w rp L m nx) (id : Int) (nm : ByteArray) : Calls Try.prog 17 #[rp, .int .i64 id, .string nm] w fun x w' => x = .returned (.tuple #[.string ((attrZ m id nm).getD ⟨#[]⟩), .bool (attrZ m id nm).isSome]) ∧ Below w.heap.size w w' := by
  have hnd := rt_node h id
  have hz : attrZ m id nm = valA ((m id).getD zeroEl).us nm := by
    unfold attrZ
    cases m id with
    | none => rfl
    | some e => rfl
  rw [hz]
  have hus : ((m id).getD zeroEl).us.length ≤ 1000 := by
    cases e : m id with
    | none => simp [zeroEl]
    | some el =>
      obtain ⟨_, _, _, d, I⟩ := h
      have := (I.us e).1
      show el.us.length ≤ 1000
      omega
  clear hz h
  generalize (m id).getD zeroEl = el at *
  generalize (m id).isSome = bo at *
  go_enter Try.func17, Try.ntmps17
  go_wp2_with (go_at_call 43; fail)
  refine hnd.mono ?_
  rintro x w2 ⟨s, rfl, hE, _, hB2⟩
  obtain ⟨w3, hw3⟩ : ∃ w3, w3 = w2.alloc (.cells #[.int .i64 s.id, .string s.tag, .int .i64 s.par, .slice s.ka s.kn s.kc, .slice s.aa s.an s.ac] 52) := ⟨_, rfl⟩
  have hB23 : Below w2.heap.size w2 w3 := by rw [hw3]; exact (Below.refl _ _).alloc (Nat.le_refl _) _
  have HB3 : Hid (Below w.heap.size w w3) := hB2.trans (hB23.mono hB2.size)
  have hN3 : NodeAt w3 w2.heap.size s := by rw [hw3]; exact heap_alloc_last w2 _
  obtain ⟨⟨_, _, _, _, n4⟩, _⟩ := hN3.cells
  have han := hE.an
  have hE3 := hE.keep hB23
  have hcap1 := hE3.2.2.2.2.2.1
  have hcap2 := hE3.2.2.2.2.2.2.1
  unfold maxLen at hcap2
  have HAC : Hid (∀ W', Below w3.heap.size w3 W' → ∀ t (ht : t < el.us.length), ∃ ab ao, s.aa = some ⟨ab, ao, none⟩ ∧ W'.cell? ⟨ab, ao + t * 2, none⟩ = some (.string el.us[t].1) ∧ W'.cell? ⟨ab, ao + t * 2 + 1, none⟩ = some (.string el.us[t].2)) := fun W' hW' t ht => by
    rcases (hE3.keep hW').2.2.2.2.2.2.2.2 with ⟨_, h0⟩ | ⟨ab, ao, e1, l1, g1⟩
    · omega
    · obtain ⟨q1, q2⟩ := attrsV_at ht
      refine ⟨ab, ao, e1, g1 _ _ q1, ?_⟩
      have := g1 _ _ q2
      rwa [← Nat.add_assoc] at this
  have HW3 := hid_mk hw3
  obtain ⟨id0, tag0, par0, ka, kn, kc, aa, an, ac⟩ := s
  dsimp only at *
  subst han
  clear hnd hE hB2 hB23 hE3 hN3 hw3
  go_upto_region 2 with (fail)
  rw [← HW3.out]
  go_wp2
  go_loopw [21] (fun a21 wq => ∃ t : Nat, t ≤ el.us.length ∧ a21 = .int .i64 (t : Int) ∧ Hid (Below w3.heap.size w3 wq) ∧ Hid (∀ j (hj : j < el.us.length), j < t → (el.us[j].1 == nm) = false)) (fun a21 _ => el.us.length + 1 - (intOf a21).toNat)
  case atStart => exact ⟨0, Nat.zero_le _, rfl, hid_mk (Below.refl _ _), fun j _ h => absurd h (by omega)⟩
  case round =>
    obtain ⟨t, ht, rfl, HB, HNO⟩ := hrel
    by_cases htl : t < el.us.length
    · obtain ⟨ab, ao, rfl, q1, q2⟩ := HAC.out wr HB.out t htl
      have HB4 : Hid (Below w3.heap.size w3 (wr.alloc (.cells #[.string el.us[t].1, .string el.us[t].2] 56))) := HB.out.alloc HB.out.size _
      cases hq : (el.us[t].1 == nm) with
      | true =>
        have hq2 : (el.us[t].1.toList == nm.toList) = true := by rw [← beq_toListBytes]; exact hq
        have HV := hid_mk (valA_some htl hq HNO.out)
        generalize el.us[t].1 = x1 at *
        generalize el.us[t].2 = x2 at *
        have HF : Hid (Below w.heap.size w (wr.alloc (.cells #[.string x1, .string x2] 56))) := HB3.out.trans (HB4.out.mono HB3.out.size)
        clear HAC HNO n4
        go_wp2
        go_ret2
        exact ⟨ret2_val (by rw [HV.out]; rfl) (by rw [HV.out]; rfl), HF.out⟩
      | false =>
        have hq2 : (el.us[t].1.toList == nm.toList) = false := by rw [← beq_toListBytes]; exact hq
        have HN2 : Hid (∀ j (hj : j < el.us.length), j < t + 1 → (el.us[j].1 == nm) = false) := fun j hj hjt => by
          by_cases h1 : j < t
          · exact HNO.out j hj h1
          · obtain rfl : j = t := by omega
            exact hq
        generalize el.us[t].1 = x1 at *
        generalize el.us[t].2 = x2 at *
        clear HAC HNO n4
        go_wp2
        exact ⟨⟨t + 1, htl, by go_num, HB4, HN2⟩, by simp only [intOf]; omega⟩
    · have HV := hid_mk (valA_none (us := el.us) (nm := nm) fun j hj => HNO.out j hj (by omega))
      have HF : Hid (Below w.heap.size w wr) := HB3.out.trans (HB.out.mono HB3.out.size)
      clear HAC HNO n4
      go_wp2
      go_ret2
      exact ⟨ret2_val (by rw [HV.out]; rfl) (by rw [HV.out]; rfl), HF.out⟩

end Go.Proofs.Ytecbgleidohjpaa.N
