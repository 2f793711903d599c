/- The document's Insert, by the elements' numbers. The document's Remove: the walk. The document's Remove, by the elements' numbers. -/
import Derived.Test.YtdiljkmlneeboaaGreatRfJ
import Derived.Deep.RegionLaw
import Derived.Test.YtdiljkmlneeboaaGreatRemN
namespace Go.Proofs.YtdiljkmlneeboaaGreat.N
open Go.RowKit
set_option maxRecDepth 100000

theorem findL_set : ∀ {L : List El} {t : Nat} (ht : t < L.length) {e' : El}, (L.map (·.id)).Nodup → e'.id = L[t].id → ∀ id, findL (L.set t e') id = if id = L[t].id then some e' else findL L id
  | x :: r, 0, _, e', _, he, id => by
    unfold findL
    rw [List.set_cons_zero, List.find?_cons, List.find?_cons]
    have he' : e'.id = x.id := he
    show (match e'.id == id with | true => some e' | false => _) = if id = x.id then some e' else _
    by_cases h : id = x.id
    · rw [if_pos h, he', h]
      simp
    · rw [if_neg h, he']
      have : (x.id == id) = false := by simpa using fun e : x.id = id => h e.symm
      rw [this]
  | x :: r, t + 1, ht, e', hn, he, id => by
    have ht' : t < r.length := by simpa using ht
    rw [List.map_cons, List.nodup_cons] at hn
    have ih := findL_set ht' (e' := e') hn.2 he id
    unfold findL at ih ⊢
    rw [List.set_cons_succ, List.find?_cons, List.find?_cons]
    show (match x.id == id with | true => some x | false => _) = if id = r[t].id then some e' else (match x.id == id with | true => some x | false => _)
    cases hx : x.id == id with
    | true =>
      have hne : id ≠ r[t].id := fun e => hn.1 (by
        have : x.id = id := by simpa using hx
        rw [this, e]
        exact List.mem_map_of_mem (List.getElem_mem ht'))
      rw [if_neg hne]
    | false => exact ih
theorem findL_app (L : List El) (e : El) (id : Int) : findL (L ++ [e]) id = (findL L id).or (if e.id = id then some e else none) := by
  unfold findL
  rw [List.find?_append]
  congr 1
  by_cases h : e.id = id
  · simp [h]
  · simp [h]
theorem ids_set {L : List El} {t : Nat} (ht : t < L.length) {e' : El} (he : e'.id = L[t].id) : (L.set t e').map (·.id) = L.map (·.id) := by
  refine List.ext_getElem (by simp) fun i h1 h2 => ?_
  simp only [List.getElem_map]
  by_cases hi : t = i
  · subst hi
    rw [List.getElem_set_self, he]
  · rw [List.getElem_set_ne hi]
theorem rinsert_ok {w : World} {b : Nat} {L : List El} {m : M} {nx : Int} (h : RTree w (.pointer (some ⟨b, 0, none⟩)) L m nx) (hnx : nx < 100000) (p i : Int) (tag : ByteArray) (hs : tag.size ≤ 281474976710656) (he : insErr m p i tag = 0) : Calls Tryz.prog 64 #[.pointer (some ⟨b, 0, none⟩), .int .i64 p, .int .i64 i, .string tag] w fun x w' => ∃ (b' j : Nat) (L' : List El), i = j ∧ x = .returned (.tuple #[.pointer (some ⟨b', 0, none⟩), .int .i64 nx, .int .i64 0]) ∧ RTree w' (.pointer (some ⟨b', 0, none⟩)) L' (insM m nx p j tag) (nx + 1) ∧ Below w.heap.size w w' := by
  obtain ⟨j, e, rfl, hm, hj, hz, hu⟩ := ok_insErr he
  rcases at_cases L p with ⟨_, e2⟩ | ⟨t, ht, e1, e2⟩
  · rw [h.2.1, hm] at e2
    cases e2
  · have e3 : e = L[t] := by
      rw [h.2.1, hm] at e2
      exact Option.some.inj e2
    subst e3
    refine (rinsert_walk h hnx p j tag hs ht e1 hm hj hz hu).mono ?_
    rintro x w' ⟨b', rfl, hD, hB⟩
    obtain ⟨_, hf, hnd, d, I⟩ := h
    have hid : L[t].id = p := I.id hm
    have hlo : ∀ x ∈ L.map (·.id), x < nx := fun x hx => by
      obtain ⟨e, he, rfl⟩ := List.mem_map.1 hx
      have := find_self hnd he
      rw [hf] at this
      exact (I.lo this).2
    have hpl := I.lo hm
    refine ⟨b', j, _, rfl, rfl, ⟨hD, fun id => ?_, ?_, ?_⟩, hB⟩
    · rw [findL_app, findL_set ht (e' := { L[t] with ks := ins L[t].ks j nx }) hnd rfl, hid, hf]
      unfold insM
      rw [hm]
      show _ = mset (mset m nx _) p _ id
      by_cases h1 : id = p
      · subst h1
        rw [if_pos rfl, mset_same]
        rfl
      · rw [if_neg h1, mset_ne h1]
        by_cases h2 : id = nx
        · subst h2
          rw [mset_same, I.out (.inr (Int.le_refl _))]
          simp
        · rw [mset_ne h2]
          have h3 : ¬ nx = id := fun e => h2 e.symm
          simp [h3]
    · rw [List.map_append, ids_set ht (e' := { L[t] with ks := ins L[t].ks j nx }) rfl]
      refine List.nodup_append.2 ⟨hnd, by simp, fun x hx y hy => ?_⟩
      simp at hy
      subst hy
      have := hlo x hx
      omega
    · have := I.insert hm (by rw [← ups_len I hm]; exact hu) hnx j tag uOk_nil
      unfold insM
      rw [hm]
      exact ⟨_, this⟩

end Go.Proofs.YtdiljkmlneeboaaGreat.N
namespace Go.Proofs.YtdiljkmlneeboaaGreat.N
open Go.RowKit
set_option maxRecDepth 100000

/-- What is left when an element and all below it are gone. -/
def remL (m : M) (id : Int) (L : List El) : List El := (L.filter fun e => !decide (id ∈ ups m e.id)).map fun e => { e with ks := rmv e.ks id }
theorem remL_app (m : M) (id : Int) (A B : List El) : remL m id (A ++ B) = remL m id A ++ remL m id B := by simp [remL]
theorem remL_no {m : M} {id : Int} {e : El} (h : decide (id ∈ ups m e.id) = true) : remL m id [e] = [] := by
  unfold remL
  rw [List.filter_cons, h]
  rfl
theorem remL_yes {m : M} {id : Int} {e : El} (h : decide (id ∈ ups m e.id) = false) : remL m id [e] = [{ e with ks := rmv e.ks id }] := by
  unfold remL
  rw [List.filter_cons, h]
  rfl
theorem remL_len (m : M) (id : Int) (L : List El) : (remL m id L).length ≤ L.length := by
  unfold remL
  rw [List.length_map]
  exact List.length_filter_le _ _

set_option maxHeartbeats 8000000 in
theorem rremove_walk {w : World} {b : Nat} {L : List El} {m : M} {nx : Int} (h : RTree w (.pointer (some ⟨b, 0, none⟩)) L m nx) (hnx : nx ≤ 100000) (id : Int) {e0 : El} (hm : m id = some e0) (h0 : e0.par ≠ 0) : Calls Tryz.prog 65 #[.pointer (some ⟨b, 0, none⟩), .int .i64 id] w fun x w' => ∃ b', x = .returned (.tuple #[.pointer (some ⟨b', 0, none⟩), .int .i64 0]) ∧ RDoc w' (.pointer (some ⟨b', 0, none⟩)) (remL m id L) nx ∧ Below w.heap.size w w' := by
  have hlen := h.len
  have hnd := rt_node h id
  rw [hm] at hnd
  have HSM : Hid (∀ e ∈ L, e.ks.length ≤ 200000) := fun e he => (h.small e he).1
  obtain ⟨bb, a, n, c, e1, hbl, hL, rfl, hnc, hcm, hcell⟩ := h.1.cells
  cases e1
  have HCL := hid_mk hcell
  have HC : Hid (∀ w', Below w.heap.size w w' → ∀ i (hi : i < L.length), ∃ (s : N5) (ab ao : Nat), a = some ⟨ab, ao, none⟩ ∧ s.id = L[i].id ∧ w'.cell? ⟨ab, ao + i * 5, none⟩ = some (.int .i64 s.id) ∧ w'.cell? ⟨ab, ao + i * 5 + 1, none⟩ = some (.string s.tag) ∧ w'.cell? ⟨ab, ao + i * 5 + 2, none⟩ = some (.int .i64 s.par) ∧ w'.cell? ⟨ab, ao + i * 5 + 3, none⟩ = some (.slice s.ka s.kn s.kc) ∧ w'.cell? ⟨ab, ao + i * 5 + 4, none⟩ = some (.slice s.aa s.an s.ac)) := fun w' hw' i hi => by
    obtain ⟨s, ab, ao, e, _, hE, g0, g1, g2, g3, g4⟩ := (hL.keep hw').at hi
    exact ⟨s, ab, ao, e, hE.1, g0, g1, g2, g3, g4⟩
  have HND : Hid (∀ w' i (hi : i < L.length), Below w.heap.size w w' → Calls Tryz.prog 33 #[.pointer (some ⟨b, 0, none⟩), .int .i64 L[i].id] w' fun x w'' => ∃ s : N5, x = .returned (.tuple #[.agg #[.int .i64 s.id, .string s.tag, .int .i64 s.par, .slice s.ka s.kn s.kc, .slice s.aa s.an s.ac], .bool true]) ∧ ElAt w'' s L[i] ∧ (NewAt w'.heap.size s.ka ∧ NewAt w'.heap.size s.aa) ∧ Below w'.heap.size w' w'') := fun w' i hi hw' => by
    have := rt_node (h.keep hw') L[i].id
    rw [h.mem (List.getElem_mem hi)] at this
    exact this
  have HBL : Hid (∀ w' (n : Int), Below w.heap.size w w' → _) := fun w' n hw' => rbelow_any (h.keep hw') n id (by rw [hm]; simp)
  obtain ⟨i5, z5, hi0, hz0, hz1, hz2, hz3⟩ := info52r
  have HI0 := hid_mk hi0
  have HZ0 := hid_mk hz0
  have HZ1 := hid_mk hz1
  have HZ2 := hid_mk hz2
  have HZ3 := hid_mk hz3
  clear hcell hL h hm hi0 hz0 hz1 hz2 hz3
  go_enter Tryz.func65, Tryz.ntmps65
  go_wp2_with (go_at_call 33; fail)
  refine hnd.mono ?_
  rintro x w2 ⟨s, rfl, hE0, _, hB2⟩
  have hpar : s.par = e0.par := hE0.2.2.1
  obtain ⟨w3, hw3⟩ : ∃ w3, w3 = w2.alloc (.cells #[.int .i64 s.id, .string s.tag, .int .i64 s.par, .slice s.ka s.kn s.kc, .slice s.aa s.an s.ac] 76) := ⟨_, rfl⟩
  have HB3 : Hid (Below w.heap.size w w3) := by rw [hw3]; exact hB2.alloc hB2.size _
  have hN3 : NodeAt w3 w2.heap.size s := by rw [hw3]; exact heap_alloc_last w2 _
  obtain ⟨⟨_, _, n2, _, _⟩, _⟩ := hN3.cells
  have hp0 : (s.par == 0) = false := by rw [hpar]; simpa using h0
  have HW3 := hid_mk hw3
  clear hnd hE0 hB2 hw3 hN3 hpar
  go_upto_region 2 with (fail)
  rw [← HW3.out]
  obtain ⟨y0, y1⟩ := HCL.out w3 HB3.out
  obtain ⟨w4, hw4⟩ : ∃ w4, w4 = w3.alloc (.cells #[.slice none 0 0, .int .i64 nx] 126) := ⟨_, rfl⟩
  have hB34 : Below w3.heap.size w3 w4 := by rw [hw4]; exact (Below.refl _ _).alloc (Nat.le_refl _) _
  have hD4 : w4.heap[w3.heap.size]? = some (.cells #[.slice none 0 0, .int .i64 nx] 126 (0, 0)) := by rw [hw4]; exact heap_alloc_last w3 _
  have HB4 := hid_mk (HB3.out.trans (hB34.mono HB3.out.size))
  obtain ⟨y2, _⟩ := HCL.out w4 HB4.out
  have HO4 : Hid (ROwn w.heap.size w4 w3.heap.size (remL m id (L.take 0)) nx) := ⟨HB3.out.size, _, hD4, [], ⟨rfl, .inl ⟨rfl, rfl⟩⟩, rfl, fun i hi => absurd hi (by simp [remL]), fun s hs => absurd hs (by simp), by simp [Value.ownBlock]⟩
  have HW4 := hid_mk hw4
  have hlow3 : w.heap.size ≤ w3.heap.size := HB3.out.size
  clear hw4 hB34 hD4
  go_upto_region 7 with (fail)
  rw [← HW4.out]
  clear n2 hp0 y0 y1
  go_wp2
  go_loopw [39] (fun a39 wq => ∃ t : Nat, t ≤ L.length ∧ a39 = .int .i64 (t : Int) ∧ Hid (ROwn w.heap.size wq w3.heap.size (remL m id (L.take t)) nx) ∧ Hid (Below w.heap.size w wq)) (fun a39 _ => L.length + 1 - (intOf a39).toNat)
  case atStart => exact ⟨0, Nat.zero_le _, rfl, HO4, HB4⟩
  case round =>
    clear HO4 HB4 y2 HCL
    obtain ⟨t, ht, rfl, HO, HB⟩ := hrel
    by_cases htl : t < L.length
    · obtain ⟨s1, ab, ao, rfl, hid, g0, g1, g2, g3, g4⟩ := HC.out wr HB.out t htl
      obtain ⟨w5, hw5⟩ : ∃ w5, w5 = wr.alloc (.cells #[.int .i64 s1.id, .string s1.tag, .int .i64 s1.par, .slice s1.ka s1.kn s1.kc, .slice s1.aa s1.an s1.ac] 76) := ⟨_, rfl⟩
      have hB5 : Below wr.heap.size wr w5 := by rw [hw5]; exact (Below.refl _ _).alloc (Nat.le_refl _) _
      have hN5 : NodeAt w5 wr.heap.size s1 := by rw [hw5]; exact heap_alloc_last wr _
      obtain ⟨⟨n0, _, _, _, _⟩, _, _, _, _, _, hgl⟩ := hN5.cells
      rw [hid] at n0
      have HB5 : Hid (Below w.heap.size w w5) := HB.out.trans (hB5.mono HB.out.size)
      have HO5 := hid_mk (HO.out.keep hB5)
      have hbe := HBL.out w5 L[t].id HB5.out
      have HTK : Hid (L.take (t + 1) = L.take t ++ [L[t]]) := by rw [Hid, List.take_add_one, List.getElem?_eq_getElem htl]; rfl
      have HN0 : Hid (∀ W, Below w5.heap.size w5 W → W.cell? ⟨wr.heap.size, 0, none⟩ = some (.int .i64 L[t].id)) := fun W hW => (hW.cell (p := ⟨wr.heap.size, 0, none⟩) hgl).trans n0
      have HN1 : Hid (∀ W, Below w5.heap.size w5 W → _) := fun W hW => HND.out W t htl (HB5.out.trans (hW.mono HB5.out.size))
      have hks := HSM.out L[t] (List.getElem_mem htl)
      have HW5 := hid_mk hw5
      generalize L[t] = el at *
      clear hB5 hN5 hw5 hid HND HC HO HB HBL HSM hgl
      go_upto_region 10 with (fail)
      rw [← HW5.out]
      clear g0 g1 g2 g3 g4
      cases hbb : decide (id ∈ ups m el.id) with
      | true =>
        rw [hbb] at hbe
        have HE : Hid (remL m id (L.take (t + 1)) = remL m id (L.take t)) := by rw [Hid, HTK.out, remL_app, remL_no hbb, List.append_nil]
        clear hbb
        go_wp2_with (go_at_call 106; refine hbe.mono ?_; clear hbe; rintro e w6 ⟨rfl, hB6⟩; have HB6 := hid_mk hB6; clear hB6)
        exact ⟨⟨t + 1, htl, by go_num, by rw [HE.out]; exact hid_mk (HO5.out.keep HB6.out), hid_mk (HB5.out.trans (HB6.out.mono HB5.out.size))⟩, by simp only [intOf]; omega⟩
      | false =>
        rw [hbb] at hbe
        have HE : Hid (remL m id (L.take (t + 1)) = remL m id (L.take t) ++ [{ el with ks := rmv el.ks id }]) := by rw [Hid, HTK.out, remL_app, remL_yes hbb]
        clear hbb
        go_upto_region 11 with (go_at_call 106; refine hbe.mono ?_; clear hbe; rintro e w6 ⟨rfl, hB6⟩; have HB6 := hid_mk hB6; clear hB6)
        have n1 := HN0.out w6 HB6.out
        have hnd := HN1.out w6 HB6.out
        have HO6 := hid_mk (HO5.out.keep HB6.out)
        have HB06 := hid_mk (HB5.out.trans (HB6.out.mono HB5.out.size))
        clear HN0 HN1 HO5 HB5 HB6 n0
        go_wp2_with (go_at_call 33; fail)
        refine hnd.mono ?_
        rintro x w7 ⟨s2, rfl, hE7, ⟨hn1, hn2⟩, hB67⟩
        have hkn2 := hE7.kn
        obtain ⟨id2, tag2, par2, ka2, kn2, kc2, aa2, an2, ac2⟩ := s2
        dsimp only at *
        subst hkn2
        obtain ⟨w8, hw8⟩ : ∃ w8, w8 = w7.alloc (.cells #[.int .i64 id2, .string tag2, .int .i64 par2, .slice ka2 el.ks.length kc2, .slice aa2 an2 ac2] 76) := ⟨_, rfl⟩
        have hB78 : Below w7.heap.size w7 w8 := by rw [hw8]; exact (Below.refl _ _).alloc (Nat.le_refl _) _
        have hN8 : NodeAt w8 w7.heap.size ⟨id2, tag2, par2, ka2, el.ks.length, kc2, aa2, an2, ac2⟩ := by rw [hw8]; exact heap_alloc_last w7 _
        obtain ⟨⟨_, _, _, k3, _⟩, _, _, _, _, _, hgl8⟩ := hN8.cells
        dsimp only at k3
        have hwo := rwithout_any ((hE7.keep hB78).2.2.2.1) hks id
        have HW8 := hid_mk hw8
        have HN8 := hid_mk hN8
        have HB78 := hid_mk hB78
        have HE7 := hid_mk hE7
        have HB67 := hid_mk hB67
        have HNA := hid_mk hn2
        clear hnd hw8 hB78 hN8 hE7 hB67 hn1 hn2 n1
        go_upto_region 12 with (fail)
        rw [← HW8.out]
        go_upto_region 13 with (go_at_call 107; refine hwo.mono ?_; clear hwo; rintro e w9 ⟨a9, c9, rfl, hr9, hn9, hB89⟩; have HR9 := hid_mk hr9; have HN9 := hid_mk hn9; have HB89 := hid_mk hB89; obtain ⟨⟨_, _, _, p3, _⟩, _, _, _, q3, _, _⟩ := NodeAt.cells ((hB89.block _ hgl8).trans HN8.out); dsimp only at p3; clear hr9 hn9 hB89)
        obtain ⟨W, hW⟩ : ∃ W, W = w9.setCell ⟨w7.heap.size, 3, none⟩ (.slice a9 (rmv el.ks id).length c9) := ⟨_, rfl⟩
        have hNW : NodeAt W w7.heap.size ⟨id2, tag2, par2, a9, (rmv el.ks id).length, c9, aa2, an2, ac2⟩ := by rw [hW]; exact heap_setCell_same w9 w7.heap.size 3 _ 76 _ ((HB89.out.block _ hgl8).trans HN8.out)
        have hB7W : Below w7.heap.size w7 W := by rw [hW]; exact (HB78.out.trans (HB89.out.mono HB78.out.size)).setCell (p := ⟨w7.heap.size, 3, none⟩) (Nat.le_refl _) _
        have hRW : RowAt W 1 a9 (rmv el.ks id).length c9 (intsV (rmv el.ks id)) := by rw [hW]; exact HR9.out.set (o := 3) HN9.out hgl8 _
        have hEW : ElAt W ⟨id2, tag2, par2, a9, (rmv el.ks id).length, c9, aa2, an2, ac2⟩ { el with ks := rmv el.ks id } := ⟨HE7.out.1, HE7.out.2.1, HE7.out.2.2.1, hRW, (HE7.out.keep hB7W).2.2.2.2⟩
        have hB6W : Below w6.heap.size w6 W := HB67.out.trans (hB7W.mono HB67.out.size)
        rw [← hW]
        obtain ⟨k0, k1, k2, k3', k4⟩ := hNW.cells.1
        dsimp only at k0 k1 k2 k3' k4
        obtain ⟨hDB, v, hd6, hLO6⟩ := HO6.out
        have hdW := (hB6W.block _ (Array.getElem?_eq_some_iff.1 hd6).1).trans hd6
        have hLO := hLO6.keep hB6W
        have hv6 : ∀ g, v.ownBlock = some g → g < w6.heap.size := by
          obtain ⟨_, h1, _⟩ := hLO6
          exact fun g hg => (h1.lt g hg).2
        have hdl : w3.heap.size < w6.heap.size := (Array.getElem?_eq_some_iff.1 hd6).1
        have h68 : w6.heap.size ≤ w8.heap.size := Nat.le_trans HB67.out.size HB78.out.size
        have hofg : ∀ g, g < w6.heap.size → Off g ⟨id2, tag2, par2, a9, (rmv el.ks id).length, c9, aa2, an2, ac2⟩ := fun g hg => ⟨fun x hx e => by have := HN9.out x hx; omega, fun x hx e => by have := HNA.out x hx; omega⟩
        have HB0W : Hid (Below w.heap.size w W) := HB06.out.trans (hB6W.mono HB06.out.size)
        have hlt6 : (remL m id (L.take t)).length ≤ 100000 := by
          have h1 := remL_len m id (L.take t)
          rw [List.length_take] at h1
          omega
        obtain ⟨va, vc, rfl, _⟩ := hLO.ls
        generalize remL m id (L.take t) = Lt at *
        have c0 : W.cell? ⟨w3.heap.size, 0, none⟩ = some (.slice va Lt.length vc) := by simp [World.cell?, hdW]
        obtain ⟨X, hX⟩ : ∃ X, X = Obj.cells #[.int .i64 id2, .string tag2, .int .i64 par2, .slice a9 (rmv el.ks id).length c9, .slice aa2 an2 ac2] 76 := ⟨_, rfl⟩
        have hBX : Below W.heap.size W ((W.alloc X).drew) := ((Below.refl _ _).alloc (Nat.le_refl _) _).drew
        have hszW : w.heap.size ≤ W.heap.size := HB0W.out.size
        have hsrc : RowAt ((W.alloc X).drew) 5 (some ⟨W.heap.size, 0, none⟩) 1 1 (c5 ⟨id2, tag2, par2, a9, (rmv el.ks id).length, c9, aa2, an2, ac2⟩) := by rw [hX]; exact row5 (t := 76) (s := ⟨id2, tag2, par2, a9, (rmv el.ks id).length, c9, aa2, an2, ac2⟩) (heap_alloc_last W _)
        have hlW : w3.heap.size < W.heap.size := (Array.getElem?_eq_some_iff.1 hdW).1
        have hdX := (hBX.block _ hlW).trans hdW
        have hlX : w3.heap.size < ((W.alloc X).drew).heap.size := Nat.lt_of_lt_of_le hlW hBX.size
        obtain ⟨ss, hown, hsl, hx3, hx4, hob⟩ := hLO.keep hBX
        have hBs : w.heap.size ≤ ((W.alloc X).drew).heap.size := Nat.le_trans hszW hBX.size
        have HGB : Hid (∀ w7, ((W.alloc X).drew).grownBy w7 (Value.slice va Lt.length vc).ownBlock → w7.heap[w3.heap.size]? = some (.cells #[.slice va Lt.length vc, .int .i64 nx] 126 (0, 0)) ∧ w7.cell? ⟨w3.heap.size, 0, none⟩ = some (.slice va Lt.length vc) ∧ w7.frozen? ⟨w3.heap.size, 0, none⟩ = false) := fun w7 hg => by
          have h7 := (hg.block _ hlX (fun e => hob e.symm)).trans hdX
          exact ⟨h7, by simp [World.cell?, h7], by simp [World.frozen?, h7]⟩
        have HEND : Hid (∀ u a7 e7, ((W.alloc X).drew).grownBy u (Value.slice va Lt.length vc).ownBlock → u.ownsRow w.heap.size 76 5 (.slice a7 (Lt.length + 1) e7) (Lt.length + 1) (ss.flatMap c5 ++ c5 ⟨id2, tag2, par2, a9, (rmv el.ks id).length, c9, aa2, an2, ac2⟩) → ((Value.slice a7 (Lt.length + 1) e7).ownBlock = (Value.slice va Lt.length vc).ownBlock ∨ (Value.slice a7 (Lt.length + 1) e7).ownBlock = some ((W.alloc X).drew).heap.size) → Hid (ROwn w.heap.size (u.setCell ⟨w3.heap.size, 0, none⟩ (.slice a7 (Lt.length + 1) e7)) w3.heap.size (remL m id (L.take (t + 1))) nx) ∧ Hid (Below w.heap.size w (u.setCell ⟨w3.heap.size, 0, none⟩ (.slice a7 (Lt.length + 1) e7)))) := fun u a7 e7 hg ho ha => by
          have hB7 : Below w.heap.size w u := (HB0W.out.trans (hBX.mono hszW)).grown hg (HB0W.out.trans (hBX.mono hszW)).size (fun k hk => (hown.lt k hk).1)
          have hA7 := LOwn.add hsl hx3 hx4 hob (hEW.keep hBX) (hofg _ hdl) (fun g hg => hofg g (hv6 g hg)) ho hg ha hlX
          rw [HE.out]
          exact ⟨hA7.store hDB (HGB.out u hg).1, hB7.setCell (p := ⟨w3.heap.size, 0, none⟩) hDB _⟩
        have cX : ((W.alloc X).drew).cell? ⟨w3.heap.size, 0, none⟩ = some (.slice va Lt.length vc) := by simp [World.cell?, hdX]
        obtain ⟨j0, j1, j2, j3, j4⟩ := (NodeAt.cells ((hBX.block _ (Array.getElem?_eq_some_iff.1 hNW).1).trans hNW)).1
        dsimp only at j0 j1 j2 j3 j4
        have hi0 := HI0.out
        have hz0 := HZ0.out
        have hz1 := HZ1.out
        have hz2 := HZ2.out
        have hz3 := HZ3.out
        rw [hX] at hown hsrc hBs HGB HEND cX j0 j1 j2 j3 j4
        clear hLO hLO6 hd6 hdW hdX hlX hBX hsl hx3 hx4 hob hX hv6 hofg hEW hRW hB7W hB6W hNW hW p3 q3 k3 HR9 HN9 HB89 HE7 HN8 HW8 HB78 HB67 HNA
        go_region_law (refine step_append_rowAt (by rfl) _ _ 124 (by rfl) (B := w.heap.size) Tryz.underlying124 hi0 hz0 hz1 hz2 hz3 (by decide) (by decide) (by rfl) (by rfl) hown hsrc (by omega) hBs ?_; intro v7 u7 hown7 hgr7 hat7; have HG7 := hid_mk hgr7; have HA7 := hid_mk hat7; obtain ⟨hd7, c7, f7⟩ := HGB.out u7 hgr7; obtain ⟨a7, e7, rfl⟩ := own_slice hown7; have HO7 := hid_mk hown7; clear hgr7 hown7 hat7 hd7)
        all_goals
          obtain ⟨HOE, HBE⟩ := HEND.out _ _ _ HG7.out HO7.out HA7.out
          clear c7 f7 HG7 HO7 HA7
          go_wp2
          exact ⟨⟨t + 1, htl, by go_num, HOE, HBE⟩, by simp only [intOf]; omega⟩
    · obtain rfl : t = L.length := by omega
      have hO := HO.out.doc
      rw [List.take_length] at hO
      have HO2 := hid_mk hO
      clear HC HND HO hO HBL HSM
      go_wp2
      go_ret2
      exact ⟨w3.heap.size, rfl, HO2.out, HB.out⟩

end Go.Proofs.YtdiljkmlneeboaaGreat.N
namespace Go.Proofs.YtdiljkmlneeboaaGreat.N
open Go.RowKit
set_option maxRecDepth 100000

theorem remL_ids (m : M) (id : Int) (L : List El) : ((remL m id L).map (·.id)).Sublist (L.map (·.id)) := by
  unfold remL
  rw [List.map_map]
  exact List.Sublist.map _ List.filter_sublist
theorem remL_mem {m : M} {id : Int} {L : List El} {x : El} : x ∈ remL m id L ↔ ∃ e ∈ L, id ∉ ups m e.id ∧ x = { e with ks := rmv e.ks id } := by
  unfold remL
  simp only [List.mem_map, List.mem_filter, Bool.not_eq_true', decide_eq_false_iff_not]
  exact ⟨fun ⟨e, ⟨h1, h2⟩, h3⟩ => ⟨e, h1, h2, h3.symm⟩, fun ⟨e, h1, h2, h3⟩ => ⟨e, ⟨h1, h2⟩, h3.symm⟩⟩
theorem rremove_ok {w : World} {b : Nat} {L : List El} {m : M} {nx : Int} (h : RTree w (.pointer (some ⟨b, 0, none⟩)) L m nx) (id : Int) {k : Nat} (F : Full m id k) (he : remErr m id = 0) : Calls Tryz.prog 65 #[.pointer (some ⟨b, 0, none⟩), .int .i64 id] w fun x w' => ∃ (b' : Nat) (L' : List El), x = .returned (.tuple #[.pointer (some ⟨b', 0, none⟩), .int .i64 0]) ∧ RTree w' (.pointer (some ⟨b', 0, none⟩)) L' (cutM m id (levs m id k)) nx ∧ Below w.heap.size w w' := by
  have hh := h
  obtain ⟨hD0, hf, hnd, d, I⟩ := hh
  obtain ⟨e0, hm⟩ : ∃ e0, m id = some e0 := by
    cases hm : m id with
    | none => rw [remErr, if_pos hm] at he; cases he
    | some e => exact ⟨e, rfl⟩
  have h1 : id ≠ 1 := fun e => by
    rw [remErr, if_neg (by rw [hm]; simp), if_pos e] at he
    cases he
  refine (rremove_walk h I.nxb.2 id hm (fun e => h1 ((I.parRoot hm).1 e))).mono ?_
  rintro x w' ⟨b', rfl, hD, hB⟩
  have hnd' : ((remL m id L).map (·.id)).Nodup := hnd.sublist (remL_ids m id L)
  refine ⟨b', _, rfl, ⟨hD, fun n => ?_, hnd', _, I.remove hm h1 F⟩, hB⟩
  unfold cutM
  cases hn : m n with
  | none =>
    have : findL (remL m id L) n = none := by
      unfold findL
      rw [List.find?_eq_none]
      intro x hx
      obtain ⟨e, h3, h4, rfl⟩ := remL_mem.1 hx
      have h5 := find_self hnd h3
      rw [hf] at h5
      intro h6
      have h7 : e.id = n := by simpa using h6
      rw [h7, hn] at h5
      cases h5
    rw [this]
    simp
  | some e =>
    have hel : e ∈ L ∧ e.id = n := find_id (by rw [hf]; exact hn)
    by_cases hin : n ∈ levs m id k
    · rw [if_pos hin]
      unfold findL
      rw [List.find?_eq_none]
      intro x hx
      obtain ⟨e', h3, h4, rfl⟩ := remL_mem.1 hx
      intro h6
      have h7 : e'.id = n := by simpa using h6
      rw [h7] at h4
      exact h4 ((F.iff I hm hn).1 hin)
    · rw [if_neg hin]
      have hx : ({ e with ks := rmv e.ks id } : El) ∈ remL m id L := remL_mem.2 ⟨e, hel.1, by rw [hel.2]; exact fun h => hin ((F.iff I hm hn).2 h), rfl⟩
      have := find_self hnd' hx
      rw [← hel.2]
      exact this
theorem ret2e {v : Value} {a c : Int} (h : c = a) : Ending.returned (.tuple #[v, .int .i64 a]) = .returned (.tuple #[v, .int .i64 c]) := by rw [h]
set_option maxHeartbeats 2000000 in
theorem rremove_err {w : World} {b : Nat} {L : List El} {m : M} {nx : Int} (h : RTree w (.pointer (some ⟨b, 0, none⟩)) L m nx) (id : Int) (he : remErr m id ≠ 0) : Calls Tryz.prog 65 #[.pointer (some ⟨b, 0, none⟩), .int .i64 id] w fun x w' => x = .returned (.tuple #[.pointer (some ⟨b, 0, none⟩), .int .i64 (remErr m id)]) ∧ Below w.heap.size w w' := by
  have hnd := rt_node h id
  obtain ⟨d, I⟩ := h.2.2.2
  cases hm : m id with
  | none =>
    rw [hm] at hnd
    have HE : Hid (remErr m id = 1) := by rw [Hid, remErr, if_pos hm]
    clear hm he I h
    go_enter Tryz.func65, Tryz.ntmps65
    go_wp2_with (go_at_call 33; fail)
    refine hnd.mono ?_
    rintro x w2 ⟨s, rfl, _, _, hB2⟩
    have HB2 : Hid (Below w.heap.size w (w2.alloc (.cells #[.int .i64 s.id, .string s.tag, .int .i64 s.par, .slice s.ka s.kn s.kc, .slice s.aa s.an s.ac] 76))) := hB2.alloc hB2.size _
    clear hnd hB2
    go_wp2
    go_ret2
    exact ⟨ret2e HE.out, HB2.out⟩
  | some el =>
    rw [hm] at hnd
    have h1 : id = 1 := by
      by_cases h1 : id = 1
      · exact h1
      · exact absurd (by rw [remErr, if_neg (by rw [hm]; simp), if_neg h1]) he
    have HE : Hid (remErr m id = 2) := by rw [Hid, remErr, if_neg (by rw [hm]; simp), if_pos h1]
    have hp0 : el.par = 0 := (I.parRoot hm).2 h1
    clear hm he I h h1
    go_enter Tryz.func65, Tryz.ntmps65
    go_wp2_with (go_at_call 33; fail)
    refine hnd.mono ?_
    rintro x w2 ⟨s, rfl, hE0, _, hB2⟩
    have hpar : s.par = 0 := by
      have : s.par = el.par := hE0.2.2.1
      rw [this, hp0]
    have hpb : (s.par == 0) = true := by simpa using hpar
    obtain ⟨w3, hw3⟩ : ∃ w3, w3 = w2.alloc (.cells #[.int .i64 s.id, .string s.tag, .int .i64 s.par, .slice s.ka s.kn s.kc, .slice s.aa s.an s.ac] 76) := ⟨_, rfl⟩
    have HB3 : Hid (Below w.heap.size w w3) := by rw [hw3]; exact hB2.alloc hB2.size _
    have hN3 : NodeAt w3 w2.heap.size s := by rw [hw3]; exact heap_alloc_last w2 _
    obtain ⟨⟨_, _, n2, _, _⟩, _⟩ := hN3.cells
    have HW3 := hid_mk hw3
    clear hnd hE0 hB2 hw3 hN3 hpar hp0
    go_upto_region 2 with (fail)
    rw [← HW3.out]
    go_wp2
    go_ret2
    exact ⟨ret2e HE.out, HB3.out⟩

end Go.Proofs.YtdiljkmlneeboaaGreat.N
