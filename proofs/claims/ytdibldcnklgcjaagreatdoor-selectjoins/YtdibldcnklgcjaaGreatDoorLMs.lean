/- The reader of selectors: a choice. The reader of selectors: what may stand behind a type. One level of selectors, in memory of its own. The reader of selectors: the Lists' values are among those that were read. -/
import Derived.Test.YtdibldcnklgcjaaGreatDoorLPl
import Derived.Deep.AppendLies
import Derived.Test.YtdibldcnklgcjaaGreatDoorLRk
namespace Go.Proofs.YtdibldcnklgcjaaGreatDoor.L
open Go.RowKit
set_option maxRecDepth 100000

theorem listed_any (W : World) (k : Int) : Calls Tryz.prog 40 #[.int .i64 k] W fun e w' => e = .returned (.bool (lstB k)) ∧ w' = W := by
  have HE : Hid (lstB k = (k == 5 || k == 6 || k == 7)) := rfl
  generalize lstB k = r at *
  cases h5 : (k == 5)
  · cases h6 : (k == 6)
    · have HR : Hid (r = (k == 7)) := by rw [Hid, HE.out, h5, h6]; rfl
      clear HE
      go_enter Tryz.func40, Tryz.ntmps40
      go_wp2
      go_ret
      exact ⟨by rw [HR.out]; rfl, rfl⟩
    · have HR : Hid (r = true) := by rw [Hid, HE.out, h5, h6]; rfl
      clear HE
      go_enter Tryz.func40, Tryz.ntmps40
      go_wp2
      go_ret
      exact ⟨by rw [HR.out]; rfl, rfl⟩
  · have HR : Hid (r = true) := by rw [Hid, HE.out, h5]; rfl
    clear HE
    go_enter Tryz.func40, Tryz.ntmps40
    go_wp2
    go_ret
    exact ⟨by rw [HR.out]; rfl, rfl⟩
/-- What a way of reading answers, with the values of Lists. -/
def Oth (lo : Nat) (W : World) (b : Nat) (ks : List (List V)) (vs : List V) (r : Option (List Sv × Nat)) (e : Ending) (w' : World) : Prop := match r with
  | none => e = .returned (.slice none 0 0) ∧ Rk lo W b ks vs w'
  | some (l, n) => ∃ v, e = .returned v ∧ w'.ownsRow W.heap.size 40 7 v l.length (ssC (l.map Prod.fst)) ∧ Rk lo W b (ks ++ kidsOf l) (vs.drop n) w'
theorem info31 : ∃ i z, Tryz.prog.info? 44 = some i ∧ i.zero = some z ∧ i.size = 1 ∧ i.bytes = 24 ∧ z.cells.size = 1 := ⟨_, _, by rfl, by rfl, by rfl, by rfl, by rfl⟩
theorem cells2 {W : World} {b : Nat} {x0 x1 : Value} {T : TypeId} (h : W.heap[b]? = some (.cells #[x0, x1] T (0, 0))) : W.cell? ⟨b, 0, none⟩ = some x0 ∧ W.cell? ⟨b, 1, none⟩ = some x1 ∧ W.frozen? ⟨b, 0, none⟩ = false ∧ W.frozen? ⟨b, 1, none⟩ = false :=
  ⟨cellAt h 0, cellAt h 1, by simp [World.frozen?, h], by simp [World.frozen?, h]⟩
/-- A slice of values more is kept. -/
theorem Rk.more {W w1 w2 : World} {lo b : Nat} {ks : List (List V)} {vs : List V} {rest kids kids' kv : Value} {cs : List Value} {us : List V} (hb : W.heap[b]? = some (.cells #[rest, kids] 63 (0, 0))) (hv : VsAt (· < min lo b) W rest vs) (ho : W.ownsRow (b + 1) 44 1 kids ks.length cs)
    (hks : ∀ i (h : i < ks.length), ∃ v, cs[i]? = some v ∧ VsAt (· < min lo b) W v (ks[i]'h)) (hkv : VsAt (· < min lo b) W kv us) (ha : Below W.heap.size W w1) (hg : w1.grownBy w2 kids.ownBlock) (ho2 : w2.ownsRow (b + 1) 44 1 kids' (ks.length + 1) (cs ++ [kv])) :
    Rk lo W b (ks ++ [us]) vs (w2.setCell ⟨b, 1, none⟩ kids') ∧ w2.heap[b]? = some (.cells #[rest, kids] 63 (0, 0)) := by
  have hbl : b < W.heap.size := (Array.getElem?_eq_some_iff.1 hb).1
  have hown : ∀ j, kids.ownBlock = some j → b < j ∧ ∃ c, W.heap[j]? = some (.cells c 44 (0, 0)) := fun j hj => by
    rcases ho.2 with ⟨rfl, _⟩ | ⟨g, cap, cur, rfl, h1, h2, _⟩
    · cases hj
    · cases hj
      exact ⟨h1, cur, h2⟩
  have hk : ∀ j, j < W.heap.size → (j ≤ b ∨ ∀ c fr, W.heap[j]? ≠ some (.cells c 44 fr)) → w2.heap[j]? = W.heap[j]? := fun j hj hc => by
    rw [hg.block j (Nat.lt_of_lt_of_le hj ha.size) (fun e => ?_), ha.block j hj]
    obtain ⟨h1, c, h2⟩ := hown j e.symm
    rcases hc with hc | hc
    · omega
    · exact hc _ _ h2
  have hb2 : w2.heap[b]? = some (.cells #[rest, kids] 63 (0, 0)) := (hk b hbl (.inl (Nat.le_refl _))).trans hb
  have hsz : W.heap.size ≤ w2.heap.size := Nat.le_trans ha.size hg.size
  have hlow : ∀ j, j < b → (w2.setCell ⟨b, 1, none⟩ kids').heap[j]? = W.heap[j]? := fun j hj => (heap_ne (by omega)).trans (hk j (by omega) (.inl (by omega)))
  have hst : ∀ {v l}, VsAt (· < min lo b) W v l → VsAt (· < min lo b) (w2.setCell ⟨b, 1, none⟩ kids') v l := fun h => h.stay (by simpa using hsz) fun j hj _ => hlow j (by omega)
  refine ⟨⟨⟨kids', cs ++ [kv], ⟨⟨rest, by rw [set_at 1 _ _ hb2]; rfl, hst hv⟩, KeepX.of (Below.refl _ _)⟩, ?_, fun i hi => ?_⟩, ⟨hg.os.trans ha.os, hg.tape.trans ha.tape, hg.output.trans ha.output, by simpa using hsz, fun j hj hn hc => (heap_ne hn).trans (hk j hj (hc.imp Nat.le_of_lt id))⟩⟩, hb2⟩
  · rw [List.length_append]
    exact own_stay ho2 fun g _ hB _ => heap_ne (by omega)
  · have hl : cs.length = ks.length := by have := ho.1; omega
    by_cases hik : i < ks.length
    · obtain ⟨v, e, hv'⟩ := hks i hik
      refine ⟨v, by rw [List.getElem?_append_left (by omega)]; exact e, ?_⟩
      rw [List.getElem_append_left hik]
      exact hst hv'
    · have hie : i = ks.length := by simp at hi; omega
      subst hie
      refine ⟨kv, by rw [List.getElem?_append_right (by omega), hl]; simp, ?_⟩
      rw [List.getElem_append_right (Nat.le_refl _)]
      simpa using hst hkv

set_option maxHeartbeats 1000000 in
theorem choice_any {W : World} {lo b : Nat} {ks : List (List V)} {vs : List V} (h : Rk lo W b ks vs W) (hsg : Signs W) (hf : Fit vs) (hkn : ks.length ≤ 1000000) :
    Calls Tryz.prog 108 #[.pointer (some ⟨b, 0, none⟩)] W (Oth lo W b ks vs (choiceR vs)) := by
  obtain ⟨kids0, hrd0, _⟩ := h.open
  have hfn := function_any hrd0 hsg hf.tx'
  cases hp : lstB (fnR vs) with
  | false =>
    have HE : Hid (choiceR vs = none) := by
      rw [Hid]
      unfold choiceR
      cases vs[1]? with
      | none => rfl
      | some u => simp only [hp]; rfl
    have hli := fun w => listed_any w (fnR vs)
    rw [HE.out]
    rw [hp] at hli
    generalize fnR vs = z at *
    have HK := hid_mk h
    clear h hsg hf HE hp hrd0
    go_enter Tryz.func108, Tryz.ntmps108
    go_wp2_with (go_at_call 111; fail)
    refine hfn.mono ?_
    rintro e w1 ⟨rfl, hB1⟩
    have HB := hid_mk hB1
    clear hfn hB1
    go_wp2_with (go_at_call 40; fail)
    refine (hli w1).mono ?_
    rintro e w2 ⟨rfl, rfl⟩
    clear hli
    go_wp2
    go_ret
    exact ⟨rfl, HK.out.then HB.out⟩
  | true =>
  obtain ⟨u, hu, hlen⟩ := fnR_at (vs := vs) (by intro e; rw [e] at hp; cases hp)
  have HE : Hid (choiceR vs = some ([(⟨fnR vs, ⟨#[]⟩, 0, ⟨#[]⟩, 0, 0⟩, u.kids)], 2)) := by
    rw [Hid]
    unfold choiceR
    rw [hu]
    simp only [hp, if_true]
  have HKO : Hid (kidsOf [((⟨fnR vs, ⟨#[]⟩, 0, ⟨#[]⟩, 0, 0⟩ : S6), u.kids)] = [u.kids]) := by
    rw [Hid]
    simp [kidsOf, hp]
  have hli := fun w => listed_any w (fnR vs)
  rw [hp] at hli
  generalize choiceR vs = R at *
  generalize fnR vs = z at *
  obtain ⟨i0, z0, hi0, hz0, hz1, hz2, hz3⟩ := info31
  have HK := hid_mk h
  clear h hsg hf hp hrd0
  go_enter Tryz.func108, Tryz.ntmps108
  go_wp2_with (go_at_call 111; fail)
  refine hfn.mono ?_
  rintro e w1 ⟨rfl, hB1⟩
  have HK1 := hid_mk (HK.out.then hB1)
  clear hfn hB1 HK
  go_wp2_with (go_at_call 40; fail)
  refine (hli w1).mono ?_
  rintro e w2 ⟨rfl, rfl⟩
  clear hli
  obtain ⟨kids, cs, hrd, hown, hks⟩ := HK1.out.rd
  obtain ⟨a, n, cap, hn, hc1, hc2, h1, hvs, hs⟩ := hrd.see
  have hbl : b < w2.heap.size := hrd.lt
  obtain ⟨hl, g, off, kv, rfl, q0, q1, q4, q5, hkv⟩ := hs 1 u hu
  rw [Nat.one_mul] at q0 q1 q4 q5
  obtain ⟨c0, c1, f0, f1⟩ := cells2 h1
  obtain ⟨a', cap', rfl, _, _⟩ := hkv.slice
  have hsl : ∃ ka kn kc, kids = .slice ka kn kc := by
    rcases hown.2 with ⟨rfl, _⟩ | ⟨g, cap, cur, rfl, _⟩
    · exact ⟨_, _, _, rfl⟩
    · exact ⟨_, _, _, rfl⟩
  have HM : Hid (∀ x w3 kids', (w2.alloc (.cells #[x] 44)).drew.grownBy w3 kids.ownBlock → x = .slice a' u.kids.length cap' → w3.ownsRow (b + 1) 44 1 kids' (ks.length + 1) (cs ++ [x]) → Rk lo w2 b (ks ++ [u.kids]) vs (w3.setCell ⟨b, 1, none⟩ kids') ∧ w3.heap[b]? = some (.cells #[.slice (some ⟨g, off, none⟩) n cap, kids] 63 (0, 0))) := fun x w3 kids' hg e ho2 => by
    subst e
    exact Rk.more h1 hvs hown hks hkv (((Below.refl _ _).alloc (Nat.le_refl _) _).drew) hg ho2
  have hH : w2.heap[w2.heap.size]? = none := Array.getElem?_eq_none (Nat.le_refl _)
  have hkne : kids.ownBlock ≠ some b := fun e => by
    have := (hown.lt b e).1
    omega
  have HOW := hid_mk hown
  obtain ⟨ka, kn, kc, rfl⟩ := hsl
  clear hks hvs hs hrd hn h1 q0 q1 q4 hkv hu
  have hl1 : (1 : Int) < (n : Int) := by omega
  go_upto_region 4 with (fail)
  go_region_law
    ((refine step_append_lies _ (by rfl) _ _ _ (by rfl) (b + 1) 44 i0 z0 1 24 Tryz.underlying61 hi0 hz0 hz1 hz2 hz3 (by omega) (.slice ka kn kc) ks.length cs (by rfl) ((hown.alloc _).drew)
        ⟨w2.heap.size, 0, none⟩ 1 1 [.slice a' u.kids.length cap'] (by rfl) (by rfl) (World.news_of_block (cs := #[.slice a' u.kids.length cap']) (t := 44) (fr := (0, 0)) (heap_alloc_last w2 _)) (by simp [Value.oneCell'])
        (by omega) (by unfold maxLen; omega) (by omega) (by simp; omega) (w2.heap.size + 1) (by simp) ?_
      intro gg cap5 w5 hown5 hgrow hgat hglt
      obtain ⟨hR5, hb5⟩ := HM.out _ w5 _ hgrow rfl hown5
      obtain ⟨d0, d1, e0, e1⟩ := cells2 hb5
      have HR5 := hid_mk hR5
      clear hown5 hgrow hgat hglt hb5 hR5))
  all_goals
    obtain ⟨W6, hW6⟩ : ∃ W6, W6 = w5.setCell ⟨b, 1, none⟩ (.slice (some ⟨gg, 0, none⟩) (ks.length + 1) cap5) := ⟨_, rfl⟩
    rw [← hW6] at HR5 ⊢
    obtain ⟨kids6, hrd6, hnx⟩ := HR5.out.open
    have htl := told_lit hrd6 [⟨z, ⟨#[]⟩, 0, ⟨#[]⟩, 0, 0⟩] 2 hlen (by simp) W6 (Below.refl _ _)
    rw [show (ssC [⟨z, ⟨#[]⟩, 0, ⟨#[]⟩, 0, 0⟩]).toArray = #[.int .i64 z, .string ⟨#[]⟩, .int .i64 0, .string ⟨#[]⟩, .int .i64 0, .int .i64 0, .slice none 0 0] from rfl] at htl
    have HNX := hid_mk hnx
    clear hW6 hrd6 hnx d0 d1 e0 e1 c0 c1 f0 f1 q5 hown HOW HM hkne hH hi0 hz0 hz1 hz2 hz3
    go_wp2_with (go_at_call 102; fail)
    refine htl.mono ?_
    rintro e w7 ⟨v', rfl, ho, hr⟩
    have HZ : Hid (Oth lo W b ks vs R (.returned v') w7) := by
      rw [Hid, HE.out]
      refine ⟨v', rfl, own_from ho (Nat.le_trans HK1.out.keep.size HR5.out.keep.size), ?_⟩
      rw [HKO.out]
      exact HK1.out.from (HNX.out _ _ hr)
    clear htl ho hr HNX
    go_wp2
    go_ret
    exact HZ.out
end Go.Proofs.YtdibldcnklgcjaaGreatDoor.L
namespace Go.Proofs.YtdibldcnklgcjaaGreatDoor.L
open Go.RowKit
set_option maxRecDepth 100000

theorem kidsOf_bare (l : List S6) (h : ∀ s ∈ l, lstB s.k = false) : kidsOf (l.map fun s => (s, [])) = [] := by
  induction l with
  | nil => rfl
  | cons s r ih =>
    have h1 := ih fun x hx => h x (by simp [hx])
    have h2 := h s (by simp)
    unfold kidsOf at h1 ⊢
    rw [List.map_cons, List.filter_cons_of_neg (by simp [h2])]
    exact h1
/-- A way of reading without a List. -/
theorem Way.oth {W : World} {lo b : Nat} {ks : List (List V)} {vs : List V} {kids : Value} (h : Rk lo W b ks vs W) (hn : ∀ us W', Rd lo W b kids us W' → Rk lo W b ks us W') {r : Option (List S6 × Nat)} (ok : WayOk vs r) {e : Ending} {w' : World} (hw : Way lo W b kids vs r e w') : Oth lo W b ks vs (bare r) e w' := by
  cases r with
  | none => exact ⟨hw.1, h.then hw.2⟩
  | some x =>
    obtain ⟨l, n⟩ := x
    obtain ⟨v, h1, h2, h3⟩ := hw
    obtain ⟨_, _, _, _, h5⟩ := ok l n rfl
    refine ⟨v, h1, ?_, ?_⟩
    · have e1 : (l.map fun s => ((s, []) : Sv)).map Prod.fst = l := by rw [List.map_map]; exact List.map_id l
      have e2 : (l.map fun s => ((s, []) : Sv)).length = l.length := by simp
      rw [e1, e2]
      exact h2
    · rw [kidsOf_bare l h5, List.append_nil]
      exact hn _ _ h3
theorem Oth.up {W0 W : World} {lo b : Nat} {ks : List (List V)} {vs : List V} (h : Rk lo W0 b ks vs W) {r : Option (List Sv × Nat)} {e : Ending} {w' : World} (hw : Oth lo W b ks vs r e w') : Oth lo W0 b ks vs r e w' := by
  cases r with
  | none => exact ⟨hw.1, h.from hw.2⟩
  | some x =>
    obtain ⟨v, h1, h2, h3⟩ := hw
    exact ⟨v, h1, own_from h2 h.keep.size, h.from h3⟩
theorem own_len {W : World} {B : Nat} {T : TypeId} {s n : Nat} {v : Value} {xs : List Value} (h : W.ownsRow B T s v n xs) (hn : 0 < n) : ∃ a c, v = .slice (some a) n c := by
  rcases h.2 with ⟨_, e⟩ | ⟨g, cap, cur, rfl, _⟩
  · omega
  · exact ⟨_, _, rfl⟩

def wy (k b : Nat) : Value := .func (.func k) #[.pointer (some ⟨b, 0, none⟩)] #[]
theorem way_i0 (b : Nat) (w : World) : (Instr.index 140 (.agg #[wy 103 b, wy 104 b, wy 105 b, wy 106 b, wy 107 b, wy 108 b]) (.int .i64 0)).run Tryz.prog w = .ok (wy 103 b) w := by kernel_rfl
theorem way_i1 (b : Nat) (w : World) : (Instr.index 140 (.agg #[wy 103 b, wy 104 b, wy 105 b, wy 106 b, wy 107 b, wy 108 b]) (.int .i64 1)).run Tryz.prog w = .ok (wy 104 b) w := by kernel_rfl
theorem way_i2 (b : Nat) (w : World) : (Instr.index 140 (.agg #[wy 103 b, wy 104 b, wy 105 b, wy 106 b, wy 107 b, wy 108 b]) (.int .i64 2)).run Tryz.prog w = .ok (wy 105 b) w := by kernel_rfl
theorem way_i3 (b : Nat) (w : World) : (Instr.index 140 (.agg #[wy 103 b, wy 104 b, wy 105 b, wy 106 b, wy 107 b, wy 108 b]) (.int .i64 3)).run Tryz.prog w = .ok (wy 106 b) w := by kernel_rfl
theorem way_i4 (b : Nat) (w : World) : (Instr.index 140 (.agg #[wy 103 b, wy 104 b, wy 105 b, wy 106 b, wy 107 b, wy 108 b]) (.int .i64 4)).run Tryz.prog w = .ok (wy 107 b) w := by kernel_rfl
theorem way_i5 (b : Nat) (w : World) : (Instr.index 140 (.agg #[wy 103 b, wy 104 b, wy 105 b, wy 106 b, wy 107 b, wy 108 b]) (.int .i64 5)).run Tryz.prog w = .ok (wy 108 b) w := by kernel_rfl
set_option maxHeartbeats 2000000 in
theorem other_any {W : World} {lo b : Nat} {ks : List (List V)} {vs : List V} (h : Rk lo W b ks vs W) (hsg : Signs W) (hb : sgB < b) (hf : Fit vs) (hkn : ks.length ≤ 1000000) :
    Calls Tryz.prog 92 #[.pointer (some ⟨b, 0, none⟩)] W (Oth lo W b ks vs (otherR vs)) := by
  have HG : Hid (∀ w, Rk lo W b ks vs w → Signs w) := fun w hk => hsg.keepT hk.keep hb
  have H0 : Hid (∀ w, Rk lo W b ks vs w → Calls Tryz.prog 103 #[.pointer (some ⟨b, 0, none⟩)] w (Oth lo w b ks vs (bare (idR vs)))) := fun w hk => by
    obtain ⟨kids, hrd, hn⟩ := hk.self.open
    exact (id_any hrd).mono fun e w' q => Way.oth hk.self hn (idR_ok vs) q
  have K0 := bare_ok (idR_ok vs)
  have H1 : Hid (∀ w, Rk lo W b ks vs w → Calls Tryz.prog 104 #[.pointer (some ⟨b, 0, none⟩)] w (Oth lo w b ks vs (bare (classR vs)))) := fun w hk => by
    obtain ⟨kids, hrd, hn⟩ := hk.self.open
    exact (class_any hrd).mono fun e w' q => Way.oth hk.self hn (classR_ok vs) q
  have K1 := bare_ok (classR_ok vs)
  have H2 : Hid (∀ w, Rk lo W b ks vs w → Calls Tryz.prog 105 #[.pointer (some ⟨b, 0, none⟩)] w (Oth lo w b ks vs (bare (attrR vs)))) := fun w hk => by
    obtain ⟨kids, hrd, hn⟩ := hk.self.open
    exact (attr_any hrd (HG.out w hk) hf).mono fun e w' q => Way.oth hk.self hn (attrR_ok vs) q
  have K2 := bare_ok (attrR_ok vs)
  have H3 : Hid (∀ w, Rk lo W b ks vs w → Calls Tryz.prog 106 #[.pointer (some ⟨b, 0, none⟩)] w (Oth lo w b ks vs (bare (stateR vs)))) := fun w hk => by
    obtain ⟨kids, hrd, hn⟩ := hk.self.open
    exact (state_any hrd (HG.out w hk) hf.tx').mono fun e w' q => Way.oth hk.self hn (stateR_ok vs) q
  have K3 := bare_ok (stateR_ok vs)
  have H4 : Hid (∀ w, Rk lo W b ks vs w → Calls Tryz.prog 107 #[.pointer (some ⟨b, 0, none⟩)] w (Oth lo w b ks vs (bare (placeR vs)))) := fun w hk => by
    obtain ⟨kids, hrd, hn⟩ := hk.self.open
    exact (place_any hrd (HG.out w hk) hf).mono fun e w' q => Way.oth hk.self hn (placeR_ok vs) q
  have K4 := bare_ok (placeR_ok vs)
  have H5 : Hid (∀ w, Rk lo W b ks vs w → Calls Tryz.prog 108 #[.pointer (some ⟨b, 0, none⟩)] w (Oth lo w b ks vs (choiceR vs))) := fun w hk => choice_any hk.self (HG.out w hk) hf hkn
  have K5 := choiceR_ok vs
  have HE : Hid (otherR vs = orR (bare (idR vs)) (orR (bare (classR vs)) (orR (bare (attrR vs)) (orR (bare (stateR vs)) (orR (bare (placeR vs)) (choiceR vs)))))) := rfl
  generalize otherR vs = R at *
  generalize bare (idR vs) = r0 at *
  generalize bare (classR vs) = r1 at *
  generalize bare (attrR vs) = r2 at *
  generalize bare (stateR vs) = r3 at *
  generalize bare (placeR vs) = r4 at *
  generalize choiceR vs = r5 at *
  have HK := hid_mk h
  have HO0 := hid_mk K0
  have HO1 := hid_mk K1
  have HO2 := hid_mk K2
  have HO3 := hid_mk K3
  have HO4 := hid_mk K4
  have HO5 := hid_mk K5
  clear h hsg hf HG K0 K1 K2 K3 K4 K5
  go_enter Tryz.func92, Tryz.ntmps92
  go_wp2_with (fail)
  refine wp_loop_rounds 7 ?_
  have hc := H0.out W HK.out
  clear H0
  have hx := way_i0 b
  unfold wy at hx
  rw [rounds_succ]
  go_wp2_with (go_at_call 103; fail)
  refine hc.mono ?_
  rintro e w1 hO
  clear hc hx
  cases r0 with
  | some x =>
    obtain ⟨l, n⟩ := x
    have HR : Hid (R = some (l, n)) := HE.out
    obtain ⟨hne, _, _, _, _⟩ := HO0.out l n rfl
    obtain ⟨v, rfl, ho, hr⟩ := hO
    have hpos : 0 < l.length := List.length_pos_iff.2 hne
    have HZ : Hid (Oth lo W b ks vs R (.returned v) w1) := by
      rw [Hid, HR.out]
      exact Oth.up HK.out (r := some (l, n)) ⟨v, rfl, ho, hr⟩
    obtain ⟨a, c, rfl⟩ := own_len ho hpos
    have hd1 : decide ((0 : Int) < (l.length : Int)) = true := decide_eq_true (by omega)
    have hd2 : (0 : Int) < (l.length : Int) := by omega
    clear ho hr HE HR hne H1 H2 H3 H4 H5
    go_wp2
    go_ret
    exact HZ.out
  | none =>
  obtain ⟨rfl, hK1⟩ := hO
  have HK1 := hid_mk (HK.out.from hK1)
  clear hK1  HO0
  go_wp2
  have hc := H1.out w1 HK1.out
  clear H1
  have hx := way_i1 b
  unfold wy at hx
  rw [rounds_succ]
  go_wp2_with (go_at_call 104; fail)
  refine hc.mono ?_
  rintro e w2 hO
  clear hc hx
  cases r1 with
  | some x =>
    obtain ⟨l, n⟩ := x
    have HR : Hid (R = some (l, n)) := HE.out
    obtain ⟨hne, _, _, _, _⟩ := HO1.out l n rfl
    obtain ⟨v, rfl, ho, hr⟩ := hO
    have hpos : 0 < l.length := List.length_pos_iff.2 hne
    have HZ : Hid (Oth lo W b ks vs R (.returned v) w2) := by
      rw [Hid, HR.out]
      exact Oth.up HK1.out (r := some (l, n)) ⟨v, rfl, ho, hr⟩
    obtain ⟨a, c, rfl⟩ := own_len ho hpos
    have hd1 : decide ((0 : Int) < (l.length : Int)) = true := decide_eq_true (by omega)
    have hd2 : (0 : Int) < (l.length : Int) := by omega
    clear ho hr HE HR hne H2 H3 H4 H5
    go_wp2
    go_ret
    exact HZ.out
  | none =>
  obtain ⟨rfl, hK2⟩ := hO
  have HK2 := hid_mk (HK1.out.from hK2)
  clear hK2 HK1 HO1
  go_wp2
  have hc := H2.out w2 HK2.out
  clear H2
  have hx := way_i2 b
  unfold wy at hx
  rw [rounds_succ]
  go_wp2_with (go_at_call 105; fail)
  refine hc.mono ?_
  rintro e w3 hO
  clear hc hx
  cases r2 with
  | some x =>
    obtain ⟨l, n⟩ := x
    have HR : Hid (R = some (l, n)) := HE.out
    obtain ⟨hne, _, _, _, _⟩ := HO2.out l n rfl
    obtain ⟨v, rfl, ho, hr⟩ := hO
    have hpos : 0 < l.length := List.length_pos_iff.2 hne
    have HZ : Hid (Oth lo W b ks vs R (.returned v) w3) := by
      rw [Hid, HR.out]
      exact Oth.up HK2.out (r := some (l, n)) ⟨v, rfl, ho, hr⟩
    obtain ⟨a, c, rfl⟩ := own_len ho hpos
    have hd1 : decide ((0 : Int) < (l.length : Int)) = true := decide_eq_true (by omega)
    have hd2 : (0 : Int) < (l.length : Int) := by omega
    clear ho hr HE HR hne H3 H4 H5
    go_wp2
    go_ret
    exact HZ.out
  | none =>
  obtain ⟨rfl, hK3⟩ := hO
  have HK3 := hid_mk (HK2.out.from hK3)
  clear hK3 HK2 HO2
  go_wp2
  have hc := H3.out w3 HK3.out
  clear H3
  have hx := way_i3 b
  unfold wy at hx
  rw [rounds_succ]
  go_wp2_with (go_at_call 106; fail)
  refine hc.mono ?_
  rintro e w4 hO
  clear hc hx
  cases r3 with
  | some x =>
    obtain ⟨l, n⟩ := x
    have HR : Hid (R = some (l, n)) := HE.out
    obtain ⟨hne, _, _, _, _⟩ := HO3.out l n rfl
    obtain ⟨v, rfl, ho, hr⟩ := hO
    have hpos : 0 < l.length := List.length_pos_iff.2 hne
    have HZ : Hid (Oth lo W b ks vs R (.returned v) w4) := by
      rw [Hid, HR.out]
      exact Oth.up HK3.out (r := some (l, n)) ⟨v, rfl, ho, hr⟩
    obtain ⟨a, c, rfl⟩ := own_len ho hpos
    have hd1 : decide ((0 : Int) < (l.length : Int)) = true := decide_eq_true (by omega)
    have hd2 : (0 : Int) < (l.length : Int) := by omega
    clear ho hr HE HR hne H4 H5
    go_wp2
    go_ret
    exact HZ.out
  | none =>
  obtain ⟨rfl, hK4⟩ := hO
  have HK4 := hid_mk (HK3.out.from hK4)
  clear hK4 HK3 HO3
  go_wp2
  have hc := H4.out w4 HK4.out
  clear H4
  have hx := way_i4 b
  unfold wy at hx
  rw [rounds_succ]
  go_wp2_with (go_at_call 107; fail)
  refine hc.mono ?_
  rintro e w5 hO
  clear hc hx
  cases r4 with
  | some x =>
    obtain ⟨l, n⟩ := x
    have HR : Hid (R = some (l, n)) := HE.out
    obtain ⟨hne, _, _, _, _⟩ := HO4.out l n rfl
    obtain ⟨v, rfl, ho, hr⟩ := hO
    have hpos : 0 < l.length := List.length_pos_iff.2 hne
    have HZ : Hid (Oth lo W b ks vs R (.returned v) w5) := by
      rw [Hid, HR.out]
      exact Oth.up HK4.out (r := some (l, n)) ⟨v, rfl, ho, hr⟩
    obtain ⟨a, c, rfl⟩ := own_len ho hpos
    have hd1 : decide ((0 : Int) < (l.length : Int)) = true := decide_eq_true (by omega)
    have hd2 : (0 : Int) < (l.length : Int) := by omega
    clear ho hr HE HR hne H5
    go_wp2
    go_ret
    exact HZ.out
  | none =>
  obtain ⟨rfl, hK5⟩ := hO
  have HK5 := hid_mk (HK4.out.from hK5)
  clear hK5 HK4 HO4
  go_wp2
  have hc := H5.out w5 HK5.out
  clear H5
  have hx := way_i5 b
  unfold wy at hx
  rw [rounds_succ]
  go_wp2_with (go_at_call 108; fail)
  refine hc.mono ?_
  rintro e w6 hO
  clear hc hx
  cases r5 with
  | some x =>
    obtain ⟨l, n⟩ := x
    have HR : Hid (R = some (l, n)) := HE.out
    obtain ⟨hne, _, _, _, _⟩ := HO5.out l n rfl
    obtain ⟨v, rfl, ho, hr⟩ := hO
    have hpos : 0 < l.length := List.length_pos_iff.2 hne
    have HZ : Hid (Oth lo W b ks vs R (.returned v) w6) := by
      rw [Hid, HR.out]
      exact Oth.up HK5.out (r := some (l, n)) ⟨v, rfl, ho, hr⟩
    obtain ⟨a, c, rfl⟩ := own_len ho hpos
    have hd1 : decide ((0 : Int) < (l.length : Int)) = true := decide_eq_true (by omega)
    have hd2 : (0 : Int) < (l.length : Int) := by omega
    clear ho hr HE HR hne
    go_wp2
    go_ret
    exact HZ.out
  | none =>
  obtain ⟨rfl, hK6⟩ := hO
  have HK6 := hid_mk (HK5.out.from hK6)
  clear hK6 HK5 HO5
  go_wp2
  rw [rounds_succ]
  go_wp2
  go_ret
  rw [show R = none from HE.out]
  exact ⟨rfl, HK6.out⟩
end Go.Proofs.YtdibldcnklgcjaaGreatDoor.L
namespace Go.Proofs.YtdibldcnklgcjaaGreatDoor.L
open Go.RowKit
set_option maxRecDepth 100000

def blk (v : Value) : Nat := v.ownBlock.getD 0
theorem own_stayT {W W' : World} {B : Nat} {T : TypeId} {s n : Nat} {v : Value} {xs : List Value} (ho : W.ownsRow B T s v n xs) (h : ∀ g c, W.heap[g]? = some (.cells c T (0, 0)) → B ≤ g → W'.heap[g]? = W.heap[g]?) : W'.ownsRow B T s v n xs := by
  refine ⟨ho.1, ho.2.imp id ?_⟩
  rintro ⟨g, cap, cur, rfl, h1, h2, h3⟩
  exact ⟨g, cap, cur, rfl, h1, (h g cur h2 h1).trans h2, h3⟩
/-- A compound selector in a row of its own; its Lists are not there yet. -/
def PtAt (B : Nat) (W : World) (v : Value) (p : List Sv) : Prop := W.ownsRow B 40 7 v p.length (ssC (p.map Prod.fst))
theorem PtAt.blk {B : Nat} {W : World} {v : Value} {p : List Sv} (h : PtAt B W v p) (hp : p ≠ []) : B ≤ blk v ∧ L.blk v < W.heap.size ∧ ∃ cap cur, v = .slice (some ⟨L.blk v, 0, none⟩) p.length cap ∧ p.length ≤ cap ∧ cap ≤ 9223372036854775807 ∧ W.heap[L.blk v]? = some (.cells cur 40 (0, 0)) ∧ cur.size = cap * 7 ∧ cur.toList.take (p.length * 7) = ssC (p.map Prod.fst) := by
  rcases h.2 with ⟨rfl, e⟩ | ⟨g, cap, cur, rfl, h1, h2, h3, h4, h5, h6⟩
  · exact absurd (List.length_eq_zero_iff.1 e) hp
  · exact ⟨h1, (Array.getElem?_eq_some_iff.1 h2).1, cap, cur, rfl, h3, h4, h2, h5, h6⟩
/-- A complex selector's two slices; qs: those of its Parts. -/
structure CvAt (B : Nat) (W : World) (pv cv : Value) (c : Cv) (qs : List Value) : Prop where
  ps : W.ownsRow B 41 1 pv c.1.length qs
  pt : ∀ j (h : j < c.1.length), ∃ q, qs[j]? = some q ∧ PtAt B W q (c.1[j]'h)
  cs : W.ownsRow B 3 1 cv c.2.length (c.2.map (Value.int .i64))
  up : qs.Pairwise fun x y => blk x < blk y
theorem CvAt.stayT {B : Nat} {W W' : World} {pv cv : Value} {c : Cv} {qs : List Value} (h : CvAt B W pv cv c qs) (hs : ∀ T g cur, (T = 40 ∨ T = 41 ∨ T = 3) → W.heap[g]? = some (.cells cur T (0, 0)) → B ≤ g → W'.heap[g]? = W.heap[g]?) : CvAt B W' pv cv c qs :=
  ⟨own_stayT h.ps fun g c => hs 41 g c (.inr (.inl rfl)), fun j hj => (h.pt j hj).imp fun _ ⟨e, q⟩ => ⟨e, own_stayT q fun g c => hs 40 g c (.inl rfl)⟩, own_stayT h.cs fun g c => hs 3 g c (.inr (.inr rfl)), h.up⟩
theorem CvAt.keepT {b B : Nat} {W W' : World} {pv cv : Value} {c : Cv} {qs : List Value} (h : CvAt B W pv cv c qs) (hk : KeepT b W W') (hb : b < B) : CvAt B W' pv cv c qs :=
  h.stayT fun _ g _ hT hg _ => hk.typ g (Array.getElem?_eq_some_iff.1 hg).1 (by omega) (.inr fun c fr e => by rw [hg] at e; cases e; rcases hT with e | e | e <;> cases e)
theorem CvAt.keep {B : Nat} {W W' : World} {pv cv : Value} {c : Cv} {qs : List Value} (h : CvAt B W pv cv c qs) (hk : Below W.heap.size W W') : CvAt B W' pv cv c qs :=
  h.stayT fun _ g _ _ hg _ => hk.block g (Array.getElem?_eq_some_iff.1 hg).1
theorem CvAt.from {B B' : Nat} {W : World} {pv cv : Value} {c : Cv} {qs : List Value} (h : CvAt B W pv cv c qs) (hB : B' ≤ B) : CvAt B' W pv cv c qs :=
  ⟨own_from h.ps hB, fun j hj => (h.pt j hj).imp fun _ ⟨e, q⟩ => ⟨e, own_from q hB⟩, own_from h.cs hB, h.up⟩
/-- A list of these; xs: of each the two slices, and those of its Parts. -/
structure LvAt (B : Nat) (W : World) (v : Value) (l : List Cv) (xs : List (Value × Value × List Value)) : Prop where
  row : W.ownsRow B 38 2 v l.length (xs.flatMap fun x => [x.1, x.2.1])
  len : xs.length = l.length
  cx : ∀ i (h : i < l.length) (h' : i < xs.length), CvAt B W (xs[i]'h').1 (xs[i]'h').2.1 (l[i]'h) (xs[i]'h').2.2
  up : (xs.flatMap fun x => x.2.2).Pairwise fun x y => blk x < blk y
theorem LvAt.stayT {B : Nat} {W W' : World} {v : Value} {l : List Cv} {xs : List (Value × Value × List Value)} (h : LvAt B W v l xs) (hs : ∀ T g cur, (T = 40 ∨ T = 41 ∨ T = 3 ∨ T = 38) → W.heap[g]? = some (.cells cur T (0, 0)) → B ≤ g → W'.heap[g]? = W.heap[g]?) : LvAt B W' v l xs :=
  ⟨own_stayT h.row fun g c => hs 38 g c (.inr (.inr (.inr rfl))), h.len, fun i hi hj => (h.cx i hi hj).stayT fun T g c hT => hs T g c (by rcases hT with e | e | e <;> simp [e]), h.up⟩
theorem LvAt.keepT {b B : Nat} {W W' : World} {v : Value} {l : List Cv} {xs : List (Value × Value × List Value)} (h : LvAt B W v l xs) (hk : KeepT b W W') (hb : b < B) : LvAt B W' v l xs :=
  h.stayT fun _ g _ hT hg _ => hk.typ g (Array.getElem?_eq_some_iff.1 hg).1 (by omega) (.inr fun c fr e => by rw [hg] at e; cases e; rcases hT with e | e | e | e <;> cases e)
theorem LvAt.keep {B : Nat} {W W' : World} {v : Value} {l : List Cv} {xs : List (Value × Value × List Value)} (h : LvAt B W v l xs) (hk : Below W.heap.size W W') : LvAt B W' v l xs :=
  h.stayT fun _ g _ _ hg _ => hk.block g (Array.getElem?_eq_some_iff.1 hg).1
end Go.Proofs.YtdibldcnklgcjaaGreatDoor.L
namespace Go.Proofs.YtdibldcnklgcjaaGreatDoor.L
open Go.RowKit
set_option maxRecDepth 100000

def OthSub (vs : List V) (r : Option (List Sv × Nat)) : Prop := ∀ l n, r = some (l, n) → List.Sublist (kidsOf l ++ (vs.drop n).map V.kids) (vs.map V.kids)
theorem drop_sub (vs : List V) (n : Nat) : List.Sublist ((vs.drop n).map V.kids) (vs.map V.kids) := (List.drop_sublist n vs).map _
theorem bare_sub {vs : List V} {r : Option (List S6 × Nat)} (h : WayOk vs r) : OthSub vs (bare r) := by
  intro l n e
  cases r with
  | none => cases e
  | some x =>
    obtain ⟨l', n'⟩ := x
    obtain ⟨_, _, _, _, h5⟩ := h l' n' rfl
    cases e
    rw [kidsOf_bare l' h5, List.nil_append]
    exact drop_sub vs _
theorem choice_sub (vs : List V) : OthSub vs (choiceR vs) := by
  intro l n e
  unfold choiceR at e
  split at e
  · rename_i u hu
    split at e
    · rename_i hc
      cases e
      match vs, hu with
      | a :: u' :: r, hu =>
        cases hu
        have : kidsOf [((⟨fnR (a :: u :: r), ⟨#[]⟩, 0, ⟨#[]⟩, 0, 0⟩ : S6), u.kids)] = [u.kids] := by simp [kidsOf, hc]
        rw [this]
        simp
    · cases e
  · cases e
theorem orR_sub {vs : List V} {a b : Option (List Sv × Nat)} (ha : OthSub vs a) (hb : OthSub vs b) : OthSub vs (orR a b) := by
  unfold orR
  split
  · exact ha
  · exact hb
theorem otherR_sub (vs : List V) : OthSub vs (otherR vs) :=
  orR_sub (bare_sub (idR_ok vs)) (orR_sub (bare_sub (classR_ok vs)) (orR_sub (bare_sub (attrR_ok vs)) (orR_sub (bare_sub (stateR_ok vs)) (orR_sub (bare_sub (placeR_ok vs)) (choice_sub vs)))))
theorem othZ_sub : ∀ (m : Nat) (vs : List V), vs.length ≤ m → List.Sublist (kidsOf (othZ vs).1 ++ (othZ vs).2.map V.kids) (vs.map V.kids)
  | m, vs, hm => by
    cases ho : otherR vs with
    | none =>
      rw [othZ_none ho]
      exact List.Sublist.refl _
    | some x =>
      obtain ⟨l, n⟩ := x
      obtain ⟨_, _, h1, h2, _⟩ := otherR_ok vs l n ho
      have hl : (vs.drop n).length = vs.length - n := List.length_drop
      cases m with
      | zero => omega
      | succ m =>
        have ih := othZ_sub m (vs.drop n) (by omega)
        rw [othZ_some ho]
        simp only []
        rw [kidsOf_append, List.append_assoc]
        exact ((List.Sublist.refl _).append ih).trans (otherR_sub vs l n ho)
theorem compR_sub (vs : List V) : List.Sublist (kidsOf (compR vs).1 ++ (compR vs).2.map V.kids) (vs.map V.kids) := by
  unfold compR
  split
  · exact othZ_sub _ vs (Nat.le_refl _)
  · rename_i l n h
    simp only []
    rw [kidsOf_append, List.append_assoc]
    exact ((List.Sublist.refl _).append (othZ_sub _ (vs.drop n) (Nat.le_refl _))).trans (bare_sub (tagR_ok vs) l n h)
theorem spc_sub (vs : List V) : List.Sublist ((spc vs).map V.kids) (vs.map V.kids) := (List.dropWhile_suffix _).sublist.map _
theorem combR_sub (vs : List V) : List.Sublist ((combR vs).2.map V.kids) (vs.map V.kids) := by
  unfold combR
  split
  · exact (spc_sub _).trans ((drop_sub _ 1).trans (spc_sub vs))
  · exact spc_sub vs
/-- The values of a complex selector's Lists; of a list's. -/
def kidsC (c : Cv) : List (List V) := c.1.flatMap kidsOf
def kidsL (l : List Cv) : List (List V) := l.flatMap kidsC
theorem cxZ_sub : ∀ (m : Nat) (vs : List V), vs.length ≤ m → ∀ c r, cxZ vs = some (c, r) → List.Sublist (kidsC c ++ r.map V.kids) (vs.map V.kids)
  | m, vs, hm, c, r, h => by
    have hs := compR_sub vs
    have hc := compR_ok vs
    rw [cxZ_step] at h
    unfold cxStep at h
    split at h
    · cases h
    · rename_i p ps q hcr
      rw [hcr] at hs hc
      have h1 := hc.2.1 (by simp)
      have k1 := (combR_ok q).1
      simp only [] at h1 hs
      split at h
      · cases h
        rw [show kidsC ([p :: ps], []) = kidsOf (p :: ps) by simp [kidsC]]
        exact ((List.Sublist.refl _).append (combR_sub q)).trans hs
      · cases hx : cxZ (combR q).2 with
        | none => rw [hx] at h; cases h
        | some x =>
          obtain ⟨⟨qs, js⟩, r'⟩ := x
          rw [hx] at h
          cases h
          cases m with
          | zero => omega
          | succ m =>
            have ih := cxZ_sub m (combR q).2 (by omega) _ _ hx
            rw [show kidsC ((p :: ps) :: qs, (combR q).1 :: js) = kidsOf (p :: ps) ++ kidsC (qs, js) by simp [kidsC], List.append_assoc]
            exact ((List.Sublist.refl _).append (ih.trans (combR_sub q))).trans hs
theorem lsZ_sub : ∀ (m : Nat) (vs : List V), vs.length ≤ m → ∀ l, lsZ vs = some l → List.Sublist (kidsL l) (vs.map V.kids)
  | m, vs, hm, l, h => by
    rw [lsZ_step] at h
    unfold lsStep at h
    cases hc : cxZ (spc vs) with
    | none => rw [hc] at h; cases h
    | some x =>
      obtain ⟨c, r⟩ := x
      rw [hc] at h
      obtain ⟨h1, _, _⟩ := cxZ_ok _ _ (Nat.le_refl _) _ _ hc
      have k1 := (spc_ok vs).1
      have hs := (cxZ_sub _ _ (Nat.le_refl _) _ _ hc).trans (spc_sub vs)
      simp only [] at h
      split at h
      · cases h
        rw [show kidsL [c] = kidsC c by simp [kidsL]]
        exact (List.sublist_append_left _ _).trans hs
      · split at h
        · cases hx : lsZ (r.drop 1) with
          | none => rw [hx] at h; cases h
          | some l' =>
            rw [hx] at h
            cases h
            cases m with
            | zero => omega
            | succ m =>
              have ih := lsZ_sub m (r.drop 1) (by rw [List.length_drop]; omega) _ hx
              rw [show kidsL (c :: l') = kidsC c ++ kidsL l' by simp [kidsL]]
              exact ((List.Sublist.refl _).append (ih.trans (drop_sub r 1))).trans hs
        · cases h
/-- The reader's memory stays where a row elsewhere grows. -/
theorem Rk.grow {W0 w1 w2 : World} {lo b : Nat} {ks : List (List V)} {vs : List V} {row : Option Nat} (h : Rk lo W0 b ks vs w1) (hg : w1.grownBy w2 row) (hb : b < W0.heap.size) (hr : ∀ g, row = some g → W0.heap.size ≤ g ∧ ∀ c fr, w1.heap[g]? ≠ some (.cells c 44 fr)) : Rk lo W0 b ks vs w2 := by
  obtain ⟨kids, cs, ⟨⟨rest, h1, h2⟩, _⟩, h3, h4⟩ := h.rd
  have hlow : ∀ j, j < W0.heap.size → w2.heap[j]? = w1.heap[j]? := fun j hj => hg.block j (Nat.lt_of_lt_of_le hj h.keep.size) fun e => by
    have := (hr j e.symm).1
    omega
  have hst : ∀ {v l}, VsAt (· < min lo b) w1 v l → VsAt (· < min lo b) w2 v l := fun q => q.stay hg.size fun j hj _ => hlow j (by omega)
  refine ⟨⟨kids, cs, ⟨⟨rest, (hlow b hb).trans h1, hst h2⟩, KeepX.of (Below.refl _ _)⟩, ?_, fun i hi => (h4 i hi).imp fun v q => ⟨q.1, hst q.2⟩⟩, ⟨hg.os.trans h.keep.os, hg.tape.trans h.keep.tape, hg.output.trans h.keep.output, Nat.le_trans h.keep.size hg.size, fun j hj hn hc => (hlow j hj).trans (h.keep.typ j hj hn hc)⟩⟩
  exact own_stayT h3 fun g c hgc _ => hg.block g (Array.getElem?_eq_some_iff.1 hgc).1 fun e => (hr g e.symm).2 _ _ hgc
theorem own_ty {w : World} {B n s : Nat} {T : TypeId} {v : Value} {xs : List Value} (h : w.ownsRow B T s v n xs) (hT : T ≠ 44) : ∀ g, v.ownBlock = some g → B ≤ g ∧ ∀ c fr, w.heap[g]? ≠ some (.cells c 44 fr) := fun g e => by
  rcases h.2 with ⟨rfl, _⟩ | ⟨g', cap, cur, rfl, h1, h2, _⟩
  · cases e
  · cases e
    refine ⟨h1, fun c fr q => ?_⟩
    rw [show w.heap[g']? = _ from h2] at q
    cases q
    exact hT rfl
theorem own_news {W : World} {B : Nat} {T : TypeId} {s n c : Nat} {ad : Addr} {xs : List Value} (h : W.ownsRow B T s (.slice (some ad) n c) n xs) : ∀ j u, xs[j]? = some u → W.cell? (ad.add j) = some u := fun j u hu => by
  rcases h.2 with ⟨e, _⟩ | ⟨g, cap, cur, e, h1, h2, h3, h4, h5, h6⟩
  · cases e
  · cases e
    have hlt : j < n * s := by
      have := (List.getElem?_eq_some_iff.1 hu).1
      have := h.1
      omega
    rw [← h6, List.getElem?_take_of_lt hlt] at hu
    rw [Addr.add_mid, Nat.zero_add]
    simp only [World.cell?, h2]
    simpa using hu
theorem fsts_append (a b : List Sv) : ssC ((a ++ b).map Prod.fst) = ssC (a.map Prod.fst) ++ ssC (b.map Prod.fst) := by simp [ssC]
end Go.Proofs.YtdibldcnklgcjaaGreatDoor.L
