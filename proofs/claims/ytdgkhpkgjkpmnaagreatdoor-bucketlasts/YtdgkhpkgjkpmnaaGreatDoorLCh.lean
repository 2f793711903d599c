/- The reader of selectors: an attribute, a place, a choice. The reader of selectors: a place. The reader of selectors: a choice. -/
import Derived.Test.YtdgkhpkgjkpmnaaGreatDoorLSq
import Derived.Deep.RegionLaw
import Derived.Deep.AppendLies
namespace Go.Proofs.YtdgkhpkgjkpmnaaGreatDoor.L
open Go.RowKit
set_option maxRecDepth 100000

theorem alloc_size (W : World) (cs : Array Value) (T : TypeId) : (W.alloc (.cells cs T)).heap.size = W.heap.size + 1 := by simp
set_option maxHeartbeats 1000000 in
theorem attr_any {W : World} {lo b : Nat} {kids : Value} {vs : List V} (h : Rd lo W b kids vs W) (hsg : Signs W) (hf : Fit vs) :
    Calls Tryz.prog 95 #[.pointer (some ⟨b, 0, none⟩)] W (Way lo W b kids vs (attrR vs)) := by
  have ha := ahead_any h 0 19
  cases vs with
  | nil =>
    rw [show ahd [] 0 19 = false from rfl] at ha
    clear h hsg hf
    go_enter Tryz.func95, Tryz.ntmps95
    go_wp2_with (go_at_call 35; fail)
    refine ha.mono ?_
    rintro e w1 ⟨rfl, rfl⟩
    clear ha
    go_wp2
    go_ret
    exact ⟨rfl, Below.refl _ _⟩
  | cons v r =>
  rw [ahd_cons] at ha
  cases hk : (v.tok.k == 19) with
  | false =>
    have HE : Hid (attrR (v :: r) = none) := by rw [Hid, attrR, if_neg (by rw [hk]; decide)]
    rw [HE.out]
    rw [hk] at ha
    clear h hsg hf HE hk
    go_enter Tryz.func95, Tryz.ntmps95
    go_wp2_with (go_at_call 35; fail)
    refine ha.mono ?_
    rintro e w1 ⟨rfl, rfl⟩
    clear ha
    go_wp2
    go_ret
    exact ⟨rfl, Below.refl _ _⟩
  | true =>
  have HE : Hid (attrR (v :: r) = match inSqR v.kids with | some s => some ([s], 1) | none => none) := by rw [Hid, attrR, if_pos hk]; rfl
  obtain ⟨a, n, cap, hn, hc1, hc2, h1, _, hs⟩ := h.see
  have c0 : W.cell? ⟨b, 0, none⟩ = some (.slice a n cap) := cellAt h1 0
  obtain ⟨hl, g, off, kv, rfl, q0, q1, q4, q5, hkv⟩ := hs 0 v rfl
  rw [Nat.zero_mul, Nat.add_zero] at q0 q1 q4 q5
  have hsq := inSq_any hkv hsg (hf.kids v (by simp))
  obtain ⟨a', cap', rfl, _, _⟩ := hkv.slice
  have HT : Hid (∀ l w3, Below W.heap.size W w3 → l.length ≤ 10 → Calls Tryz.prog 92 #[.pointer (some ⟨b, 0, none⟩), .int .i64 1, .slice (some ⟨w3.heap.size, 0, none⟩) l.length l.length] (w3.alloc (.cells (ssC l).toArray 34)) (Way lo W b kids (v :: r) (some (l, 1)))) := fun l w3 hB hl => told_lit h l 1 (by simp) hl w3 hB
  rw [HE.out]
  rw [hk] at ha
  generalize inSqR v.kids = R at *
  clear h h1 hs hn hk q0 q1 q4 hkv hf hsg HE
  go_enter Tryz.func95, Tryz.ntmps95
  go_wp2_with (go_at_call 35; fail)
  refine ha.mono ?_
  rintro e w1 ⟨rfl, rfl⟩
  clear ha
  go_wp2_with (go_at_call 100; fail)
  refine hsq.mono ?_
  rintro e w2 ⟨⟨s0, rfl, hag⟩, hB2⟩
  have hB3 : Below w1.heap.size w1 (w2.alloc (.cells (sC s0).toArray 34)) := hB2.alloc hB2.size _
  unfold sC s7 at hB3
  simp only [List.toArray] at hB3 ⊢
  unfold sC s7
  cases R with
  | none =>
    have HB3 := hid_mk hB3
    obtain ⟨s1, s2, s3, s4, s5, s6⟩ := s0
    clear hsq HT hag q5 c0 hB2 hB3
    simp only [Option.isSome_none]
    dsimp only at HB3
    go_wp2
    go_ret
    exact ⟨rfl, HB3.out⟩
  | some s =>
    have hag := hag s rfl
    subst hag
    have htl := HT.out [s0] _ hB3 (by simp)
    rw [alloc_size] at htl
    clear hsq HT hB2 hB3 q5 c0
    obtain ⟨s1, s2, s3, s4, s5, s6⟩ := s0
    unfold ssC sC s7 at htl
    simp only [List.flatMap_cons, List.flatMap_nil, List.append_nil] at htl
    simp only [Option.isSome_some]
    go_wp2_with (go_at_call 92; fail)
    refine htl.mono ?_
    rintro e w3 ⟨v', rfl, ho, hr⟩
    have HZ : Hid (Way lo w1 b kids (v :: r) (some ([⟨s1, s2, s3, s4, s5, s6⟩], 1)) (.returned v') w3) := ⟨v', rfl, ho, hr⟩
    clear htl ho hr
    go_wp2
    go_ret
    exact HZ.out

end Go.Proofs.YtdgkhpkgjkpmnaaGreatDoor.L
namespace Go.Proofs.YtdgkhpkgjkpmnaaGreatDoor.L
open Go.RowKit
set_option maxRecDepth 100000

def kidTk (t : N.Tk) : N.Tk := ⟨t.k, t.tx, t.un, t.wh, t.fl, .slice none 0 0⟩
theorem gathered_kid : ∀ ts : List N.Tk, N.gathered (ts.map kidTk) = N.gathered ts
  | [] => rfl
  | t :: r => by
    rw [List.map_cons, N.gathered, N.gathered, gathered_kid r]
    rfl
theorem VsAt.vals {P : Nat → Prop} {W : World} {v : Value} {vs : List V} (h : VsAt P W v vs) : ∃ ts, N.ValsAt W v ts ∧ N.gathered ts = N.gathered (vs.map toTk) ∧ ts.length = vs.length ∧ ∀ t ∈ ts, ∃ u ∈ vs, t.tx = u.tok.tx ∧ t.un = u.tok.un := by
  cases h with
  | mk a cap vs b off kv h1 h2 ha hc hr =>
    have hl : (vs.mapIdx fun i v => (⟨v.tok.k, v.tok.tx, v.tok.un, v.tok.wh, v.tok.fl, kv i⟩ : N.Tk)).length = vs.length := by simp
    refine ⟨vs.mapIdx fun i v => ⟨v.tok.k, v.tok.tx, v.tok.un, v.tok.wh, v.tok.fl, kv i⟩, ⟨a, cap, by rw [hl], by rw [hl]; exact h1, h2, fun t ht => ?_, fun h0 => ?_⟩, ?_, hl, fun t ht => ?_⟩
    · obtain ⟨i, hi, rfl⟩ := List.mem_mapIdx.1 ht
      obtain ⟨a', c', e, _, _⟩ := (hr i hi).slice
      simp only []
      rw [e]
      exact ⟨a', _, c', rfl⟩
    · rw [hl] at h0
      obtain ⟨e, hb, _⟩ := ha h0
      refine ⟨b, off, e, hb, fun i hi j y hy => ?_⟩
      rw [hl] at hi
      refine hc i hi j y ?_
      rw [← hy]
      simp [N.tkCells, vCells]
    · rw [← gathered_kid]
      congr 1
      refine List.ext_getElem (by simp) fun i h1 h2 => ?_
      simp [kidTk, toTk]
    · obtain ⟨i, hi, rfl⟩ := List.mem_mapIdx.1 ht
      exact ⟨_, List.getElem_mem hi, rfl, rfl⟩
theorem fnR_at {vs : List V} (h : fnR vs ≠ 0) : ∃ u, vs[1]? = some u ∧ 2 ≤ vs.length := by
  unfold fnR at h
  cases hu : vs[1]? with
  | none => rw [hu] at h; exact absurd rfl h
  | some u => exact ⟨u, rfl, (List.getElem?_eq_some_iff.1 hu).1⟩

set_option maxHeartbeats 1000000 in
theorem place_any {W : World} {lo b : Nat} {kids : Value} {vs : List V} (h : Rd lo W b kids vs W) (hsg : Signs W) (hf : Fit vs) :
    Calls Tryz.prog 97 #[.pointer (some ⟨b, 0, none⟩)] W (Way lo W b kids vs (placeR vs)) := by
  have hfn := function_any h hsg hf.tx'
  cases hp : plcB (fnR vs) with
  | false =>
    have HE : Hid (placeR vs = none) := by
      rw [Hid]
      unfold placeR
      cases vs[1]? with
      | none => rfl
      | some u => simp only [hp, Bool.false_and]; rfl
    rw [HE.out]
    generalize fnR vs = z at *
    have n1 : (z != 8) = true := by
      rw [bne_iff_ne]
      rintro rfl
      cases hp
    have n2 : (z != 9) = true := by
      rw [bne_iff_ne]
      rintro rfl
      cases hp
    clear h hsg hf HE hp
    go_enter Tryz.func97, Tryz.ntmps97
    go_wp2_with (go_at_call 101; fail)
    refine hfn.mono ?_
    rintro e w1 ⟨rfl, hB1⟩
    have HB := hid_mk hB1
    clear hfn hB1
    go_wp2
    go_ret
    exact ⟨rfl, HB.out⟩
  | true =>
  have hz : fnR vs = 8 ∨ fnR vs = 9 := by simpa [plcB] using hp
  obtain ⟨u, hu, hlen⟩ := fnR_at (vs := vs) (by rcases hz with e | e <;> rw [e] <;> decide)
  have HE0 : Hid (placeR vs = if (nthR u.kids).2.2 = true then some ([⟨fnR vs, ⟨#[]⟩, 0, ⟨#[]⟩, (nthR u.kids).1, (nthR u.kids).2.1⟩], 2) else none) := by
    rw [Hid]
    unfold placeR
    rw [hu]
    simp only [hp, Bool.true_and]
  have hfu := hf.kids u (List.mem_of_getElem? hu)
  have HT : Hid (∀ l w3, Below W.heap.size W w3 → l.length ≤ 10 → Calls Tryz.prog 92 #[.pointer (some ⟨b, 0, none⟩), .int .i64 2, .slice (some ⟨w3.heap.size, 0, none⟩) l.length l.length] (w3.alloc (.cells (ssC l).toArray 34)) (Way lo W b kids vs (some (l, 2)))) := fun l w3 hB hl => told_lit h l 2 hlen hl w3 hB
  have HR := hid_mk h
  have HNT : Hid (∀ w (kv : Value), VsAt (· < min lo b) w kv u.kids → Calls Tryz.prog 102 #[kv] w fun e w' => e = .returned (.tuple #[.int .i64 (nthR u.kids).1, .int .i64 (nthR u.kids).2.1, .bool (nthR u.kids).2.2]) ∧ Below w.heap.size w w') := fun w kv hkv => by
    obtain ⟨ts, h1, h2, h3, h4⟩ := VsAt.vals hkv
    have hq := N.parse_any w kv ts h1 (by rw [h3]; exact hfu.len) (fun t ht => by
      obtain ⟨x, hx, e1, e2⟩ := h4 t ht
      rw [e1, e2]
      exact hfu.tx x hx)
    unfold nthR
    rw [← h2]
    exact hq
  generalize nthR u.kids = q at *
  generalize placeR vs = R at *
  generalize fnR vs = z at *
  clear h hsg hf hp hfu
  go_enter Tryz.func97, Tryz.ntmps97
  go_wp2_with (go_at_call 101; fail)
  refine hfn.mono ?_
  rintro e w1 ⟨rfl, hB1⟩
  obtain ⟨a, n, cap, hn, hc1, hc2, h1, _, hs⟩ := (HR.out.then hB1).see
  have c0 : w1.cell? ⟨b, 0, none⟩ = some (.slice a n cap) := cellAt h1 0
  obtain ⟨hl, g, off, kv, rfl, q0, q1, q4, q5, hkv⟩ := hs 1 u hu
  rw [Nat.one_mul] at q0 q1 q4 q5
  have hnt := HNT.out w1 kv hkv
  obtain ⟨a', cap', rfl, _, _⟩ := hkv.slice
  have HB := hid_mk hB1
  clear hfn hB1 HR HNT h1 hs hn q0 q1 q4 hkv hu
  have hzz : (z != 8) = false ∨ ((z != 8) = true ∧ (z != 9) = false) := by
    rcases hz with e | e
    · exact .inl (by rw [e]; rfl)
    · exact .inr ⟨by rw [e]; rfl, by rw [e]; rfl⟩
  clear hz
  rcases hzz with n1 | ⟨n1, n2⟩
  all_goals
    go_wp2_with (go_at_call 102; fail)
    refine hnt.mono ?_
    rintro e w2 ⟨rfl, hB2⟩
    have HB2 : Hid (Below W.heap.size W w2) := HB.out.trans (hB2.mono HB.out.size)
    clear hnt hB2 HB q5 c0
    obtain ⟨qa, qb, qc⟩ := q
    cases qc with
    | false =>
      have HE : Hid (R = none) := by rw [Hid, HE0.out, if_neg (by simp)]
      clear HT HE0
      simp only []
      go_wp2
      go_ret
      rw [HE.out]
      exact ⟨rfl, HB2.out⟩
    | true =>
      simp only []
      have HE : Hid (R = some ([⟨z, ⟨#[]⟩, 0, ⟨#[]⟩, qa, qb⟩], 2)) := by rw [Hid, HE0.out, if_pos rfl]
      clear HE0
      have htl := HT.out [⟨z, ⟨#[]⟩, 0, ⟨#[]⟩, qa, qb⟩] w2 HB2.out (by simp)
      clear HT
      rw [show (ssC [⟨z, ⟨#[]⟩, 0, ⟨#[]⟩, qa, qb⟩]).toArray = #[.int .i64 z, .string ⟨#[]⟩, .int .i64 0, .string ⟨#[]⟩, .int .i64 qa, .int .i64 qb, .slice none 0 0] from rfl] at htl
      go_wp2_with (go_at_call 92; fail)
      refine htl.mono ?_
      rintro e w3 ⟨v', rfl, ho, hr⟩
      have HZ := hid_mk (show Way lo W b kids vs (some ([⟨z, ⟨#[]⟩, 0, ⟨#[]⟩, qa, qb⟩], 2)) (.returned v') w3 from ⟨v', rfl, ho, hr⟩)
      clear htl ho hr
      go_wp2
      go_ret
      rw [HE.out]
      exact HZ.out
end Go.Proofs.YtdgkhpkgjkpmnaaGreatDoor.L
namespace Go.Proofs.YtdgkhpkgjkpmnaaGreatDoor.L
open Go.RowKit
set_option maxRecDepth 100000

theorem listed_any (W : World) (k : Int) : Calls Tryz.prog 38 #[.int .i64 k] W fun e w' => e = .returned (.bool (lstB k)) ∧ w' = W := by
  have HE : Hid (lstB k = (k == 5 || k == 6 || k == 7)) := rfl
  generalize lstB k = r at *
  cases h5 : (k == 5)
  · cases h6 : (k == 6)
    · have HR : Hid (r = (k == 7)) := by rw [Hid, HE.out, h5, h6]; rfl
      clear HE
      go_enter Tryz.func38, Tryz.ntmps38
      go_wp2
      go_ret
      exact ⟨by rw [HR.out]; rfl, rfl⟩
    · have HR : Hid (r = true) := by rw [Hid, HE.out, h5, h6]; rfl
      clear HE
      go_enter Tryz.func38, Tryz.ntmps38
      go_wp2
      go_ret
      exact ⟨by rw [HR.out]; rfl, rfl⟩
  · have HR : Hid (r = true) := by rw [Hid, HE.out, h5]; rfl
    clear HE
    go_enter Tryz.func38, Tryz.ntmps38
    go_wp2
    go_ret
    exact ⟨by rw [HR.out]; rfl, rfl⟩
/-- What a way of reading answers, with the values of Lists. -/
def Oth (lo : Nat) (W : World) (b : Nat) (ks : List (List V)) (vs : List V) (r : Option (List Sv × Nat)) (e : Ending) (w' : World) : Prop := match r with
  | none => e = .returned (.slice none 0 0) ∧ Rk lo W b ks vs w'
  | some (l, n) => ∃ v, e = .returned v ∧ w'.ownsRow W.heap.size 34 7 v l.length (ssC (l.map Prod.fst)) ∧ Rk lo W b (ks ++ kidsOf l) (vs.drop n) w'
theorem info31 : ∃ i z, Tryz.prog.info? 43 = some i ∧ i.zero = some z ∧ i.size = 1 ∧ i.bytes = 24 ∧ z.cells.size = 1 := ⟨_, _, by rfl, by rfl, by rfl, by rfl, by rfl⟩
theorem cells2 {W : World} {b : Nat} {x0 x1 : Value} {T : TypeId} (h : W.heap[b]? = some (.cells #[x0, x1] T (0, 0))) : W.cell? ⟨b, 0, none⟩ = some x0 ∧ W.cell? ⟨b, 1, none⟩ = some x1 ∧ W.frozen? ⟨b, 0, none⟩ = false ∧ W.frozen? ⟨b, 1, none⟩ = false :=
  ⟨cellAt h 0, cellAt h 1, by simp [World.frozen?, h], by simp [World.frozen?, h]⟩
/-- A slice of values more is kept. -/
theorem Rk.more {W w1 w2 : World} {lo b : Nat} {ks : List (List V)} {vs : List V} {rest kids kids' kv : Value} {cs : List Value} {us : List V} (hb : W.heap[b]? = some (.cells #[rest, kids] 59 (0, 0))) (hv : VsAt (· < min lo b) W rest vs) (ho : W.ownsRow (b + 1) 43 1 kids ks.length cs)
    (hks : ∀ i (h : i < ks.length), ∃ v, cs[i]? = some v ∧ VsAt (· < min lo b) W v (ks[i]'h)) (hkv : VsAt (· < min lo b) W kv us) (ha : Below W.heap.size W w1) (hg : w1.grownBy w2 kids.ownBlock) (ho2 : w2.ownsRow (b + 1) 43 1 kids' (ks.length + 1) (cs ++ [kv])) :
    Rk lo W b (ks ++ [us]) vs (w2.setCell ⟨b, 1, none⟩ kids') ∧ w2.heap[b]? = some (.cells #[rest, kids] 59 (0, 0)) := by
  have hbl : b < W.heap.size := (Array.getElem?_eq_some_iff.1 hb).1
  have hown : ∀ j, kids.ownBlock = some j → b < j ∧ ∃ c, W.heap[j]? = some (.cells c 43 (0, 0)) := fun j hj => by
    rcases ho.2 with ⟨rfl, _⟩ | ⟨g, cap, cur, rfl, h1, h2, _⟩
    · cases hj
    · cases hj
      exact ⟨h1, cur, h2⟩
  have hk : ∀ j, j < W.heap.size → (j ≤ b ∨ ∀ c fr, W.heap[j]? ≠ some (.cells c 43 fr)) → w2.heap[j]? = W.heap[j]? := fun j hj hc => by
    rw [hg.block j (Nat.lt_of_lt_of_le hj ha.size) (fun e => ?_), ha.block j hj]
    obtain ⟨h1, c, h2⟩ := hown j e.symm
    rcases hc with hc | hc
    · omega
    · exact hc _ _ h2
  have hb2 : w2.heap[b]? = some (.cells #[rest, kids] 59 (0, 0)) := (hk b hbl (.inl (Nat.le_refl _))).trans hb
  have hsz : W.heap.size ≤ w2.heap.size := Nat.le_trans ha.size hg.size
  have hlow : ∀ j, j < b → (w2.setCell ⟨b, 1, none⟩ kids').heap[j]? = W.heap[j]? := fun j hj => (heap_ne (by omega)).trans (hk j (by omega) (.inl (by omega)))
  have hst : ∀ {v l}, VsAt (· < min lo b) W v l → VsAt (· < min lo b) (w2.setCell ⟨b, 1, none⟩ kids') v l := fun h => h.stay (by simpa using hsz) fun j hj _ => hlow j (by omega)
  refine ⟨⟨⟨kids', cs ++ [kv], ⟨⟨rest, by rw [set_at 1 _ _ hb2]; rfl, hst hv⟩, KeepX.of (Below.refl _ _)⟩, ?_, fun i hi => ?_⟩, ⟨hg.os.trans ha.os, hg.tape.trans ha.tape, hg.output.trans ha.output, by simpa using hsz, fun j hj hn hc => (heap_ne hn).trans (hk j hj (hc.imp Nat.le_of_lt id))⟩⟩, hb2⟩
  · rw [List.length_append]
    exact own_stay ho2 fun g _ hB _ => heap_ne (by omega)
  · have hl : cs.length = ks.length := by have := ho.1; omega
    by_cases hik : i < ks.length
    · obtain ⟨v, e, hv'⟩ := hks i hik
      refine ⟨v, by rw [List.getElem?_append_left (by omega)]; exact e, ?_⟩
      rw [List.getElem_append_left hik]
      exact hst hv'
    · have hie : i = ks.length := by simp at hi; omega
      subst hie
      refine ⟨kv, by rw [List.getElem?_append_right (by omega), hl]; simp, ?_⟩
      rw [List.getElem_append_right (Nat.le_refl _)]
      simpa using hst hkv

set_option maxHeartbeats 1000000 in
theorem choice_any {W : World} {lo b : Nat} {ks : List (List V)} {vs : List V} (h : Rk lo W b ks vs W) (hsg : Signs W) (hf : Fit vs) (hkn : ks.length ≤ 1000000) :
    Calls Tryz.prog 98 #[.pointer (some ⟨b, 0, none⟩)] W (Oth lo W b ks vs (choiceR vs)) := by
  obtain ⟨kids0, hrd0, _⟩ := h.open
  have hfn := function_any hrd0 hsg hf.tx'
  cases hp : lstB (fnR vs) with
  | false =>
    have HE : Hid (choiceR vs = none) := by
      rw [Hid]
      unfold choiceR
      cases vs[1]? with
      | none => rfl
      | some u => simp only [hp]; rfl
    have hli := fun w => listed_any w (fnR vs)
    rw [HE.out]
    rw [hp] at hli
    generalize fnR vs = z at *
    have HK := hid_mk h
    clear h hsg hf HE hp hrd0
    go_enter Tryz.func98, Tryz.ntmps98
    go_wp2_with (go_at_call 101; fail)
    refine hfn.mono ?_
    rintro e w1 ⟨rfl, hB1⟩
    have HB := hid_mk hB1
    clear hfn hB1
    go_wp2_with (go_at_call 38; fail)
    refine (hli w1).mono ?_
    rintro e w2 ⟨rfl, rfl⟩
    clear hli
    go_wp2
    go_ret
    exact ⟨rfl, HK.out.then HB.out⟩
  | true =>
  obtain ⟨u, hu, hlen⟩ := fnR_at (vs := vs) (by intro e; rw [e] at hp; cases hp)
  have HE : Hid (choiceR vs = some ([(⟨fnR vs, ⟨#[]⟩, 0, ⟨#[]⟩, 0, 0⟩, u.kids)], 2)) := by
    rw [Hid]
    unfold choiceR
    rw [hu]
    simp only [hp, if_true]
  have HKO : Hid (kidsOf [((⟨fnR vs, ⟨#[]⟩, 0, ⟨#[]⟩, 0, 0⟩ : S6), u.kids)] = [u.kids]) := by
    rw [Hid]
    simp [kidsOf, hp]
  have hli := fun w => listed_any w (fnR vs)
  rw [hp] at hli
  generalize choiceR vs = R at *
  generalize fnR vs = z at *
  obtain ⟨i0, z0, hi0, hz0, hz1, hz2, hz3⟩ := info31
  have HK := hid_mk h
  clear h hsg hf hp hrd0
  go_enter Tryz.func98, Tryz.ntmps98
  go_wp2_with (go_at_call 101; fail)
  refine hfn.mono ?_
  rintro e w1 ⟨rfl, hB1⟩
  have HK1 := hid_mk (HK.out.then hB1)
  clear hfn hB1 HK
  go_wp2_with (go_at_call 38; fail)
  refine (hli w1).mono ?_
  rintro e w2 ⟨rfl, rfl⟩
  clear hli
  obtain ⟨kids, cs, hrd, hown, hks⟩ := HK1.out.rd
  obtain ⟨a, n, cap, hn, hc1, hc2, h1, hvs, hs⟩ := hrd.see
  have hbl : b < w2.heap.size := hrd.lt
  obtain ⟨hl, g, off, kv, rfl, q0, q1, q4, q5, hkv⟩ := hs 1 u hu
  rw [Nat.one_mul] at q0 q1 q4 q5
  obtain ⟨c0, c1, f0, f1⟩ := cells2 h1
  obtain ⟨a', cap', rfl, _, _⟩ := hkv.slice
  have hsl : ∃ ka kn kc, kids = .slice ka kn kc := by
    rcases hown.2 with ⟨rfl, _⟩ | ⟨g, cap, cur, rfl, _⟩
    · exact ⟨_, _, _, rfl⟩
    · exact ⟨_, _, _, rfl⟩
  have HM : Hid (∀ x w3 kids', (w2.alloc (.cells #[x] 43)).drew.grownBy w3 kids.ownBlock → x = .slice a' u.kids.length cap' → w3.ownsRow (b + 1) 43 1 kids' (ks.length + 1) (cs ++ [x]) → Rk lo w2 b (ks ++ [u.kids]) vs (w3.setCell ⟨b, 1, none⟩ kids') ∧ w3.heap[b]? = some (.cells #[.slice (some ⟨g, off, none⟩) n cap, kids] 59 (0, 0))) := fun x w3 kids' hg e ho2 => by
    subst e
    exact Rk.more h1 hvs hown hks hkv (((Below.refl _ _).alloc (Nat.le_refl _) _).drew) hg ho2
  have hH : w2.heap[w2.heap.size]? = none := Array.getElem?_eq_none (Nat.le_refl _)
  have hkne : kids.ownBlock ≠ some b := fun e => by
    have := (hown.lt b e).1
    omega
  have HOW := hid_mk hown
  obtain ⟨ka, kn, kc, rfl⟩ := hsl
  clear hks hvs hs hrd hn h1 q0 q1 q4 hkv hu
  have hl1 : (1 : Int) < (n : Int) := by omega
  go_upto_region 4 with (fail)
  go_region_law
    ((refine step_append_lies _ (by rfl) _ _ _ (by rfl) (b + 1) 43 i0 z0 1 24 Tryz.underlying57 hi0 hz0 hz1 hz2 hz3 (by omega) (.slice ka kn kc) ks.length cs (by rfl) ((hown.alloc _).drew)
        ⟨w2.heap.size, 0, none⟩ 1 1 [.slice a' u.kids.length cap'] (by rfl) (by rfl) (World.news_of_block (cs := #[.slice a' u.kids.length cap']) (t := 43) (fr := (0, 0)) (heap_alloc_last w2 _)) (by simp [Value.oneCell'])
        (by omega) (by unfold maxLen; omega) (by omega) (by simp; omega) (w2.heap.size + 1) (by simp) ?_
      intro gg cap5 w5 hown5 hgrow hgat hglt
      obtain ⟨hR5, hb5⟩ := HM.out _ w5 _ hgrow rfl hown5
      obtain ⟨d0, d1, e0, e1⟩ := cells2 hb5
      have HR5 := hid_mk hR5
      clear hown5 hgrow hgat hglt hb5 hR5))
  all_goals
    obtain ⟨W6, hW6⟩ : ∃ W6, W6 = w5.setCell ⟨b, 1, none⟩ (.slice (some ⟨gg, 0, none⟩) (ks.length + 1) cap5) := ⟨_, rfl⟩
    rw [← hW6] at HR5 ⊢
    obtain ⟨kids6, hrd6, hnx⟩ := HR5.out.open
    have htl := told_lit hrd6 [⟨z, ⟨#[]⟩, 0, ⟨#[]⟩, 0, 0⟩] 2 hlen (by simp) W6 (Below.refl _ _)
    rw [show (ssC [⟨z, ⟨#[]⟩, 0, ⟨#[]⟩, 0, 0⟩]).toArray = #[.int .i64 z, .string ⟨#[]⟩, .int .i64 0, .string ⟨#[]⟩, .int .i64 0, .int .i64 0, .slice none 0 0] from rfl] at htl
    have HNX := hid_mk hnx
    clear hW6 hrd6 hnx d0 d1 e0 e1 c0 c1 f0 f1 q5 hown HOW HM hkne hH hi0 hz0 hz1 hz2 hz3
    go_wp2_with (go_at_call 92; fail)
    refine htl.mono ?_
    rintro e w7 ⟨v', rfl, ho, hr⟩
    have HZ : Hid (Oth lo W b ks vs R (.returned v') w7) := by
      rw [Hid, HE.out]
      refine ⟨v', rfl, own_from ho (Nat.le_trans HK1.out.keep.size HR5.out.keep.size), ?_⟩
      rw [HKO.out]
      exact HK1.out.from (HNX.out _ _ hr)
    clear htl ho hr HNX
    go_wp2
    go_ret
    exact HZ.out
end Go.Proofs.YtdgkhpkgjkpmnaaGreatDoor.L
