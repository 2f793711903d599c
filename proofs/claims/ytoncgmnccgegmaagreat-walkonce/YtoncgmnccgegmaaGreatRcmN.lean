/- The order of layer 8: every element once, each behind its Parent, as cmpZ says. The document's kids and at, Place, Before and After. The document's Under. The document's Compare. -/
import Derived.Test.YtoncgmnccgegmaaGreatIteN
import Derived.Test.YtoncgmnccgegmaaGreatRfD
import Derived.Test.YtoncgmnccgegmaaGreatRfB
import Derived.Test.YtoncgmnccgegmaaGreatRfT
import Derived.Test.YtoncgmnccgegmaaGreatWcpN
namespace Go.Proofs.YtoncgmnccgegmaaGreat.N
open Go.RowKit
set_option maxRecDepth 100000

section
variable {uok : List (ByteArray × ByteArray) → Prop} {m : M} {nx : Int} {d : Int → Nat}
/-- From the Kids up. -/
theorem kids_ind (I : Inv uok m nx d) {P : Int → Prop} (h : ∀ id e, m id = some e → (∀ k ∈ e.ks, P k) → P id) {id : Int} {e : El} (hm : m id = some e) : P id := by
  have H : ∀ (n : Nat) (id : Int) (e : El), m id = some e → 513 - d id ≤ n → P id := by
    intro n
    induction n with
    | zero => intro id e hm hd; have := I.top hm; omega
    | succ n ih =>
      intro id e hm hd
      refine h id e hm fun k hk => ?_
      obtain ⟨c, h1, h2⟩ := I.kid hm hk
      have h3 := I.dep h1 (I.kidne hm hk)
      rw [h2] at h3
      exact ih k c h1 (by omega)
  exact H _ id e hm (Nat.le_refl _)
/-- From the root down. -/
theorem par_ind (I : Inv uok m nx d) {P : Int → Prop} (h : ∀ id e, m id = some e → (id ≠ 1 → P e.par) → P id) {id : Int} {e : El} (hm : m id = some e) : P id := by
  have H : ∀ (n : Nat) (id : Int) (e : El), m id = some e → d id ≤ n → P id := by
    intro n
    induction n with
    | zero => intro id e hm hd; have := I.pos hm; omega
    | succ n ih =>
      intro id e hm hd
      refine h id e hm fun h1 => ?_
      obtain ⟨p, hp, _⟩ := I.par hm h1
      have := I.dep hm h1
      exact ih e.par p hp (by omega)
  exact H _ id e hm (Nat.le_refl _)
theorem pre_self (I : Inv uok m nx d) {id : Int} {e : El} (hm : m id = some e) : id ∈ preO m id := by
  rw [preO_some I hm]
  exact List.mem_cons_self ..
theorem ups_self (I : Inv uok m nx d) {id : Int} {e : El} (hm : m id = some e) : id ∈ ups m id := by
  rw [ups_head I hm]
  exact List.mem_cons_self ..
/-- Above one who is above. -/
theorem ups_trans (I : Inv uok m nx d) {x k y : Int} (hk : k ∈ ups m x) (hy : y ∈ ups m k) : y ∈ ups m x := by
  cases hm : m x with
  | none => rw [ups_none hm] at hk; cases hk
  | some e =>
    obtain ⟨t, ht, _⟩ := ups_suf I _ x e hm rfl k hk
    rw [ht]
    exact List.mem_append_right _ hy
theorem pre_above (I : Inv uok m nx d) {id : Int} {e : El} (hm : m id = some e) : ∀ x ∈ preO m id, id ∈ ups m x := by
  refine kids_ind I (P := fun id => ∀ x ∈ preO m id, id ∈ ups m x) (fun id e hm ih x hx => ?_) hm
  rw [preO_some I hm] at hx
  rcases List.mem_cons.1 hx with rfl | hx
  · exact ups_self I hm
  · obtain ⟨k, hk, hxk⟩ := List.mem_flatMap.1 hx
    obtain ⟨c, h1, h2⟩ := I.kid hm hk
    refine ups_trans I (ih k hk x hxk) ?_
    rw [ups_head I h1, h2]
    exact List.mem_cons_of_mem _ (ups_self I hm)
theorem pre_kid (I : Inv uok m nx d) {id : Int} {e : El} (hm : m id = some e) : ∀ p ∈ preO m id, ∀ P, m p = some P → ∀ x ∈ P.ks, x ∈ preO m id := by
  refine kids_ind I (P := fun id => ∀ p ∈ preO m id, ∀ P, m p = some P → ∀ x ∈ P.ks, x ∈ preO m id) (fun id e hm ih p hp P hP x hx => ?_) hm
  rw [preO_some I hm] at hp ⊢
  refine List.mem_cons_of_mem _ (List.mem_flatMap.2 ?_)
  rcases List.mem_cons.1 hp with rfl | hp
  · rw [hm] at hP
    cases hP
    obtain ⟨c, h1, _⟩ := I.kid hm hx
    exact ⟨x, hx, pre_self I h1⟩
  · obtain ⟨k, hk, hpk⟩ := List.mem_flatMap.1 hp
    exact ⟨k, hk, ih k hk p hpk P hP x hx⟩
/-- Below an element are just those that have it above them. -/
theorem pre_mem (I : Inv uok m nx d) {id : Int} {e : El} (hm : m id = some e) {x : Int} : x ∈ preO m id ↔ id ∈ ups m x := by
  refine ⟨pre_above I hm x, fun h => ?_⟩
  cases hx : m x with
  | none => rw [ups_none hx] at h; cases h
  | some f =>
    refine par_ind I (P := fun x => id ∈ ups m x → x ∈ preO m id) (fun x f hx ih h => ?_) hx h
    rw [ups_head I hx] at h
    rcases List.mem_cons.1 h with rfl | h
    · exact pre_self I hm
    · by_cases h1 : x = 1
      · have hp : f.par = 0 := (I.parRoot hx).2 h1
        rw [hp, ups_none I.zero] at h
        cases h
      · obtain ⟨p, hp, hk⟩ := I.par hx h1
        exact pre_kid I hm f.par (ih h1 h) p hp x hk
theorem root_above (I : Inv uok m nx d) {x : Int} {e : El} (hm : m x = some e) : 1 ∈ ups m x := by
  have h1 := (down_chain I _ x e hm rfl _ rfl).1
  have := List.mem_of_getElem? h1
  simpa using this
/-- All are there. -/
theorem pre_root (I : Inv uok m nx d) {x : Int} : x ∈ preO m 1 ↔ m x ≠ none := by
  obtain ⟨r, hr, _⟩ := I.root
  rw [pre_mem I hr]
  constructor
  · intro h hx
    rw [ups_none hx] at h
    cases h
  · intro h
    cases hx : m x with
    | none => exact (h hx).elim
    | some e => exact root_above I hx
/-- Below one Kid, ahead of those below a later one. -/
theorem cmpZ_below (I : Inv uok m nx d) {a b x y : Int} {e f : El} (ha : m a = some e) (hb : m b = some f) (hp : e.par = f.par) {l : List Int} {i j : Int} (h1 : amongZ m a = (l, i)) (h2 : amongZ m b = (l, j)) (hij : i < j) (hx : a ∈ ups m x) (hy : b ∈ ups m y) : cmpZ m x y = -1 := by
  have hne : a ≠ b := fun h => by
    rw [h, h2] at h1
    injection h1 with _ h1
    omega
  obtain ⟨ex, hex⟩ : ∃ ex, m x = some ex := by
    cases hm : m x with
    | none => rw [ups_none hm] at hx; cases hx
    | some ex => exact ⟨ex, rfl⟩
  obtain ⟨ey, hey⟩ : ∃ ey, m y = some ey := by
    cases hm : m y with
    | none => rw [ups_none hm] at hy; cases hy
    | some ey => exact ⟨ey, rfl⟩
  obtain ⟨t, ht, _⟩ := ups_suf I _ x ex hex rfl a hx
  obtain ⟨u, hu, _⟩ := ups_suf I _ y ey hey rfl b hy
  have hxx : (ups m x).reverse = (ups m e.par).reverse ++ (a :: t.reverse) := by rw [ht, ups_some I ha, List.reverse_append, List.reverse_cons, List.append_assoc]; rfl
  have hyy : (ups m y).reverse = (ups m e.par).reverse ++ (b :: u.reverse) := by rw [hu, ups_some I hb, List.reverse_append, List.reverse_cons, List.append_assoc, hp]; rfl
  unfold cmpZ cmpL
  rw [hxx, hyy, shared_app]
  have hs : sharedL (a :: t.reverse) (b :: u.reverse) = 0 := by rw [sharedL, if_neg hne]
  rw [hs, Nat.add_zero, if_neg (by simp), if_neg (by simp)]
  have g1 : ((ups m e.par).reverse ++ (a :: t.reverse)).getD (ups m e.par).reverse.length 0 = a := by
    rw [List.getD_eq_getElem?_getD, List.getElem?_append_right (Nat.le_refl _), Nat.sub_self]
    rfl
  have g2 : ((ups m e.par).reverse ++ (b :: u.reverse)).getD (ups m e.par).reverse.length 0 = b := by
    rw [List.getD_eq_getElem?_getD, List.getElem?_append_right (Nat.le_refl _), Nat.sub_self]
    rfl
  rw [g1, g2, h1, h2]
  exact cmpI_lt hij
theorem kid_among (I : Inv uok m nx d) {id : Int} {el : El} (hm : m id = some el) {i : Nat} (hi : i < el.ks.length) : amongZ m el.ks[i] = (el.ks, (i : Int)) := by
  obtain ⟨c, h1, h2⟩ := I.kid hm (List.getElem_mem hi)
  unfold amongZ
  rw [h1]
  dsimp only
  rw [h2, hm]
  dsimp only
  rw [idxOf_at (I.nd hm) hi]
theorem pairwise_flatMap {α β : Type} {R : β → β → Prop} {g : α → List β} : ∀ {l : List α}, (∀ a ∈ l, (g a).Pairwise R) → (∀ (i j : Nat) (hi : i < l.length) (hj : j < l.length), i < j → ∀ x ∈ g l[i], ∀ y ∈ g l[j], R x y) → (l.flatMap g).Pairwise R
  | [], _, _ => by simp
  | a :: l, h1, h2 => by
    rw [List.flatMap_cons, List.pairwise_append]
    refine ⟨h1 a (List.mem_cons_self ..), pairwise_flatMap (fun b hb => h1 b (List.mem_cons_of_mem _ hb)) (fun i j hi hj hij x hx y hy => h2 (i + 1) (j + 1) (by simp; omega) (by simp; omega) (by omega) x (by simpa using hx) y (by simpa using hy)), fun x hx y hy => ?_⟩
    obtain ⟨b, hb, hyb⟩ := List.mem_flatMap.1 hy
    obtain ⟨j, hj, rfl⟩ := List.getElem_of_mem hb
    exact h2 0 (j + 1) (by simp) (by simp; omega) (by omega) x hx y (by simpa using hyb)
/-- Each is ahead of all behind it. -/
theorem pre_sorted (I : Inv uok m nx d) {id : Int} {e : El} (hm : m id = some e) : (preO m id).Pairwise (fun x y => cmpZ m x y = -1) := by
  refine kids_ind I (P := fun id => (preO m id).Pairwise (fun x y => cmpZ m x y = -1)) (fun id e hm ih => ?_) hm
  rw [preO_some I hm, List.pairwise_cons]
  refine ⟨fun x hx => ?_, pairwise_flatMap ih fun i j hi hj hij x hx y hy => ?_⟩
  · obtain ⟨k, hk, hxk⟩ := List.mem_flatMap.1 hx
    obtain ⟨c, h1, h2⟩ := I.kid hm hk
    have hku := pre_above I h1 x hxk
    cases hxm : m x with
    | none => rw [ups_none hxm] at hku; cases hku
    | some f =>
      refine cmpZ_up I hxm ?_
      have hidk : id ∈ ups m x := ups_trans I hku (by rw [ups_head I h1, h2]; exact List.mem_cons_of_mem _ (ups_self I hm))
      rw [ups_head I hxm] at hidk
      rcases List.mem_cons.1 hidk with rfl | h
      · exfalso
        have e1 := ups_dep I _ _ hku
        have e2 := I.dep h1 (I.kidne hm hk)
        rw [h2] at e2
        omega
      · exact h
  · obtain ⟨c1, p1, p2⟩ := I.kid hm (List.getElem_mem hi)
    obtain ⟨c2, q1, q2⟩ := I.kid hm (List.getElem_mem hj)
    exact cmpZ_below I p1 q1 (p2.trans q2.symm) (kid_among I hm hi) (kid_among I hm hj) (by omega) (pre_above I p1 x hx) (pre_above I q1 y hy)
theorem pre_nodup (I : Inv uok m nx d) {id : Int} {e : El} (hm : m id = some e) : (preO m id).Nodup := by
  refine (pre_sorted I hm).imp ?_
  rintro x y h rfl
  rw [cmpZ_self] at h
  cases h
/-- There are as many as elements. -/
theorem pre_cnt (I : Inv uok m nx d) : Cnt m (preO m 1).length := by
  obtain ⟨r, hr, _⟩ := I.root
  exact ⟨preO m 1, pre_nodup I hr, rfl, fun n => pre_root I⟩
/-- Where they stand says who is ahead. -/
theorem pre_cmp (I : Inv uok m nx d) {i j : Nat} (hi : i < (preO m 1).length) (hj : j < (preO m 1).length) : cmpZ m (preO m 1)[i] (preO m 1)[j] = Lib.compareInt i j := by
  obtain ⟨r, hr, _⟩ := I.root
  have hp := List.pairwise_iff_getElem.1 (pre_sorted I hr)
  rcases Nat.lt_trichotomy i j with h | h | h
  · rw [hp i j hi hj h, cmpI_lt (by omega)]
  · subst h
    rw [cmpZ_self]
    exact (cmpI_zero.2 rfl).symm
  · rw [cmpZ_anti, hp j i hj hi h, cmpI_anti, cmpI_lt (by omega)]
theorem nodup_le : ∀ {n : Nat} {l : List Int}, l.Nodup → (∀ x ∈ l, 1 ≤ x ∧ x ≤ (n : Int)) → l.length ≤ n
  | 0, [], _, _ => Nat.le_refl _
  | 0, x :: l, _, h => by have := h x (List.mem_cons_self ..); omega
  | n + 1, l, hn, h => by
    have h1 : (l.erase ((n : Int) + 1)).length ≤ n := nodup_le (hn.erase _) fun x hx => by
      have h2 := h x (List.mem_of_mem_erase hx)
      have h3 : x ≠ (n : Int) + 1 := (hn.mem_erase_iff.1 hx).1
      omega
    have h4 := List.length_erase_le (a := (n : Int) + 1) (l := l)
    by_cases hm : (n : Int) + 1 ∈ l
    · have := List.length_erase_of_mem hm
      omega
    · rw [List.erase_of_not_mem hm] at h1
      omega
theorem pre_small (I : Inv uok m nx d) : ((preO m 1).length : Int) + 1 ≤ nx := by
  obtain ⟨r, hr, _⟩ := I.root
  have hb := I.nxb
  have := nodup_le (n := (nx - 1).toNat) (pre_nodup I hr) fun x hx => by
    cases hm : m x with
    | none => exact ((pre_root I).1 hx hm).elim
    | some e =>
      have := I.lo hm
      omega
  omega
end

end Go.Proofs.YtoncgmnccgegmaaGreat.N
namespace Go.Proofs.YtoncgmnccgegmaaGreat.N
open Go.RowKit
set_option maxRecDepth 100000

set_option maxHeartbeats 4000000 in
theorem rat_int {w : World} {a : Option Addr} {n c : Nat} {ks : List Int} (h : RowAt w 1 a n c (intsV ks)) (x : Int) : Calls Tryz.prog 40 #[.slice a n c, .int .i64 x] w fun e w' => e = .returned (.int .i64 (Lib.idxOf ks x)) ∧ Below w.heap.size w w' := by
  have hl : (intsV ks).length = ks.length := by simp [intsV]
  have hb1 := h.2.1
  have hm1 := h.2.2.1
  unfold maxLen at hm1
  obtain rfl : n = ks.length := by have := h.1; omega
  have HC : Hid (∀ w', Below w.heap.size w w' → ∀ t (ht : t < ks.length), ∃ ab ao, a = some ⟨ab, ao, none⟩ ∧ w'.cell? ⟨ab, ao + t, none⟩ = some (.int .i64 ks[t])) := fun w' hw' t ht => by
    obtain ⟨ab, ao, e1, l1, g1⟩ := h.intAt ht
    exact ⟨ab, ao, e1, (hw'.cell (p := ⟨ab, ao + t, none⟩) l1).trans g1⟩
  have HH : Hid (∀ t, t < ks.length → ks.getD t 0 = x → (∀ j, j < t → ks.getD j 0 ≠ x) → (t : Int) = Lib.idxOf ks x) := fun t ht h1 h2 => by
    have := Lib.idxOf_hit ks ks.length t x ht (Nat.le_refl _) h1 h2
    rw [List.take_length] at this
    exact this.symm
  have HM : Hid ((∀ j, j < ks.length → ks.getD j 0 ≠ x) → -1 = Lib.idxOf ks x) := fun h1 => by
    have := Lib.idxOf_miss ks ks.length x h1
    rw [List.take_length] at this
    exact this.symm
  generalize Lib.idxOf ks x = R at *
  clear h hl
  go_enter Tryz.func40, Tryz.ntmps40
  go_wp2
  go_loopw [9] (fun a9 wq => ∃ t : Nat, t ≤ ks.length ∧ a9 = .int .i64 (t : Int) ∧ Hid (∀ j, j < t → ks.getD j 0 ≠ x) ∧ Hid (Below w.heap.size w wq)) (fun a9 _ => ks.length + 1 - (intOf a9).toNat)
  case atStart => exact ⟨0, Nat.zero_le _, rfl, hid_mk (fun j hj => by omega), hid_mk (Below.refl _ _)⟩
  case round =>
    obtain ⟨t, ht, rfl, HN, HB⟩ := hrel
    by_cases htl : t < ks.length
    · obtain ⟨ab, ao, rfl, q1⟩ := HC.out wr HB.out t htl
      have hg : ks.getD t 0 = ks[t] := by rw [List.getD_eq_getElem?_getD, List.getElem?_eq_getElem htl]; rfl
      by_cases hx : ks[t] = x
      · have HR := hid_mk (HH.out t htl (hg.trans hx) HN.out)
        rw [hx] at q1
        clear HC HH HM HN hg hx
        go_wp2
        go_ret
        exact ⟨ret_int HR.out, HB.out⟩
      · have HN2 : Hid (∀ j, j < t + 1 → ks.getD j 0 ≠ x) := fun j hj => by
          rcases Nat.lt_succ_iff_lt_or_eq.1 hj with h1 | rfl
          · exact HN.out j h1
          · rw [hg]; exact hx
        have hne : (ks[t] == x) = false := beq_eq_false_iff_ne.2 hx
        clear HC HH HM HN hg hx
        generalize ks[t] = v at *
        go_wp2
        exact ⟨⟨t + 1, htl, by go_num, HN2, HB⟩, by simp only [intOf]; omega⟩
    · have HR := hid_mk (HM.out fun j hj => HN.out j (by omega))
      clear HC HH HM HN
      go_wp2
      go_ret
      exact ⟨ret_int HR.out, HB.out⟩

theorem among_idx (m : M) (id : Int) : (amongZ m id).2 = Lib.idxOf (amongZ m id).1 id := by
  unfold amongZ
  split
  · rfl
  · split
    · have := Lib.idxOf_hit [id] 1 0 id (by decide) (Nat.le_refl _) rfl (fun j hj => by omega)
      exact this.symm
    · rfl

set_option maxHeartbeats 4000000 in
theorem rkids_any {w : World} {rp : Value} {L : List El} {m : M} {nx : Int} (h : RTree w rp L m nx) (id : Int) : Calls Tryz.prog 39 #[rp, .int .i64 id] w fun x w' => ∃ a c, x = .returned (.slice a (amongZ m id).1.length c) ∧ RowAt w' 1 a (amongZ m id).1.length c (intsV (amongZ m id).1) ∧ Below w.heap.size w w' := by
  have hn1 := rt_node h id
  have HND : Hid (∀ w' (n : Int), Below w.heap.size w w' → _) := fun w' n hw' => rt_node (h.keep hw') n
  obtain ⟨d, I⟩ := h.2.2.2
  have HI := hid_mk I
  obtain ⟨l, hl⟩ : ∃ l, l = (amongZ m id).1 := ⟨_, rfl⟩
  rw [← hl]
  have HL := hid_mk hl
  clear h hl I
  cases hm : m id with
  | none =>
    rw [hm] at hn1
    have HL0 : Hid (l = []) := by rw [Hid, HL.out]; unfold amongZ; rw [hm]
    go_enter Tryz.func39, Tryz.ntmps39
    go_wp2_with (go_at_call 35; fail)
    refine hn1.mono ?_
    rintro x w1 ⟨s, rfl, _, _, hB1⟩
    have HB2 := hid_mk (hB1.alloc hB1.size (.cells #[.int .i64 s.id, .string s.tag, .int .i64 s.par, .slice s.ka s.kn s.kc, .slice s.aa s.an s.ac] 47))
    clear hn1 hB1 HND HL
    go_wp2
    go_ret
    have := HL0.out
    subst this
    exact ⟨none, 0, rfl, RowAt.nil _ 1, HB2.out⟩
  | some e =>
    rw [hm] at hn1
    go_enter Tryz.func39, Tryz.ntmps39
    go_wp2_with (go_at_call 35; fail)
    refine hn1.mono ?_
    rintro x w1 ⟨s, rfl, hE, _, hB1⟩
    have hpar : s.par = e.par := hE.2.2.1
    obtain ⟨w2, hw2⟩ : ∃ w2, w2 = w1.alloc (.cells #[.int .i64 s.id, .string s.tag, .int .i64 s.par, .slice s.ka s.kn s.kc, .slice s.aa s.an s.ac] 47) := ⟨_, rfl⟩
    have HB2 : Hid (Below w.heap.size w w2) := by rw [Hid, hw2]; exact hB1.alloc hB1.size _
    have hN2 : NodeAt w2 w1.heap.size s := by rw [hw2]; exact heap_alloc_last w1 _
    obtain ⟨⟨_, _, n2, _, _⟩, _⟩ := hN2.cells
    rw [hpar] at n2
    have HW2 := hid_mk hw2
    clear hn1 hE hB1 hw2 hN2 hpar
    go_upto_region 2 with (fail)
    rw [← HW2.out]
    by_cases hp : e.par = 0
    · have HL1 : Hid (l = [id]) := by
        rw [Hid, HL.out]
        unfold amongZ
        rw [hm]
        dsimp only
        rw [hp, HI.out.zero]
      rw [hp] at n2
      have hrow : RowAt (w2.alloc (.cells #[.int .i64 id] 3)) 1 (some ⟨w2.heap.size, 0, none⟩) 1 1 (intsV [id]) := row_one (heap_alloc_last w2 _) rfl
      have HRW := hid_mk hrow
      clear hrow HND HL HI hp hm
      go_wp2
      go_ret
      have := HL1.out
      subst this
      exact ⟨_, _, rfl, HRW.out, HB2.out.alloc HB2.out.size _⟩
    · have hp0 : (e.par == 0) = false := beq_eq_false_iff_ne.2 hp
      obtain ⟨P, hP, _⟩ := HI.out.par hm (fun h1 => hp ((HI.out.parRoot hm).2 h1))
      have HL1 : Hid (l = P.ks) := by
        rw [Hid, HL.out]
        unfold amongZ
        rw [hm]
        dsimp only
        rw [hP]
      have hnd := HND.out w2 e.par HB2.out
      rw [hP] at hnd
      generalize e.par = pp at *
      clear HND HL HI hp hm hP
      go_wp2_with (go_at_call 35; fail)
      refine hnd.mono ?_
      rintro x w3 ⟨s3, rfl, hE3, _, hB3⟩
      obtain ⟨w4, hw4⟩ : ∃ w4, w4 = w3.alloc (.cells #[.int .i64 s3.id, .string s3.tag, .int .i64 s3.par, .slice s3.ka s3.kn s3.kc, .slice s3.aa s3.an s3.ac] 47) := ⟨_, rfl⟩
      have hA4 : Below w3.heap.size w3 w4 := by rw [hw4]; exact (Below.refl _ _).alloc (Nat.le_refl _) _
      have hN4 : NodeAt w4 w3.heap.size s3 := by rw [hw4]; exact heap_alloc_last w3 _
      obtain ⟨⟨_, _, _, n3, _⟩, _⟩ := hN4.cells
      have hrow : RowAt w4 1 s3.ka s3.kn s3.kc (intsV P.ks) := hE3.2.2.2.1.keep hA4
      have HRW := hid_mk hrow
      have HB4 := hid_mk (HB2.out.trans ((hB3.trans (hA4.mono hB3.size)).mono HB2.out.size))
      have HKN : Hid (s3.kn = P.ks.length) := by
        have := hrow.1
        simp only [intsV, List.length_map] at this
        rw [Hid]
        omega
      have HW4 := hid_mk hw4
      clear hnd hE3 hB3 hA4 hN4 hrow hw4 n2
      go_upto_region 7 with (fail)
      rw [← HW4.out]
      go_wp2
      go_ret
      have h1 := HL1.out
      have h2 := HKN.out
      have h3 := HRW.out
      subst h1
      rw [h2] at h3 ⊢
      exact ⟨_, _, rfl, h3, HB4.out⟩

end Go.Proofs.YtoncgmnccgegmaaGreat.N
namespace Go.Proofs.YtoncgmnccgegmaaGreat.N
open Go.RowKit
set_option maxRecDepth 100000

theorem own_one (W : World) (e : TypeId) (x : Value) : (W.alloc (.cells #[x] e)).ownsRow W.heap.size e 1 (.slice (some ⟨W.heap.size, 0, none⟩) 1 1) 1 [x] :=
  ⟨by simp, .inr ⟨W.heap.size, 1, #[x], rfl, Nat.le_refl _, heap_alloc_last W _, Nat.le_refl _, by decide, by simp, by simp⟩⟩
theorem pre_len {uok : List (ByteArray × ByteArray) → Prop} {m : M} {nx : Int} {d : Int → Nat} (I : Inv uok m nx d) {id : Int} {e : El} (hm : m id = some e) : (preO m id).length ≤ 100000 := by
  have hb := I.nxb
  have := nodup_le (n := (nx - 1).toNat) (pre_nodup I hm) fun x hx => by
    have hu := pre_above I hm x hx
    cases hx : m x with
    | none => rw [ups_none hx] at hu; cases hu
    | some f =>
      have := I.lo hx
      omega
  omega
theorem intsV_app2 (a b : List Int) : intsV (a ++ b) = intsV a ++ intsV b := by simp [intsV]
/-- What Under gives. -/
def UndP (m : M) (id : Int) (w : World) (x : Ending) (w' : World) : Prop := ∃ v, x = .returned v ∧ w'.ownsRow w.heap.size 3 1 v (preO m id).length (intsV (preO m id)) ∧ Below w.heap.size w w'

set_option maxHeartbeats 4000000 in
theorem runder_none {w : World} {rp : Value} {L : List El} {m : M} {nx : Int} (h : RTree w rp L m nx) (id : Int) (hm : m id = none) : Calls Tryz.prog 9 #[rp, .int .i64 id] w (UndP m id w) := by
  have hn1 := rt_node h id
  rw [hm] at hn1
  have HP : Hid (preO m id = []) := preO_none hm
  clear h hm
  go_enter Tryz.func9, Tryz.ntmps9
  go_wp2_with (go_at_call 35; fail)
  refine hn1.mono ?_
  rintro x w1 ⟨s, rfl, _, _, hB1⟩
  have HB2 := hid_mk (hB1.alloc hB1.size (.cells #[.int .i64 s.id, .string s.tag, .int .i64 s.par, .slice s.ka s.kn s.kc, .slice s.aa s.an s.ac] 47))
  clear hn1 hB1
  go_wp2
  go_ret
  refine ⟨_, rfl, ?_, HB2.out⟩
  rw [HP.out]
  exact ⟨rfl, .inl ⟨rfl, rfl⟩⟩

set_option maxHeartbeats 8000000 in
theorem runder_some {w : World} {rp : Value} {L : List El} {m : M} {nx : Int} (h : RTree w rp L m nx) (id : Int) {el : El} (hm : m id = some el) (HREC : Hid (∀ k ∈ el.ks, ∀ w', Below w.heap.size w w' → Calls Tryz.prog 9 #[rp, .int .i64 k] w' (UndP m k w'))) : Calls Tryz.prog 9 #[rp, .int .i64 id] w (UndP m id w) := by
  have hn1 := rt_node h id
  rw [hm] at hn1
  obtain ⟨d, I⟩ := h.2.2.2
  have HP : Hid (preO m id = id :: el.ks.flatMap (preO m)) := preO_some I hm
  have hplen := pre_len I hm
  have HPL := hid_mk hplen
  have hkl := I.ksLen hm
  have hnb := I.nxb
  obtain ⟨i3, z3, hi0, hz0, hz1, hz2, rfl⟩ := info3r
  have HI3 := hid_mk hi0
  have HZ0 := hid_mk hz0
  have HZ1 := hid_mk hz1
  have HZ2 := hid_mk hz2
  clear h hm I hplen hi0 hz0 hz1 hz2
  go_enter Tryz.func9, Tryz.ntmps9
  go_wp2_with (go_at_call 35; fail)
  refine hn1.mono ?_
  rintro x w1 ⟨s, rfl, hE, _, hB1⟩
  obtain ⟨w2, hw2⟩ : ∃ w2, w2 = w1.alloc (.cells #[.int .i64 s.id, .string s.tag, .int .i64 s.par, .slice s.ka s.kn s.kc, .slice s.aa s.an s.ac] 47) := ⟨_, rfl⟩
  have hA2 : Below w1.heap.size w1 w2 := by rw [hw2]; exact (Below.refl _ _).alloc (Nat.le_refl _) _
  have HB2 : Hid (Below w.heap.size w w2) := hB1.trans (hA2.mono hB1.size)
  have hN2 : NodeAt w2 w1.heap.size s := by rw [hw2]; exact heap_alloc_last w1 _
  obtain ⟨⟨_, _, _, n3, _⟩, _, _, _, _, _, hgl⟩ := hN2.cells
  have hrow : RowAt w2 1 s.ka s.kn s.kc (intsV el.ks) := hE.2.2.2.1.keep hA2
  have HKN : Hid (s.kn = el.ks.length) := by
    have := hrow.1
    simp only [intsV, List.length_map] at this
    rw [Hid]
    omega
  have HC : Hid (∀ w', Below w2.heap.size w2 w' → ∀ t (ht : t < el.ks.length), ∃ ab ao, s.ka = some ⟨ab, ao, none⟩ ∧ w'.cell? ⟨ab, ao + t, none⟩ = some (.int .i64 el.ks[t])) := fun w' hw' t ht => by
    obtain ⟨ab, ao, e1, l1, g1⟩ := hrow.intAt ht
    exact ⟨ab, ao, e1, (hw'.cell (p := ⟨ab, ao + t, none⟩) l1).trans g1⟩
  have HW2 := hid_mk hw2
  clear hn1 hE hB1 hA2 hN2 hw2 hrow
  go_upto_region 2 with (fail)
  rw [← HW2.out]
  clear HW2
  obtain ⟨id0, tag0, par0, ka, kn, kc, aa, an, ac⟩ := s
  have hkn := HKN.out
  dsimp only at hkn n3 HC
  subst hkn
  clear HKN
  have HO3 := hid_mk (own_one w2 3 (.int .i64 id))
  have hB23 : Below w2.heap.size w2 (w2.alloc (.cells #[.int .i64 id] 3)) := (Below.refl _ _).alloc (Nat.le_refl _) _
  have n3' := (hB23.cell (p := ⟨w1.heap.size, 3, none⟩) hgl).trans n3
  have HB3 := hid_mk hB23
  clear hB23
  go_upto_block 0 with (fail)
  go_wp2
  clear n3 n3'
  go_loopw [7, 23] (fun a7 a23 wr => ∃ (i : Nat) (told : List Int), i ≤ el.ks.length ∧ a23 = .int .i64 (i : Int) ∧ Hid (told = id :: (el.ks.take i).flatMap (preO m)) ∧ Hid (wr.ownsRow w2.heap.size 3 1 a7 told.length (intsV told)) ∧ Hid (Below w2.heap.size w2 wr)) (fun _ a23 _ => el.ks.length + 1 - (intOf a23).toNat)
  case atStart => exact ⟨0, [id], Nat.zero_le _, rfl, by simp [Hid], HO3, HB3⟩
  case round =>
    clear HO3 HB3
    obtain ⟨i, told, hi, rfl, HTD, HO, HB⟩ := hrel
    by_cases hlt : i < el.ks.length
    · obtain ⟨ab, ao, rfl, hc⟩ := HC.out wr HB.out i hlt
      have hrec := HREC.out el.ks[i] (List.getElem_mem hlt) wr (HB2.out.trans (HB.out.mono HB2.out.size))
      have HTD2 : Hid (told ++ preO m el.ks[i] = id :: (el.ks.take (i + 1)).flatMap (preO m)) := by
        rw [Hid, HTD.out, List.take_add_one, List.getElem?_eq_getElem hlt, Option.toList_some, List.flatMap_append, List.flatMap_cons, List.flatMap_nil, List.append_nil]
        rfl
      have hlen : told.length + (preO m el.ks[i]).length ≤ 100000 := by
        have h1 : (told ++ preO m el.ks[i]).length ≤ (preO m id).length := by
          rw [HTD2.out, HP.out, List.length_cons, List.length_cons]
          have h2 := congrArg (List.flatMap (preO m)) (List.take_append_drop (i + 1) el.ks)
          rw [List.flatMap_append] at h2
          have h3 := congrArg List.length h2
          rw [List.length_append] at h3
          omega
        rw [List.length_append] at h1
        have := HPL.out
        omega
      clear HC HREC HTD HP HPL
      generalize el.ks[i] = k at *
      obtain ⟨av, cv, rfl⟩ := own_slice HO.out
      go_wp2_with (go_at_call 9; fail)
      refine hrec.mono ?_
      rintro x w6 ⟨v6, rfl, ho6, hB6⟩
      obtain ⟨a6, c6, rfl, hr6, _⟩ := RowAt.of_owns ho6 (by simp [intsV, Value.oneCell'])
      have hown := ownsRow_below HO.out hB6
      have HB6 := hid_mk (HB.out.trans (hB6.mono HB.out.size))
      have hBs : w2.heap.size ≤ w6.heap.size := HB6.out.size
      have hi0 := HI3.out
      have hz0 := HZ0.out
      have hz1 := HZ1.out
      have hz2 := HZ2.out
      clear hrec ho6 hB6 HO HB hc
      go_upto_region 9 with (at_builtin; go_must (refine wpList_append_rowAt rfl _ _ 29 rfl (B := w2.heap.size) Tryz.underlying29 hi0 hz0 hz1 hz2 rfl (by decide) (by decide) rfl rfl hown hr6 (by omega) hBs ?_); intro v' w7 hown7 hgrow7 _; have HO7 := hid_mk hown7; have HB7 : Hid (Below w2.heap.size w2 w7) := HB6.out.grown hgrow7 HB6.out.size (fun k hk => (hown.lt k hk).1); clear hown7 hgrow7)
      clear hown hr6 hi0 hz0 hz1 hz2
      go_wp2
      refine ⟨⟨i + 1, told ++ preO m k, hlt, by go_num, HTD2, ?_, HB7⟩, by simp only [intOf]; omega⟩
      rw [Hid, List.length_append, intsV_app2]
      exact HO7.out
    · have HT2 : Hid (told = preO m id) := by
        rw [Hid, HTD.out, HP.out, List.take_of_length_le (by omega)]
      clear HC HREC HTD HP HPL
      obtain ⟨av, cv, hav⟩ := own_slice HO.out
      subst hav
      go_wp2
      go_ret
      refine ⟨_, rfl, ?_, HB2.out.trans (HB.out.mono HB2.out.size)⟩
      rw [← HT2.out]
      exact ownsRow_mono HO.out HB2.out.size

theorem runder_any {w : World} {rp : Value} {L : List El} {m : M} {nx : Int} (h : RTree w rp L m nx) (id : Int) : Calls Tryz.prog 9 #[rp, .int .i64 id] w (UndP m id w) := by
  obtain ⟨d, I⟩ := h.2.2.2
  cases hm : m id with
  | none => exact runder_none h id hm
  | some el =>
    refine kids_ind I (P := fun id => ∀ w', Below w.heap.size w w' → Calls Tryz.prog 9 #[rp, .int .i64 id] w' (UndP m id w')) (fun id el hm ih w' hw' => ?_) hm w (Below.refl _ _)
    exact runder_some (h.keep hw') id hm (hid_mk fun k hk w'' hw'' => ih k hk w'' (hw'.trans (hw''.mono hw'.size)))

end Go.Proofs.YtoncgmnccgegmaaGreat.N
namespace Go.Proofs.YtoncgmnccgegmaaGreat.N
open Go.RowKit
set_option maxRecDepth 100000

section
variable {uok : List (ByteArray × ByteArray) → Prop} {m : M} {nx : Int} {d : Int → Nat}
theorem idx_none (I : Inv uok m nx d) {x : Int} (h : m x = none) : Lib.idxOf (preO m 1) x < 0 := by
  have h1 := Lib.idxOf_nonneg_iff (preO m 1) x
  by_cases h2 : 0 ≤ Lib.idxOf (preO m 1) x
  · rw [h1] at h2
    have h3 : x ∈ preO m 1 := by simpa using h2
    exact ((pre_root I).1 h3 h).elim
  · omega
theorem idx_some (I : Inv uok m nx d) {x : Int} {e : El} (h : m x = some e) : ∃ (t : Nat) (ht : t < (preO m 1).length), (preO m 1)[t] = x ∧ Lib.idxOf (preO m 1) x = (t : Int) := by
  have h3 : x ∈ preO m 1 := (pre_root I).2 (by rw [h]; simp)
  obtain ⟨r, hr, _⟩ := I.root
  obtain ⟨t, ht, h4⟩ := List.getElem_of_mem h3
  refine ⟨t, ht, h4, ?_⟩
  have := idxOf_at (pre_nodup I hr) ht
  rw [h4] at this
  exact this
theorem cmp_idx (I : Inv uok m nx d) (a b : Int) : ((Lib.idxOf (preO m 1) a < 0 ∨ Lib.idxOf (preO m 1) b < 0) → 0 = cmpZ m a b) ∧ (0 ≤ Lib.idxOf (preO m 1) a → 0 ≤ Lib.idxOf (preO m 1) b → Lib.compareInt (Lib.idxOf (preO m 1) a) (Lib.idxOf (preO m 1) b) = cmpZ m a b) := by
  cases ha : m a with
  | none =>
    have := idx_none I ha
    exact ⟨fun _ => (cmpZ_none (.inl ha)).symm, fun h => by omega⟩
  | some e =>
    cases hb : m b with
    | none =>
      have := idx_none I hb
      exact ⟨fun _ => (cmpZ_none (.inr hb)).symm, fun _ h => by omega⟩
    | some f =>
      obtain ⟨t, ht, h1, h2⟩ := idx_some I ha
      obtain ⟨u, hu, h3, h4⟩ := idx_some I hb
      rw [h2, h4]
      refine ⟨fun h => by omega, fun _ _ => ?_⟩
      have := pre_cmp I ht hu
      rw [h1, h3] at this
      exact this.symm
end

set_option maxHeartbeats 4000000 in
theorem rcompare_any {w : World} {rp : Value} {L : List El} {m : M} {nx : Int} (h : RTree w rp L m nx) (a b : Int) : Calls Tryz.prog 24 #[rp, .int .i64 a, .int .i64 b] w fun x w' => x = .returned (.int .i64 (cmpZ m a b)) ∧ Below w.heap.size w w' := by
  have hun := runder_any h 1
  obtain ⟨d, I⟩ := h.2.2.2
  have HCI := hid_mk (cmp_idx I a b)
  unfold UndP at hun
  have HAT : Hid (∀ (w' : World) (s : Option Addr) (n c : Nat), RowAt w' 1 s n c (intsV (preO m 1)) → ∀ x, Calls Tryz.prog 40 #[.slice s n c, .int .i64 x] w' fun e w'' => e = .returned (.int .i64 (Lib.idxOf (preO m 1) x)) ∧ Below w'.heap.size w' w'') := fun w' s n c hr x => rat_int hr x
  obtain ⟨l, hl⟩ : ∃ l, l = preO m 1 := ⟨_, rfl⟩
  rw [← hl] at hun HCI HAT
  generalize cmpZ m a b = R at *
  clear h I hl
  go_enter Tryz.func24, Tryz.ntmps24
  go_wp2_with (go_at_call 9; fail)
  refine hun.mono ?_
  rintro x w1 ⟨v, rfl, ho, hB1⟩
  obtain ⟨s, c, rfl, hr, _⟩ := RowAt.of_owns ho (by simp [intsV, Value.oneCell'])
  have h1 := HAT.out w1 s _ c hr a
  have HB1 := hid_mk hB1
  have HR := hid_mk hr
  clear hun ho hr hB1
  go_wp2_with (go_at_call 40; fail)
  refine h1.mono ?_
  rintro x w2 ⟨rfl, hB2⟩
  have h2 := HAT.out w2 s _ c (HR.out.keep hB2) b
  have HB2 := hid_mk (HB1.out.trans (hB2.mono HB1.out.size))
  clear h1 HAT HR HB1 hB2
  go_wp2_with (go_at_call 40; fail)
  refine h2.mono ?_
  rintro x w3 ⟨rfl, hB3⟩
  have HB3 := hid_mk (HB2.out.trans (hB3.mono HB2.out.size))
  clear h2 HB2 hB3
  generalize Lib.idxOf l a = i at *
  generalize Lib.idxOf l b = k at *
  by_cases hi : i < 0
  · have HE := hid_mk (HCI.out.1 (.inl hi))
    clear HCI
    go_wp2
    go_ret
    exact ⟨ret_int HE.out, HB3.out⟩
  · by_cases hk : k < 0
    · have HE := hid_mk (HCI.out.1 (.inr hk))
      have hi' : 0 ≤ i := by omega
      clear HCI
      go_wp2
      go_ret
      exact ⟨ret_int HE.out, HB3.out⟩
    · have HE := hid_mk (HCI.out.2 (by omega) (by omega))
      have hi' : 0 ≤ i := by omega
      have hk' : 0 ≤ k := by omega
      clear HCI
      by_cases he : i = k
      · subst he
        have HE2 : Hid (0 = R) := by rw [Hid, ← HE.out]; exact (cmpI_zero.2 rfl).symm
        clear HE
        go_wp2
        go_ret
        exact ⟨ret_int HE2.out, HB3.out⟩
      · have he' : (i == k) = false := beq_eq_false_iff_ne.2 he
        by_cases hlt : i < k
        · have HE2 : Hid (-1 = R) := by rw [Hid, ← HE.out]; exact (cmpI_lt hlt).symm
          clear HE
          go_wp2
          go_ret
          exact ⟨ret_int HE2.out, HB3.out⟩
        · have HE2 : Hid (1 = R) := by rw [Hid, ← HE.out, cmpI_anti, cmpI_lt (by omega)]; rfl
          have hge : k ≤ i := by omega
          clear HE
          go_wp2
          go_ret
          exact ⟨ret_int HE2.out, HB3.out⟩

end Go.Proofs.YtoncgmnccgegmaaGreat.N
