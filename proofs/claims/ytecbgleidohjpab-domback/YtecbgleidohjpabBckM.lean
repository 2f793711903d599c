/- DomBack's mathematics: an insert and its remove, a move and the move back. -/
import Derived.Test.YtecbgleidohjpabTacN
namespace Go.Proofs.Ytecbgleidohjpab.N
open Go.RowKit
set_option maxRecDepth 100000

variable {uok : List (ByteArray × ByteArray) → Prop} {m : M} {nx : Int} {d : Int → Nat}
theorem fm_congr {l : List Int} {f g : Int → List Int} (h : ∀ a ∈ l, f a = g a) : l.flatMap f = l.flatMap g := by
  induction l with
  | nil => rfl
  | cons a l ih => rw [List.flatMap_cons, List.flatMap_cons, h a (by simp), ih fun b hb => h b (by simp [hb])]
theorem fm_congrN {l : List Nat} {f g : Nat → List Int} (h : ∀ a, f a = g a) : l.flatMap f = l.flatMap g := by
  rw [funext h]
theorem rmv_ins {l : List Int} {i : Nat} {x : Int} (h : x ∉ l) : rmv (ins l i x) x = l := by
  unfold rmv ins
  rw [List.filter_append, List.filter_append]
  have h1 : (l.take i).filter (fun y => y != x) = l.take i := List.filter_eq_self.2 fun y hy => by
    have : y ≠ x := fun e => h (e ▸ List.mem_of_mem_take hy)
    simpa using this
  have h2 : (l.drop i).filter (fun y => y != x) = l.drop i := List.filter_eq_self.2 fun y hy => by
    have : y ≠ x := fun e => h (e ▸ List.mem_of_mem_drop hy)
    simpa using this
  rw [h1, h2]
  simp
theorem ins_rmv {l : List Int} {x : Int} (hn : l.Nodup) {k : Nat} (hk : l[k]? = some x) : ins (rmv l x) k x = l := by
  rw [← rmv_at hn hk]
  obtain ⟨hlt, e⟩ := List.getElem?_eq_some_iff.1 hk
  unfold ins
  have hl : (l.take k).length = k := by rw [List.length_take]; omega
  rw [List.take_append_of_le_length (by omega), List.take_of_length_le (by omega), List.drop_append_of_le_length (by omega), List.drop_of_length_le (by omega), List.nil_append]
  have : l.drop k = x :: l.drop (k + 1) := by rw [List.drop_eq_getElem_cons hlt, e]
  rw [List.append_assoc]
  show List.take k l ++ (x :: List.drop (k + 1) l) = l
  rw [← this, List.take_append_drop]
/-- An element that was put in bears nothing: its height is one, and who cuts it off has what was. -/
theorem full_ins (I : Inv uok m nx d) {p : Int} {e : El} (hp : m p = some e) (i : Nat) (tag : ByteArray) : Full (insM m nx p i tag) nx 1 ∧ cutM (insM m nx p i tag) nx (levs (insM m nx p i tag) nx 1) = m ∧ remErr (insM m nx p i tag) nx = 0 := by
  have hpl := I.lo hp
  have hno : m nx = none := I.out (.inr (Int.le_refl _))
  have hself : insM m nx p i tag nx = some ⟨nx, tag, p, [], []⟩ := by
    unfold insM
    rw [hp]
    show mset (mset m nx _) p _ nx = _
    rw [mset_ne (by omega), mset_same]
  have hk : kidsOf (insM m nx p i tag) nx = [] := by rw [kidsOf_some hself]
  have hl : levs (insM m nx p i tag) nx 1 = [nx] := by simp [levs, lev]
  have hnk : ∀ {n : Int} {e : El}, m n = some e → nx ∉ e.ks := fun hn hm => by
    obtain ⟨c, hc, _⟩ := I.kid hn hm
    rw [hno] at hc
    cases hc
  refine ⟨⟨Nat.le_refl _, by simp [lev, hk], fun k h => ?_⟩, ?_, ?_⟩
  · obtain rfl : k = 0 := by omega
    simp [lev]
  · funext n
    unfold cutM
    rw [hl]
    by_cases h1 : n = nx
    · subst h1
      rw [if_pos (by simp), hno]
    · rw [if_neg (by simpa using h1)]
      unfold insM
      rw [hp]
      show (mset (mset m nx _) p _ n).map _ = _
      by_cases h2 : n = p
      · subst h2
        rw [mset_same, hp]
        simp only [Option.map_some]
        rw [rmv_ins (hnk hp)]
      · rw [mset_ne h2, mset_ne h1]
        cases hm : m n with
        | none => rfl
        | some q =>
          simp only [Option.map_some]
          rw [rmv_none (hnk hm)]
  · unfold remErr
    rw [hself, if_neg (by simp), if_neg (by have := I.nxb; omega)]
theorem cnt_ins_cut (I : Inv uok m nx d) {p : Int} {e : El} (hp : m p = some e) (i : Nat) (tag : ByteArray) {k : Nat} (h : Cnt m k) : Cnt (cutM (insM m nx p i tag) nx (levs (insM m nx p i tag) nx 1)) k := by
  rw [(full_ins I hp i tag).2.1]
  exact h
/-- A move to another place leaves what lies below. -/
theorem lev_mv (I : Inv uok m nx d) {id tg : Int} {e : El} (he : m id = some e) (h1 : id ≠ 1) (i : Nat) (hto : ∀ j, tg ∉ lev m id j) : ∀ j, lev (mvM m id tg i) id j = lev m id j
  | 0 => rfl
  | j + 1 => by
    show (lev (mvM m id tg i) id j).flatMap _ = (lev m id j).flatMap _
    rw [lev_mv I he h1 i hto j]
    refine fm_congr fun n hn => ?_
    obtain ⟨⟨q, hq⟩, hd⟩ := lev_mem I he j n hn
    rw [kidsOf_some hq, kidsOf_some (mvM_of hq)]
    have hne : n ≠ tg := fun h => hto j (h ▸ hn)
    show (if n = tg then ins (rmv q.ks id) i id else rmv q.ks id) = q.ks
    rw [if_neg hne]
    refine rmv_none fun hm => ?_
    obtain ⟨c, hc, hcp⟩ := I.kid hq hm
    rw [he] at hc
    cases hc
    have := I.dep he h1
    rw [hcp] at this
    omega
theorem full_low (I : Inv uok m nx d) {id : Int} {e : El} (he : m id = some e) {h : Nat} (F : Full m id h) : d id + h ≤ 513 := by
  obtain ⟨n, hn, hd⟩ := F.last I he
  obtain ⟨q, hq⟩ := full_some I he hn
  have := I.top hq
  omega
theorem not_lev {id tg : Int} {e : El} (I : Inv uok m nx d) (he : m id = some e) (h : d tg < d id) : ∀ j, tg ∉ lev m id j := fun j hm => by
  have := (lev_mem I he j tg hm).2
  omega
/-- Who moves an element to the first place of the root, and back, has what was. -/
theorem mov_back (I : Inv uok m nx d) {id : Int} {e P : El} (he : m id = some e) (h1 : id ≠ 1) (hP : m e.par = some P) {a : Nat} (ha : P.ks[a]? = some id) {h : Nat} (F : Full m id h) :
    movErr m id 1 0 h = 0 ∧ Full (mvM m id 1 0) id h ∧ movErr (mvM m id 1 0) id e.par a h = 0 ∧ mvM (mvM m id 1 0) id e.par a = m := by
  obtain ⟨R, hR, hR0⟩ := I.root
  have hdi := I.dep he h1
  have hdp := I.pos hP
  have hd1 := I.dep1
  have hlow := full_low I he F
  have hnl1 := not_lev I he (tg := 1) (by omega)
  have hnlp := not_lev I he (tg := e.par) (by omega)
  have hlv := lev_mv I he h1 0 hnl1
  have hl1 : (1 : Int) ∉ levs m id h := fun hm => by
    obtain ⟨k, _, hk⟩ := levs_mem.1 hm
    exact hnl1 k hk
  have hlp : e.par ∉ levs m id h := fun hm => by
    obtain ⟨k, _, hk⟩ := levs_mem.1 hm
    exact hnlp k hk
  have F' : Full (mvM m id 1 0) id h := ⟨F.pos, by rw [hlv]; exact F.fin, fun k hk => by rw [hlv]; exact F.on k hk⟩
  have hlvs : levs (mvM m id 1 0) id h = levs m id h := by
    unfold levs
    exact fm_congrN hlv
  have I' := I.move he h1 hR F hl1 (by omega) 0
  have he' := mvM_of (id := id) («to» := 1) (i := 0) he
  have hP' := mvM_of (id := id) («to» := 1) (i := 0) hP
  obtain ⟨hlt, hax⟩ := List.getElem?_eq_some_iff.1 ha
  have hmem : id ∈ P.ks := List.mem_of_getElem? ha
  have hnd := I.nd hP
  refine ⟨?_, F', ?_, ?_⟩
  · unfold movErr
    rw [he, hR]
    show (if id ∈ ups m 1 then (2 : Int) else _) = 0
    rw [if_neg fun hm => hl1 ((F.iff I he hR).2 hm), if_neg (by omega), ups_len I hR, if_neg (by omega)]
  · have hr : (rmv (mvE id 1 0 e.par P).ks id).length = P.ks.length - 1 := by
      show (rmv (if e.par = 1 then ins (rmv P.ks id) 0 id else rmv P.ks id) id).length = _
      have hni : id ∉ rmv P.ks id := fun hm => (mem_rmv.1 hm).2 rfl
      split
      · rw [rmv_ins hni, rmv_len hnd, if_pos hmem]
      · rw [rmv_none hni, rmv_len hnd, if_pos hmem]
    unfold movErr
    rw [he', hP']
    show (if id ∈ ups (mvM m id 1 0) e.par then (2 : Int) else _) = 0
    rw [if_neg fun hm => hlp (hlvs ▸ (F'.iff I' he' hP').2 hm), if_neg (by rw [hr]; omega), ups_len I' hP']
    show (if 512 < (if e.par ∈ levs m id h then _ else d e.par) + h then (5 : Int) else 0) = 0
    rw [if_neg hlp, if_neg (by omega)]
  · funext n
    cases hn : m n with
    | none => simp [mvM, hn]
    | some q =>
      rw [mvM_of (mvM_of hn)]
      congr 1
      have hnot : n ≠ e.par → id ∉ q.ks := fun hne hm => by
        obtain ⟨c, hc, hcp⟩ := I.kid hn hm
        rw [he] at hc
        cases hc
        exact hne hcp.symm
      have hni : id ∉ rmv q.ks id := fun hm => (mem_rmv.1 hm).2 rfl
      have hks : (mvE id e.par a n (mvE id 1 0 n q)).ks = q.ks := by
        show (if n = e.par then ins (rmv (if n = 1 then ins (rmv q.ks id) 0 id else rmv q.ks id) id) a id else rmv (if n = 1 then ins (rmv q.ks id) 0 id else rmv q.ks id) id) = q.ks
        have hin : rmv (if n = 1 then ins (rmv q.ks id) 0 id else rmv q.ks id) id = rmv q.ks id := by
          split
          · exact rmv_ins hni
          · exact rmv_none hni
        rw [hin]
        split
        · next hh =>
          subst hh
          rw [hP] at hn
          cases hn
          exact ins_rmv hnd ha
        · next hh => exact rmv_none (hnot hh)
      have hpr : (mvE id e.par a n (mvE id 1 0 n q)).par = q.par := by
        show (if n = id then e.par else if n = id then 1 else q.par) = q.par
        split
        · next hh =>
          subst hh
          rw [he] at hn
          cases hn
          rfl
        · rfl
      have e1 : mvE id e.par a n (mvE id 1 0 n q) = { q with par := (mvE id e.par a n (mvE id 1 0 n q)).par, ks := (mvE id e.par a n (mvE id 1 0 n q)).ks } := rfl
      rw [e1, hks, hpr]

end Go.Proofs.Ytecbgleidohjpab.N
