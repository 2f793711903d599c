/- Names of entries, sorted, each once; the map of winners. -/
import Derived.Test.YtmpppijgjbfolaaCOm
import Derived.Sort.KeysCollected
import Derived.Maps.OwnSet
import Derived.Sort.Walk0
namespace Go.Proofs.Ytmpppijgjbfolaa.C
open Go.RowKit Go.Maps
set_option maxRecDepth 100000

abbrev Ky := List UInt8
def ky (e : E8) : Ky := e.n.data.toList
def kyB (k : Ky) (x : E8) : Bool := decide (ky x = k)
theorem nmd_ky (n : ByteArray) : nmd n = kyB n.data.toList := by
  funext x
  unfold nmd kyB ky
  rw [ByteArray.toList_eq, ByteArray.toList_eq, Bool.eq_iff_iff, beq_iff_eq, decide_eq_true_iff]
theorem lt_irr (a : Ky) : ¬ a < a := List.lt_irrefl a
theorem lt_tot {a b : Ky} (h : ¬ a < b) : b < a ∨ b = a := by
  have h1 : b ≤ a := List.not_lt.1 h
  by_cases e : b = a
  · exact .inr e
  · refine .inl (Decidable.byContradiction fun h2 => e (List.le_antisymm h1 (List.not_lt.1 h2)))
theorem lt_tr {a b c : Ky} (h : a < b) (k : b < c) : a < c := List.lt_trans h k
/-- Strictly rising. -/
def Up (N : List Ky) : Prop := N.Pairwise (· < ·)
/-- One more name, as the document's loop has it. -/
def stepN (x : Ky) (s : List Ky × Bool) (n : Ky) : List Ky × Bool :=
  ((if (!decide (n < x) && !s.2) = true then s.1 ++ [x] else s.1) ++ (if n ≠ x then [n] else []), s.2 || !decide (n < x))
def insN (x : Ky) (N : List Ky) : List Ky := if (N.foldl (stepN x) ([], false)).2 = true then (N.foldl (stepN x) ([], false)).1 else (N.foldl (stepN x) ([], false)).1 ++ [x]
def namesO (l : List E8) : List Ky := l.foldl (fun N e => insN (ky e) N) []
theorem stepN_true (x : Ky) : ∀ (N acc : List Ky), N.foldl (stepN x) (acc, true) = (acc ++ N.filter (fun n => decide (n ≠ x)), true)
  | [], acc => by simp
  | n :: r, acc => by
    rw [List.foldl_cons]
    have : stepN x (acc, true) n = (acc ++ (if n ≠ x then [n] else []), true) := by simp [stepN]
    rw [this, stepN_true x r]
    by_cases h : n = x <;> simp [h]
theorem ins_main (x : Ky) : ∀ (N acc : List Ky), Up N → ∃ T, (if (N.foldl (stepN x) (acc, false)).2 = true then (N.foldl (stepN x) (acc, false)).1 else (N.foldl (stepN x) (acc, false)).1 ++ [x]) = acc ++ T ∧ Up T ∧ ∀ k, k ∈ T ↔ k ∈ N ∨ k = x
  | [], acc, _ => ⟨[x], by simp, List.pairwise_singleton _ _, fun k => by simp⟩
  | n :: r, acc, h => by
    obtain ⟨h1, h2⟩ := List.pairwise_cons.1 h
    rw [List.foldl_cons]
    by_cases hlt : n < x
    · have hne : n ≠ x := fun e => lt_irr x (e ▸ hlt)
      have hs : stepN x (acc, false) n = (acc ++ [n], false) := by simp [stepN, hlt, hne]
      rw [hs]
      obtain ⟨T, e1, e2, e3⟩ := ins_main x r (acc ++ [n]) h2
      refine ⟨n :: T, by rw [e1]; simp, List.Pairwise.cons (fun k hk => ?_) e2, fun k => ?_⟩
      · rcases (e3 k).1 hk with hk | rfl
        · exact h1 k hk
        · exact hlt
      · rw [List.mem_cons, e3 k, List.mem_cons, or_assoc]
    · have hs : stepN x (acc, false) n = (acc ++ [x] ++ (if n ≠ x then [n] else []), true) := by simp [stepN, hlt]
      rw [hs, stepN_true]
      refine ⟨x :: (n :: r).filter (fun n => decide (n ≠ x)), ?_, ?_, fun k => ?_⟩
      · by_cases e : n = x <;> simp [e]
      · refine List.Pairwise.cons (fun k hk => ?_) (h.filter _)
        obtain ⟨hk1, hk2⟩ := List.mem_filter.1 hk
        rw [decide_eq_true_iff] at hk2
        rcases lt_tot hlt with hx | rfl
        · rcases List.mem_cons.1 hk1 with rfl | hk1
          · exact hx
          · exact lt_tr hx (h1 k hk1)
        · rcases List.mem_cons.1 hk1 with rfl | hk1
          · exact absurd rfl hk2
          · exact h1 k hk1
      · rw [List.mem_cons, List.mem_filter, decide_eq_true_iff]
        by_cases e : k = x
        · simp [e]
        · simp [e]
theorem insN_up {x : Ky} {N : List Ky} (h : Up N) : Up (insN x N) ∧ ∀ k, k ∈ insN x N ↔ k ∈ N ∨ k = x := by
  obtain ⟨T, e1, e2, e3⟩ := ins_main x N [] h
  unfold insN
  rw [e1]
  exact ⟨e2, e3⟩
theorem names_go : ∀ (l : List E8) (N : List Ky), Up N → Up (l.foldl (fun N e => insN (ky e) N) N) ∧ ∀ k, k ∈ l.foldl (fun N e => insN (ky e) N) N ↔ k ∈ N ∨ ∃ e ∈ l, ky e = k
  | [], N, h => ⟨h, fun k => by simp⟩
  | e :: r, N, h => by
    obtain ⟨h1, h2⟩ := insN_up (x := ky e) h
    obtain ⟨h3, h4⟩ := names_go r _ h1
    refine ⟨h3, fun k => ?_⟩
    rw [List.foldl_cons, h4 k, h2 k]
    constructor
    · rintro ((h | rfl) | ⟨e', h, rfl⟩)
      · exact .inl h
      · exact .inr ⟨e, by simp, rfl⟩
      · exact .inr ⟨e', by simp [h], rfl⟩
    · rintro (h | ⟨e', h, rfl⟩)
      · exact .inl (.inl h)
      · rcases List.mem_cons.1 h with rfl | h
        · exact .inl (.inr rfl)
        · exact .inr ⟨e', h, rfl⟩
theorem names_up (l : List E8) : Up (namesO l) ∧ ∀ k, k ∈ namesO l ↔ ∃ e ∈ l, ky e = k := by
  obtain ⟨h1, h2⟩ := names_go l [] List.Pairwise.nil
  exact ⟨h1, fun k => by rw [namesO, h2 k]; simp⟩
theorem Up.nodup {N : List Ky} (h : Up N) : N.Nodup := by
  unfold List.Nodup
  refine List.Pairwise.imp (fun {a b} hab => ?_) h
  intro e
  rw [e] at hab
  exact lt_irr b hab
theorem Up.sort {N ss : List Ky} (h : Up N) (hp : ss.Perm N) : ss.mergeSort leB = N := by
  rw [mergeSort_of_perm hp]
  refine List.mergeSort_of_pairwise (h.imp fun {a b} hab => ?_)
  simp only [leB, decide_eq_true_eq]
  exact List.le_of_lt hab

/-- How an entry reads. -/
def R8L : List Value → Option (DataW E8 × List MemPlace)
  | [.string n, .string v, .int .i64 o, .bool im, .int .i64 a, .int .i64 b, .int .i64 c, .int .i64 k] => some (.held ⟨n, v, o, im, a, b, c, k⟩, [])
  | _ => none
def R8 : Value → Option (DataW E8 × List MemPlace)
  | .agg cs => R8L cs.toList
  | _ => none
theorem R8_val (e : E8) : R8 e.val = some (.held e, []) := rfl
theorem R8L_inv {cs : List Value} {e : E8} {ps : List MemPlace} (h : R8L cs = some (.held e, ps)) : cs = c8 e := by
  unfold R8L at h
  split at h
  · simp only [Option.some.injEq, Prod.mk.injEq, DataW.held.injEq] at h
    rw [← h.1]
    rfl
  · cases h
theorem R8_inv {v : Value} {e : E8} {ps : List MemPlace} (h : R8 v = some (.held e, ps)) : v = e.val := by
  cases v <;> first | (simp [R8] at h; done) | skip
  rename_i cs
  have h2 := R8L_inv h
  have h3 : cs = (c8 e).toArray := by rw [← h2]
  rw [h3]
  rfl
def mStep (D : DataW E8) (e : E8) : DataW E8 := if Maps.has D (.string (ky e)) = true then D else D.put (.string (ky e)) (.held e)
def mOf (es : List E8) : DataW E8 := es.foldl mStep (.map [])
theorem mOf_snoc (es : List E8) (e : E8) : mOf (es ++ [e]) = mStep (mOf es) e := by simp [mOf, List.foldl_append]
theorem mStep_map {D : DataW E8} (h : IsMap D) (e : E8) : IsMap (mStep D e) := by
  unfold mStep
  split
  · exact h
  · exact h.put _ _
theorem mStep_has {D : DataW E8} (h : IsMap D) (e : E8) (k : Ky) : Maps.has (mStep D e) (.string k) = (Maps.has D (.string k) || kyB k e) := by
  unfold mStep kyB
  by_cases hk : ky e = k
  · subst hk
    cases hh : Maps.has D (.string (ky e)) with
    | true => simp [hh]
    | false => simp [has_put_same h (k := .string (ky e)) trivial]
  · split
    · simp [hk]
    · rw [has_put_other (fun e2 => hk (by injection e2 with e2; exact e2.symm))]
      simp [hk]
theorem mStep_at {D : DataW E8} (h : IsMap D) (e : E8) (k : Ky) (z : DataW E8) : (mStep D e).atKey (.string k) z = if Maps.has D (.string k) = true then D.atKey (.string k) z else if kyB k e = true then .held e else z := by
  unfold mStep kyB
  by_cases hk : ky e = k
  · subst hk
    cases hh : Maps.has D (.string (ky e)) with
    | true => simp
    | false => simp [atKey_put_same h (k := .string (ky e)) trivial]
  · have hne : (Lit.string k) ≠ Lit.string (ky e) := fun e2 => hk (by injection e2 with e2; exact e2.symm)
    have e3 : (if Maps.has D (.string (ky e)) = true then D else D.put (.string (ky e)) (.held e)).atKey (.string k) z = D.atKey (.string k) z := by
      split
      · rfl
      · rw [atKey_put_other hne]
    rw [e3]
    cases hh : Maps.has D (.string k) with
    | true => simp
    | false => simp [hk, atKey_of_not_has hh]
theorem mOf_go : ∀ (es : List E8) (D : DataW E8), IsMap D → IsMap (es.foldl mStep D) ∧ ∀ k, Maps.has (es.foldl mStep D) (.string k) = (Maps.has D (.string k) || es.any (kyB k)) ∧ ∀ z, (es.foldl mStep D).atKey (.string k) z = if Maps.has D (.string k) = true then D.atKey (.string k) z else match es.find? (kyB k) with | some e => .held e | none => z
  | [], D, h => ⟨h, fun k => ⟨by simp, fun z => by
      cases hh : Maps.has D (.string k) with
      | true => simp
      | false => simp [atKey_of_not_has hh]⟩⟩
  | e :: r, D, h => by
    obtain ⟨h1, h2⟩ := mOf_go r _ (mStep_map h e)
    refine ⟨h1, fun k => ⟨?_, fun z => ?_⟩⟩
    · rw [List.foldl_cons, (h2 k).1, mStep_has h, List.any_cons, Bool.or_assoc]
    · rw [List.foldl_cons, (h2 k).2 z, mStep_has h, mStep_at h]
      cases hh : Maps.has D (.string k) with
      | true => simp
      | false =>
        cases hb : kyB k e with
        | true => simp [hb]
        | false => simp [hb]
theorem mOf_has (es : List E8) (k : Ky) : Maps.has (mOf es) (.string k) = es.any (kyB k) := by
  have := ((mOf_go es (.map []) isMap_empty).2 k).1
  rw [mOf, this]
  simp [Maps.has]
theorem mOf_at (es : List E8) (k : Ky) : (mOf es).atKey (.string k) (.held zE) = .held ((es.find? (kyB k)).getD zE) := by
  have := ((mOf_go es (.map []) isMap_empty).2 k).2 (.held zE)
  rw [mOf, this]
  have e : Maps.has (.map [] : DataW E8) (.string k) = false := rfl
  rw [e]
  cases es.find? (kyB k) <;> rfl
theorem winG : ∀ (L : List R9) (a : R9), (a :: L).Pairwise (fun x y => x.2 < y.2) → ∃ t, winF (L.map (·.1)) (some a.1) = some t.1 ∧ t ∈ a :: L ∧ ∀ x ∈ a :: L, bt x t = false
  | [], a, _ => ⟨a, rfl, by simp, fun x hx => by
    simp at hx
    rw [hx]
    exact bt_ord.irr a⟩
  | y :: r, a, h => by
    obtain ⟨ha, hr⟩ := List.pairwise_cons.1 h
    have hay := ha y (by simp)
    cases hl : lessE y.1 a.1 with
    | true =>
      obtain ⟨t, h1, h2, h3⟩ := winG r a (List.Pairwise.cons (fun x hx => ha x (by simp [hx])) (List.pairwise_cons.1 hr).2)
      refine ⟨t, by simp only [List.map_cons, winF, hl, if_true]; exact h1, ?_, fun x hx => ?_⟩
      · rcases List.mem_cons.1 h2 with h2 | h2
        · simp [h2]
        · simp [h2]
      · rcases List.mem_cons.1 hx with e | hx
        · rw [e]; exact h3 a (by simp)
        · rcases List.mem_cons.1 hx with e | hx
          · rw [e]
            have hya : bt y a = false := by
              rw [false_iff (bt_iff _ _)]
              rw [lessE_iff] at hl
              rw [lessE_iff, lessE_iff]
              omega
            exact bt_ord.neg _ _ _ (h3 a (by simp)) hya
          · exact h3 _ (by simp [hx])
    | false =>
      obtain ⟨t, h1, h2, h3⟩ := winG r y hr
      refine ⟨t, by simp only [List.map_cons, winF, hl, Bool.false_eq_true, if_false]; exact h1, List.mem_cons_of_mem _ h2, fun x hx => ?_⟩
      rcases List.mem_cons.1 hx with e | hx
      · rw [e]
        have hay : bt a y = false := by
          rw [false_iff (bt_iff _ _)]
          have hl := (false_iff (lessE_iff _ _)).1 hl
          rw [lessE_iff, lessE_iff]
          omega
        exact bt_ord.neg _ _ _ (h3 y (by simp)) hay
      · exact h3 x hx
theorem tagF_rising : ∀ (l : List E8) (i : Nat), (tagF l i).Pairwise fun x y => x.2 < y.2
  | [], _ => List.Pairwise.nil
  | x :: r, i => by
    refine List.Pairwise.cons (fun y hy => ?_) (tagF_rising r (i + 1))
    have := tagF_mem r (i + 1) y hy
    dsimp only
    omega
/-- The first of a name in falling order is its winner. -/
theorem Fall.find {l es : List E8} (h : Fall (tagF l 0) es) (p : E8 → Bool) : es.find? p = winF (l.filter p) none := by
  obtain ⟨ys, rfl, hp, hw⟩ := h
  have hq : ((tagF l 0).filter (fun r => p r.1)).map (·.1) = l.filter p := by
    conv => rhs; rw [← tagF_fst l 0]
    rw [List.filter_map]
    rfl
  have hpf := hp.filter (fun r => p r.1)
  have hrise := (tagF_rising l 0).filter (fun r => p r.1)
  rw [List.find?_map]
  have hc : (p ∘ fun x : R9 => x.1) = fun r => p r.1 := rfl
  rw [hc]
  cases hf : ys.find? (fun r => p r.1) with
  | none =>
    have hn : ys.filter (fun r => p r.1) = [] := by
      rw [List.filter_eq_nil_iff]
      exact fun a ha => by simpa using List.find?_eq_none.1 hf a ha
    rw [hn] at hpf
    have := hpf.symm.eq_nil
    rw [← hq, this]
    rfl
  | some y =>
    obtain ⟨hy, us, bs, e, has⟩ := List.find?_eq_some_iff_append.1 hf
    have ek : ys.filter (fun r => p r.1) = y :: bs.filter (fun r => p r.1) := by
      rw [e, List.filter_append, List.filter_cons_of_pos (p := fun r : R9 => p r.1) hy]
      have : us.filter (fun r => p r.1) = [] := List.filter_eq_nil_iff.2 fun a ha => by simpa using has a ha
      rw [this]
      rfl
    rw [ek] at hpf
    have htop : ∀ x ∈ y :: bs.filter (fun r => p r.1), bt x y = false := by
      intro x hx
      rcases List.mem_cons.1 hx with rfl | hx
      · exact bt_ord.irr _
      · rw [e] at hw
        exact (List.pairwise_cons.1 (List.pairwise_append.1 hw).2.1).1 x (List.mem_filter.1 hx).1
    rw [← hq]
    revert hpf hrise
    generalize (tagF l 0).filter (fun r => p r.1) = L
    intro hrise hpf
    cases L with
    | nil => exact absurd hpf.length_eq (by simp)
    | cons a r =>
      obtain ⟨t, h1, h2, h3⟩ := winG r a hrise
      have hwin : winF ((a :: r).map (·.1)) none = some t.1 := h1
      rw [hwin]
      have hyL : y ∈ a :: r := hpf.mem_iff.1 (by simp)
      have htK := hpf.mem_iff.2 h2
      have e2 := bt_same (h3 y hyL) (htop t htK)
      have : y = t := by
        obtain ⟨i, hi, ei⟩ := List.getElem_of_mem hyL
        obtain ⟨j, hj, ej⟩ := List.getElem_of_mem h2
        rcases Nat.lt_trichotomy i j with hij | hij | hij
        · have := (List.pairwise_iff_getElem.1 hrise) i j hi hj hij
          rw [ei, ej] at this
          omega
        · subst hij
          rw [← ei, ← ej]
        · have := (List.pairwise_iff_getElem.1 hrise) j i hj hi hij
          rw [ei, ej] at this
          omega
      rw [this]
      rfl
/-- The winner of a name. -/
def winK (l : List E8) (k : Ky) : E8 := (winF (l.filter (kyB k)) none).getD zE
theorem Fall.atKey {l es : List E8} (h : Fall (tagF l 0) es) (k : Ky) : (mOf es).atKey (.string k) (.held zE) = .held (winK l k) := by
  rw [mOf_at, h.find]
  rfl
/-- The keys of the map of all are the names of all. -/
theorem Fall.keys {l es : List E8} (h : Fall (tagF l 0) es) {P : Program} {t : TypeId} (K : Keyed P t) (ht : P.underlying t = some .string) {w : World} {b n : Nat} (hown : w.ownsMap P t R8 b n (mOf es)) : (namesO l).Perm (strKeys (mOf es)) := by
  obtain ⟨h1, h2⟩ := names_up l
  obtain ⟨xs, hD, hpw, _⟩ := hown.entries K
  obtain ⟨xs', hD', hko⟩ := hown.keysOf
  obtain rfl : xs = xs' := by rw [hD] at hD'; simpa using hD'
  have hmem : ∀ k, k ∈ namesO l ↔ Maps.has (mOf es) (.string k) = true := fun k => by
    rw [h2 k, mOf_has, List.any_eq_true]
    obtain ⟨ys, rfl, hp, _⟩ := h
    constructor
    · rintro ⟨e, he, hk⟩
      have he2 : e ∈ (tagF l 0).map (·.1) := by rw [tagF_fst]; exact he
      obtain ⟨r, hr, rfl⟩ := List.mem_map.1 he2
      exact ⟨r.1, List.mem_map.2 ⟨r, hp.mem_iff.2 hr, rfl⟩, by simp [kyB, hk]⟩
    · rintro ⟨e, he, hk⟩
      obtain ⟨r, hr, rfl⟩ := List.mem_map.1 he
      have he2 : r.1 ∈ (tagF l 0).map (·.1) := List.mem_map.2 ⟨r, hp.mem_iff.1 hr, rfl⟩
      rw [tagF_fst] at he2
      exact ⟨r.1, he2, by simpa [kyB] using hk⟩
  rw [hD] at hmem ⊢
  exact perm_strKeys hpw (fun p hp => by obtain ⟨v, hv⟩ := hko p hp; obtain ⟨x, _, hx, _⟩ := Maps.keyOf_str ht hv; exact ⟨x, hx⟩) h1.nodup hmem
end Go.Proofs.Ytmpppijgjbfolaa.C
