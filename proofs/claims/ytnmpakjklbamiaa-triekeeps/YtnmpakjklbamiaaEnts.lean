/- All entries of a trie: they rise, they are just what is there, and the nodes can be counted by them. -/
import Derived.Test.YtnmpakjklbamiaaTell
namespace Go.Proofs.Ytnmpakjklbamiaa

abbrev Rises (l : List Pr) : Prop := l.Pairwise fun a b => a.1 < b.1
theorem ents_val0 {t : T} (h : wfT 0 t) (hs : allS t) (n0 : Nat) (m : Int) (x : ByteArray) : (m, x) ∈ ents t 0 n0 ↔ m = n0 ∧ t.got = some (.string x) := by
  cases t with
  | nil => simp [ents, T.got]
  | val b v =>
    obtain ⟨s, rfl⟩ := hs
    simp only [ents, T.got, List.mem_singleton, Prod.mk.injEq, Option.some.injEq, Value.string.injEq]
    exact ⟨fun ⟨a, b⟩ => ⟨a, b.symm⟩, fun ⟨a, b⟩ => ⟨a, b.symm⟩⟩
  | node b k => exact absurd rfl (h b k)
theorem ents_mem : ∀ {L : Nat} {t : T}, wfT L t → allS t → ∀ (n0 : Nat) (m : Int) (x : ByteArray), (m, x) ∈ ents t L n0 ↔ ∃ k : Nat, k < 16 ^ L ∧ m = ((n0 + k : Nat) : Int) ∧ (findT L t k).got = some (.string x)
  | 0, t, h, hs, n0, m, x => by
    rw [ents_val0 h hs]
    constructor
    · rintro ⟨rfl, hg⟩
      exact ⟨0, by simp, rfl, hg⟩
    · rintro ⟨k, hk, rfl, hg⟩
      obtain rfl : k = 0 := by simpa using hk
      exact ⟨rfl, hg⟩
  | L + 1, t, h, hs, n0, m, x => by
    rw [ents_kids h, List.mem_flatMap]
    have hpos : 0 < 16 ^ L := Nat.pow_pos (by decide)
    have e16 : 16 ^ (L + 1) = 16 * 16 ^ L := by rw [Nat.pow_succ, Nat.mul_comm]
    constructor
    · rintro ⟨p, hp, hm⟩
      have hp16 := List.mem_range.1 hp
      obtain ⟨k, hk, rfl, hg⟩ := (ents_mem (h.kid p hp16) (hs.kid p hp16) _ m x).1 hm
      obtain ⟨e1, e2⟩ := prt_put L p k hp16
      rw [Nat.mod_eq_of_lt hk] at e1 e2
      refine ⟨p * 16 ^ L + k, ?_, by rw [Nat.add_assoc], ?_⟩
      · have : p * 16 ^ L ≤ 15 * 16 ^ L := Nat.mul_le_mul_right _ (by omega)
        omega
      · rw [findT, e1, find_mod (m' := k) (by rw [e2, Nat.mod_eq_of_lt hk])]
        exact hg
    · rintro ⟨k, hk, rfl, hg⟩
      refine ⟨prt k L, List.mem_range.2 (prt_lt _ _), ?_⟩
      rw [ents_mem (h.kid _ (prt_lt _ _)) (hs.kid _ (prt_lt _ _))]
      have hd : k / 16 ^ L < 16 := (Nat.div_lt_iff_lt_mul hpos).2 (by omega)
      have hpr : prt k L = k / 16 ^ L := Nat.mod_eq_of_lt hd
      refine ⟨k % 16 ^ L, Nat.mod_lt _ hpos, ?_, ?_⟩
      · rw [hpr, Nat.add_assoc, Nat.div_add_mod' k (16 ^ L)]
      · rw [find_mod (m' := k) (Nat.mod_mod _ _)]
        exact hg
theorem ents_rise : ∀ {L : Nat} {t : T}, wfT L t → allS t → ∀ n0, Rises (ents t L n0)
  | 0, t, h, hs, n0 => by
    cases t with
    | nil => exact List.Pairwise.nil
    | val b v =>
      obtain ⟨s, rfl⟩ := hs
      exact List.pairwise_singleton _ _
    | node b k => exact absurd rfl (h b k)
  | L + 1, t, h, hs, n0 => by
    rw [ents_kids h]
    refine List.pairwise_flatMap.2 ⟨fun p hp => ents_rise (h.kid p (List.mem_range.1 hp)) (hs.kid p (List.mem_range.1 hp)) _, ?_⟩
    refine List.Pairwise.imp_of_mem ?_ List.pairwise_lt_range
    rintro p q hp hq hpq ⟨a, x⟩ ha ⟨b, y⟩ hb
    have hp16 := List.mem_range.1 hp
    have hq16 := List.mem_range.1 hq
    obtain ⟨k, hk, rfl, _⟩ := (ents_mem (h.kid p hp16) (hs.kid p hp16) _ _ _).1 ha
    obtain ⟨k', _, rfl, _⟩ := (ents_mem (h.kid q hq16) (hs.kid q hq16) _ _ _).1 hb
    have h1 : (p + 1) * 16 ^ L ≤ q * 16 ^ L := Nat.mul_le_mul_right _ hpq
    rw [Nat.add_mul, Nat.one_mul] at h1
    show ((n0 + p * 16 ^ L + k : Nat) : Int) < ((n0 + q * 16 ^ L + k' : Nat) : Int)
    omega
theorem rise_ext : ∀ {l1 l2 : List Pr}, Rises l1 → Rises l2 → (∀ x, x ∈ l1 ↔ x ∈ l2) → l1 = l2
  | [], [], _, _, _ => rfl
  | [], b :: r, _, _, h => by have := (h b).2 (by simp); simp at this
  | a :: r, [], _, _, h => by have := (h a).1 (by simp); simp at this
  | a :: r, b :: r2, h1, h2, h => by
    have ha := List.pairwise_cons.1 h1
    have hb := List.pairwise_cons.1 h2
    have e : a = b := by
      rcases List.mem_cons.1 ((h a).1 (by simp)) with e | h3
      · exact e
      · rcases List.mem_cons.1 ((h b).2 (by simp)) with e | h4
        · exact e.symm
        · have := hb.1 a h3
          have := ha.1 b h4
          omega
    subst e
    congr 1
    refine rise_ext ha.2 hb.2 fun x => ⟨fun hx => ?_, fun hx => ?_⟩
    · rcases List.mem_cons.1 ((h x).1 (by simp [hx])) with e | h3
      · subst e
        have := ha.1 x hx
        omega
      · exact h3
    · rcases List.mem_cons.1 ((h x).2 (by simp [hx])) with e | h3
      · subst e
        have := hb.1 x hx
        omega
      · exact h3
theorem ents_get {t : T} (h : wfT 5 t) (hs : allS t) (m : Int) (x : ByteArray) : (m, x) ∈ ents t 5 0 ↔ getV t m = some (.string x) := by
  rw [ents_mem h hs]
  constructor
  · rintro ⟨k, hk, rfl, hg⟩
    rw [Nat.zero_add, getV_in (by simpa using hk)]
    exact hg
  · intro hg
    have hm : inR m := Classical.byContradiction fun hc => by rw [getV_out hc] at hg; cases hg
    obtain ⟨k, rfl, hk⟩ := inR_nat hm
    rw [getV_in hk] at hg
    exact ⟨k, by simpa using hk, by rw [Nat.zero_add], hg⟩
theorem ents_len : ∀ (t : T), allS t → ∀ L n0, (ents t L n0).length = szT t := by
  intro t
  induction t with
  | nil => intro _ _ _; rfl
  | val b v =>
    intro hs L n0
    obtain ⟨s, rfl⟩ := hs
    rfl
  | node b k ih =>
    intro hs L n0
    have key : ∀ n, n ≤ 16 → ((List.range n).flatMap fun p => ents (k p) (L - 1) (n0 + p * 16 ^ (L - 1))).length = sumTo (fun p => szT (k p)) n := by
      intro n
      induction n with
      | zero => intro _; rfl
      | succ n ihn =>
        intro hn
        rw [List.range_succ, List.flatMap_append, List.length_append, ihn (by omega), List.flatMap_singleton, ih n (hs n (by omega)), sumTo]
    exact key 16 (Nat.le_refl _)
/-- All values are strings where all that is there are. -/
theorem allS_of : ∀ {L : Nat} {t : T}, wfT L t → (∀ m v, (findT L t m).got = some v → ∃ s, v = .string s) → allS t
  | 0, t, h, hg => by
    cases t with
    | nil => trivial
    | val b v => exact hg 0 v rfl
    | node b k => exact absurd rfl (h b k)
  | L + 1, t, h, hg => by
    rcases wf_cases h with rfl | ⟨b, k, rfl, hk⟩
    · trivial
    · intro p hp
      refine allS_of (hk p hp) fun m v hv => hg (p * 16 ^ L + m % 16 ^ L) v ?_
      obtain ⟨e1, e2⟩ := prt_put L p m hp
      show (findT L (k (prt (p * 16 ^ L + m % 16 ^ L) L)) _).got = some v
      rw [e1, find_mod (m' := m) e2]
      exact hv
theorem allS_get {t : T} (h : wfT 5 t) (hg : ∀ m v, getV t m = some v → ∃ s, v = .string s) : allS t := by
  refine allS_of h fun m v hv => hg ((m % 1048576 : Nat) : Int) v ?_
  rw [getV_in (Nat.mod_lt _ (by decide)), find_mod (m' := m) (by rw [show (16 : Nat) ^ 5 = 1048576 from rfl, Nat.mod_mod])]
  exact hv

/-- How often the beginning of a number, shortened by j parts, differs from the one ahead. -/
def runs (j : Nat) : Int → List Pr → Nat
  | _, [] => 0
  | last, p :: r => (if p.1 / 16 ^ j ≠ last then 1 else 0) + runs j (p.1 / 16 ^ j) r
/-- The nodes of level j, in a tree of level L. -/
def atL (j : Nat) : Nat → T → Nat
  | 0, _ => 0
  | L + 1, .node _ k => if j = L + 1 then 1 else sumTo (fun p => atL j L (k p)) 16
  | _ + 1, _ => 0
theorem atL_nil (j : Nat) : ∀ L, atL j L .nil = 0
  | 0 => rfl
  | _ + 1 => rfl
def sumL (t : T) (L : Nat) : Nat → Nat
  | 0 => 0
  | j + 1 => sumL t L j + atL (j + 1) L t

def sumFrom (f : Nat → Nat) : Nat → Nat → Nat
  | _, 0 => 0
  | i, m + 1 => f i + sumFrom f (i + 1) m
theorem sumFrom_eq (f : Nat → Nat) : ∀ m i, sumTo f (i + m) = sumTo f i + sumFrom f i m
  | 0, i => by simp [sumFrom]
  | m + 1, i => by
    have := sumFrom_eq f m (i + 1)
    rw [show i + (m + 1) = i + 1 + m by omega, this, sumFrom, sumTo]
    omega
theorem sumTo_add (f g : Nat → Nat) : ∀ n, sumTo (fun p => f p + g p) n = sumTo f n + sumTo g n
  | 0 => rfl
  | n + 1 => by
    rw [sumTo, sumTo, sumTo, sumTo_add f g n]
    omega
theorem sumL_swap (k : Nat → T) (L : Nat) : ∀ J, J ≤ L → ∀ b, sumTo (fun p => sumL (k p) L J) 16 = sumL (.node b k) (L + 1) J
  | 0, _, _ => by rw [show (fun p => sumL (k p) L 0) = fun _ => 0 from rfl, sumTo_zero]; rfl
  | J + 1, h, b => by
    have e : (fun p => sumL (k p) L (J + 1)) = fun p => sumL (k p) L J + atL (J + 1) L (k p) := rfl
    rw [e, sumTo_add, sumL_swap k L J (by omega) b, sumL, atL, if_neg (by omega)]
theorem cnt_at : ∀ {L : Nat} {t : T}, wfT L t → cntT t = sumL t L L
  | 0, t, h => by rw [wf0_cnt h]; rfl
  | L + 1, t, h => by
    rcases wf_cases h with rfl | ⟨b, k, rfl, hk⟩
    · have : ∀ J, sumL .nil (L + 1) J = 0 := fun J => by
        induction J with
        | zero => rfl
        | succ J ih => rw [sumL, ih, atL_nil]
      rw [this]
      rfl
    · rw [cntT, sumTo_congr 16 (g := fun p => sumL (k p) L L) fun p hp => cnt_at (hk p hp), sumL_swap k L L (Nat.le_refl _) b, sumL, atL, if_pos rfl]
      omega
theorem runs_same (j : Nat) (c : Int) : ∀ (l rest : List Pr), (∀ p ∈ l, p.1 / 16 ^ j = c) → runs j c (l ++ rest) = runs j c rest
  | [], _, _ => rfl
  | p :: l, rest, h => by
    have h1 := h p (by simp)
    rw [List.cons_append, runs, h1, if_neg (by simp), Nat.zero_add]
    exact runs_same j c l rest fun q hq => h q (by simp [hq])
theorem runs_block (j : Nat) (c last : Int) (l rest : List Pr) (hne : l ≠ []) (h : ∀ p ∈ l, p.1 / 16 ^ j = c) (hl : last ≠ c) : runs j last (l ++ rest) = 1 + runs j c rest := by
  cases l with
  | nil => exact absurd rfl hne
  | cons p l =>
    have h1 := h p (by simp)
    rw [List.cons_append, runs, h1, if_pos (fun e => hl e.symm), runs_same j c l rest fun q hq => h q (by simp [hq])]
theorem quot_nat (N j : Nat) : ((N : Nat) : Int) / 16 ^ j = ((N / 16 ^ j : Nat) : Int) := by
  rw [Int.natCast_ediv]
  norm_cast
/-- The lists of several kids one behind the other. -/
theorem flat_runs (j L : Nat) (hj : j ≤ L) (k : Nat → T) (c : Nat)
    (hk : ∀ p, p < 16 → ∀ (c : Nat) (last : Int) rest, last < ((c * 16 ^ L / 16 ^ j : Nat) : Int) → ∃ last', last' < (((c + 1) * 16 ^ L / 16 ^ j : Nat) : Int) ∧ runs j last (ents (k p) L (c * 16 ^ L) ++ rest) = atL j L (k p) + runs j last' rest) :
    ∀ (m i : Nat), i + m ≤ 16 → ∀ (last : Int) rest, last < (((c * 16 + i) * 16 ^ L / 16 ^ j : Nat) : Int) → ∃ last', last' < (((c * 16 + (i + m)) * 16 ^ L / 16 ^ j : Nat) : Int) ∧
      runs j last (((List.range' i m).flatMap fun p => ents (k p) L ((c * 16 + p) * 16 ^ L)) ++ rest) = sumFrom (fun p => atL j L (k p)) i m + runs j last' rest
  | 0, i, _, last, rest, h => ⟨last, h, by simp [sumFrom]⟩
  | m + 1, i, hi, last, rest, h => by
    rw [List.range'_succ, List.flatMap_cons, List.append_assoc]
    obtain ⟨l1, h1, e1⟩ := hk i (by omega) (c * 16 + i) last (((List.range' (i + 1) m).flatMap fun p => ents (k p) L ((c * 16 + p) * 16 ^ L)) ++ rest) h
    obtain ⟨l2, h2, e2⟩ := flat_runs j L hj k c hk m (i + 1) (by omega) l1 rest h1
    refine ⟨l2, by rw [show c * 16 + (i + (m + 1)) = c * 16 + (i + 1 + m) by omega]; exact h2, ?_⟩
    rw [e1, e2, sumFrom]
    omega
theorem ents_shift {L : Nat} {t : T} (h : wfT (L + 1) t) (c : Nat) : ents t (L + 1) (c * 16 ^ (L + 1)) = (List.range' 0 16).flatMap fun p => ents (t.kid p) L ((c * 16 + p) * 16 ^ L) := by
  rw [ents_kids h, List.range_eq_range']
  congr 1
  funext p
  rw [Nat.add_mul, Nat.pow_succ, Nat.mul_assoc, Nat.mul_comm 16 (16 ^ L)]
theorem runs_ents (j : Nat) (hj : 1 ≤ j) : ∀ {L : Nat} {t : T}, j ≤ L → wfT L t → allS t → prT t → ∀ (c : Nat) (last : Int) rest, last < ((c * 16 ^ L / 16 ^ j : Nat) : Int) →
    ∃ last', last' < (((c + 1) * 16 ^ L / 16 ^ j : Nat) : Int) ∧ runs j last (ents t L (c * 16 ^ L) ++ rest) = atL j L t + runs j last' rest
  | 0, t, hL, _, _, _, _, _, _, _ => absurd hL (by omega)
  | L + 1, t, hL, h, hs, hp, c, last, rest, hl => by
    have hpos : 0 < 16 ^ j := Nat.pow_pos (by decide)
    have hmono : (((c * 16 ^ (L + 1) / 16 ^ j : Nat)) : Int) ≤ (((c + 1) * 16 ^ (L + 1) / 16 ^ j : Nat) : Int) := by
      have := Nat.div_le_div_right (c := 16 ^ j) (Nat.mul_le_mul_right (16 ^ (L + 1)) (show c ≤ c + 1 by omega))
      omega
    rcases wf_cases h with rfl | ⟨b, k, rfl, hk⟩
    · exact ⟨last, by omega, by rw [atL_nil, Nat.zero_add]; rfl⟩
    · by_cases e : j = L + 1
      · subst e
        have hc : c * 16 ^ (L + 1) / 16 ^ (L + 1) = c := Nat.mul_div_cancel _ hpos
        have hc1 : (c + 1) * 16 ^ (L + 1) / 16 ^ (L + 1) = c + 1 := Nat.mul_div_cancel _ hpos
        rw [hc] at hl
        have hall : ∀ p ∈ ents (.node b k) (L + 1) (c * 16 ^ (L + 1)), p.1 / 16 ^ (L + 1) = (c : Int) := by
          rintro ⟨m, x⟩ hm
          obtain ⟨q, hq, rfl, _⟩ := (ents_mem h hs _ _ _).1 hm
          show (((c * 16 ^ (L + 1) + q : Nat)) : Int) / 16 ^ (L + 1) = c
          rw [quot_nat, Nat.mul_comm c, Nat.mul_add_div hpos, Nat.div_eq_of_lt hq, Nat.add_zero]
        have hne : ents (.node b k) (L + 1) (c * 16 ^ (L + 1)) ≠ [] := by
          obtain ⟨m, hm⟩ := pr_val h hp (fun e => by cases e)
          intro he
          cases hv : findT (L + 1) (.node b k) m with
          | nil => rw [hv] at hm; cases hm
          | node b' k' => rw [hv] at hm; cases hm
          | val b' v =>
            have hsv : allS (findT (L + 1) (.node b k) m) := by
              have : ∀ (L : Nat) (t : T), allS t → allS (findT L t m) := fun L => by
                induction L with
                | zero => intro t ht; exact ht
                | succ L ih => intro t ht; exact ih _ (ht.kid _ (prt_lt _ _))
              exact this _ _ hs
            rw [hv] at hsv
            obtain ⟨s, rfl⟩ := hsv
            have := (ents_mem h hs (c * 16 ^ (L + 1)) _ s).2 ⟨m % 16 ^ (L + 1), Nat.mod_lt _ hpos, rfl, by rw [find_mod (m' := m) (Nat.mod_mod _ _), hv]; rfl⟩
            rw [he] at this
            simp at this
        refine ⟨(c : Int), by rw [hc1]; omega, ?_⟩
        rw [runs_block (L + 1) c last _ rest hne hall (by omega), atL, if_pos rfl]
      · have hjL : j ≤ L := by omega
        rw [ents_shift h]
        have hl' : last < (((c * 16 + 0) * 16 ^ L / 16 ^ j : Nat) : Int) := by
          rw [Nat.add_zero, Nat.mul_assoc, Nat.mul_comm 16 (16 ^ L), ← Nat.pow_succ]
          exact hl
        obtain ⟨l2, h2, e2⟩ := flat_runs j L hjL k c (fun p hp' c last rest hl => runs_ents j hj hjL (hk p hp') (hs p hp') (hp.2 p hp') c last rest hl) 16 0 (by omega) last rest hl'
        refine ⟨l2, ?_, ?_⟩
        · rw [show c * 16 + (0 + 16) = (c + 1) * 16 by omega, Nat.mul_assoc, Nat.mul_comm 16 (16 ^ L), ← Nat.pow_succ] at h2
          exact h2
        · have := sumFrom_eq (fun p => atL j L (k p)) 16 0
          rw [atL, if_neg e]
          rw [Nat.zero_add] at this
          rw [this]
          show runs j last _ = _
          rw [show sumTo (fun p => atL j L (k p)) 0 = 0 from rfl, Nat.zero_add]
          exact e2
/-- How many nodes there are, by the entries alone. -/
def nodesZ (l : List Pr) : Nat := 1 + runs 4 (-1) l + runs 3 (-1) l + runs 2 (-1) l + runs 1 (-1) l
theorem root_runs (j : Nat) (hj : 1 ≤ j) (h4 : j ≤ 4) {b : Nat} {k : Nat → T} (h : wfT 5 (.node b k)) (hs : allS (.node b k)) (hp : prR (.node b k)) : runs j (-1) (ents (.node b k) 5 0) = sumTo (fun p => atL j 4 (k p)) 16 := by
  have e0 : ents (.node b k) 5 0 = (List.range' 0 16).flatMap fun p => ents (k p) 4 ((0 * 16 + p) * 16 ^ 4) := by
    have := ents_shift h 0
    rw [Nat.zero_mul] at this
    exact this
  obtain ⟨l2, _, e2⟩ := flat_runs j 4 h4 k 0 (fun p hp' c last rest hl => runs_ents j hj h4 (h p hp') (hs p hp') (hp p hp') c last rest hl) 16 0 (by omega) (-1) [] (Int.lt_of_lt_of_le (by decide) (Int.natCast_nonneg _))
  have := sumFrom_eq (fun p => atL j 4 (k p)) 16 0
  rw [Nat.zero_add] at this
  rw [this, show sumTo (fun p => atL j 4 (k p)) 0 = 0 from rfl, Nat.zero_add, e0]
  rw [List.append_nil] at e2
  rw [e2]
  rfl
theorem nodes_ents {t : T} (hr : rootN t) (h : wfT 5 t) (hs : allS t) (hp : prR t) : nodesZ (ents t 5 0) = cntT t := by
  obtain ⟨b, k, rfl⟩ := hr
  unfold nodesZ
  rw [root_runs 4 (by omega) (by omega) h hs hp, root_runs 3 (by omega) (by omega) h hs hp, root_runs 2 (by omega) (by omega) h hs hp, root_runs 1 (by omega) (by omega) h hs hp,
    cntT, sumTo_congr 16 (g := fun p => sumL (k p) 4 4) fun p hp => cnt_at (h p hp), sumL_swap k 4 4 (Nat.le_refl _) b]
  simp only [sumL, atL]
  simp only [show ¬ (0 + 1 = 4 + 1) by decide, show ¬ (1 + 1 = 4 + 1) by decide, show ¬ (2 + 1 = 4 + 1) by decide, show ¬ (3 + 1 = 4 + 1) by decide, if_false, Nat.reduceAdd, Nat.zero_add]
  omega

end Go.Proofs.Ytnmpakjklbamiaa
