/- What put and drop do to a tree: its shape, its counts, what is found. Drops, fresh nodes, trees without empty nodes. A trie in memory. -/
import Derived.Test.YtdiljkmlneeboaaGreatModel
namespace Go.Proofs.YtdiljkmlneeboaaGreat

theorem sumTo_upd {g h : Nat → Nat} {p : Nat} : ∀ n, (∀ q, q < n → q ≠ p → g q = h q) → p < n → sumTo g n + h p = sumTo h n + g p
  | 0, _, hp => absurd hp (by omega)
  | n + 1, hq, hp => by
    rw [sumTo, sumTo]
    by_cases e : p = n
    · subst e
      rw [sumTo_congr p fun q h => hq q (by omega) (by omega)]
      omega
    · have := sumTo_upd n (fun q h => hq q (by omega)) (by omega)
      have := hq n (by omega) (fun e' => e e'.symm)
      omega
theorem upd_same (t : T) (p : Nat) (x : T) : t.upd p x p = x := by unfold T.upd; rw [if_pos rfl]
theorem upd_other (t : T) {p q : Nat} (x : T) (h : q ≠ p) : t.upd p x q = t.kid q := by unfold T.upd; rw [if_neg h]
theorem sum_upd (f : T → Nat) (t : T) (p : Nat) (hp : p < 16) (x : T) : sumTo (fun q => f (t.upd p x q)) 16 + f (t.kid p) = sumTo (fun q => f (t.kid q)) 16 + f x := by
  have := sumTo_upd (g := fun q => f (t.upd p x q)) (h := fun q => f (t.kid q)) (p := p) 16 (fun q _ h => by show f _ = f _; rw [upd_other t x h]) hp
  simpa only [upd_same] using this
theorem sumTo_zero (n : Nat) : sumTo (fun _ => 0) n = 0 := by rw [sumTo_const]; omega
def T.isVal : T → Bool
  | .val _ _ => true
  | _ => false
def T.one (t : T) : Nat := if t.isVal then 1 else 0
theorem wf_cases {L : Nat} {t : T} (h : wfT (L + 1) t) : t = .nil ∨ ∃ b k, t = .node b k ∧ ∀ p, p < 16 → wfT L (k p) := by
  cases t with
  | nil => exact .inl rfl
  | val b v => exact h.elim
  | node b k => exact .inr ⟨b, k, rfl, h⟩
theorem find_nil : ∀ (L n : Nat), findT L .nil n = .nil
  | 0, _ => rfl
  | L + 1, n => find_nil L n
theorem way_nil : ∀ (L n : Nat), wayT L .nil n = 0
  | 0, _ => rfl
  | _ + 1, _ => rfl
theorem upd_wf {L : Nat} {t x : T} (h : wfT (L + 1) t) (hx : wfT L x) (p q : Nat) (hq : q < 16) : wfT L (t.upd p x q) := by
  unfold T.upd
  split
  · exact hx
  · exact h.kid q hq
theorem put_wf {lo : Nat} {x : T} (hx : wfT 0 x) : ∀ {L n : Nat} {t t' : T}, wfT (L + 1) t → PutT lo L t n x t' → wfT (L + 1) t'
  | 0, _, _, _, h, ⟨_, _, e⟩ => by
    rw [e]
    exact fun q hq => upd_wf h hx _ q hq
  | _ + 1, _, _, _, h, ⟨_, _, _, hy, e⟩ => by
    rw [e]
    exact fun q hq => upd_wf h (put_wf hx (h.kid _ (prt_lt _ _)) hy) _ q hq
theorem wf0_cnt {x : T} (hx : wfT 0 x) : cntT x = 0 := by
  cases x with
  | nil => rfl
  | val b v => rfl
  | node b k => exact absurd rfl (hx b k)
theorem put_cnt {lo : Nat} {x : T} (hx : wfT 0 x) : ∀ {L n : Nat} {t t' : T}, wfT (L + 1) t → PutT lo L t n x t' → cntT t' + wayT (L + 1) t n = cntT t + (L + 1)
  | 0, n, t, t', h, ⟨b, _, e⟩ => by
    have hs := sum_upd cntT t (prt n 0) (prt_lt _ _) x
    have h1 := wf0_cnt hx
    have h2 := wf0_cnt (h.kid _ (prt_lt n 0))
    rw [e, cntT]
    rcases wf_cases h with rfl | ⟨b', k', rfl, _⟩
    · simp only [T.kid, cntT, sumTo_zero, way_nil] at hs ⊢
      omega
    · simp only [T.kid] at hs h2
      simp only [cntT, wayT]
      omega
  | L + 1, n, t, t', h, ⟨b, y, _, hy, e⟩ => by
    have hs := sum_upd cntT t (prt n (L + 1)) (prt_lt _ _) y
    have ih := put_cnt hx (h.kid _ (prt_lt n (L + 1))) hy
    rw [e, cntT]
    rcases wf_cases h with rfl | ⟨b', k', rfl, _⟩
    · simp only [T.kid, cntT, sumTo_zero, way_nil] at hs ih ⊢
      omega
    · simp only [T.kid] at hs ih
      rw [cntT, wayT]
      omega
theorem wf0_sz {x : T} (hx : wfT 0 x) : szT x = x.one := by
  cases x with
  | nil => rfl
  | val b v => rfl
  | node b k => exact absurd rfl (hx b k)
theorem sz_kids {L : Nat} {t : T} (h : wfT (L + 1) t) : szT t = sumTo (fun q => szT (t.kid q)) 16 := by
  rcases wf_cases h with rfl | ⟨b', k', rfl, _⟩
  · simp only [T.kid, szT, sumTo_zero]
  · rfl
theorem put_sz {lo : Nat} {x : T} (hx : wfT 0 x) : ∀ {L n : Nat} {t t' : T}, wfT (L + 1) t → PutT lo L t n x t' → szT t' + (findT (L + 1) t n).one = szT t + x.one
  | 0, n, t, t', h, ⟨b, _, e⟩ => by
    have hs := sum_upd szT t (prt n 0) (prt_lt _ _) x
    have h1 := wf0_sz hx
    have h2 := wf0_sz (h.kid _ (prt_lt n 0))
    rw [sz_kids h, e, szT, findT, findT]
    omega
  | L + 1, n, t, t', h, ⟨b, y, _, hy, e⟩ => by
    have hs := sum_upd szT t (prt n (L + 1)) (prt_lt _ _) y
    have ih := put_sz hx (h.kid _ (prt_lt n (L + 1))) hy
    rw [sz_kids h, e, szT, findT]
    omega
theorem prt_mod (m n : Nat) : ∀ L, (∀ l, l < L → prt m l = prt n l) → m % 16 ^ L = n % 16 ^ L
  | 0, _ => by simp [Nat.mod_one]
  | L + 1, h => by
    have ih := prt_mod m n L fun l hl => h l (by omega)
    have h1 := h L (by omega)
    unfold prt at h1
    rw [Nat.pow_succ, Nat.mod_mul, Nat.mod_mul, ih, h1]
/-- What is found behind a put. -/
theorem put_find {lo : Nat} {x : T} : ∀ {L n m : Nat} {t t' : T}, PutT lo L t n x t' → findT (L + 1) t' m = if m % 16 ^ (L + 1) = n % 16 ^ (L + 1) then x else findT (L + 1) t m
  | 0, n, m, t, t', ⟨b, _, e⟩ => by
    rw [e]
    show t.upd (prt n 0) x (prt m 0) = if m % 16 = n % 16 then x else t.kid (prt m 0)
    unfold T.upd prt
    simp
  | L + 1, n, m, t, t', ⟨b, y, _, hy, e⟩ => by
    rw [e]
    show findT (L + 1) (t.upd (prt n (L + 1)) y (prt m (L + 1))) m = if m % 16 ^ (L + 2) = n % 16 ^ (L + 2) then x else findT (L + 1) (t.kid (prt m (L + 1))) m
    have hm : ∀ k, k % 16 ^ (L + 2) = k % 16 ^ (L + 1) + 16 ^ (L + 1) * prt k (L + 1) := fun k => by rw [Nat.pow_succ 16 (L + 1), Nat.mod_mul]; rfl
    by_cases hp : prt m (L + 1) = prt n (L + 1)
    · rw [hp, upd_same, put_find hy, hm m, hm n, hp]
      by_cases hc : m % 16 ^ (L + 1) = n % 16 ^ (L + 1)
      · rw [if_pos hc, if_pos (by rw [hc])]
      · rw [if_neg hc, if_neg (by omega)]
    · rw [upd_other t y hp, if_neg]
      intro hc
      apply hp
      have h1 : m % 16 ^ (L + 2) / 16 ^ (L + 1) = n % 16 ^ (L + 2) / 16 ^ (L + 1) := by rw [hc]
      rw [hm m, hm n] at h1
      have hpos : 0 < 16 ^ (L + 1) := Nat.pow_pos (by decide)
      rw [Nat.add_mul_div_left _ _ hpos, Nat.add_mul_div_left _ _ hpos, Nat.div_eq_of_lt (Nat.mod_lt _ hpos), Nat.div_eq_of_lt (Nat.mod_lt _ hpos)] at h1
      omega

end Go.Proofs.YtdiljkmlneeboaaGreat
namespace Go.Proofs.YtdiljkmlneeboaaGreat

/-- Either way a drop ends: what it is made of. -/
theorem drop_cases {lo L n : Nat} {t t' : T} (h : DropT lo L t n t') : ∃ b y, lo ≤ b ∧ (L = 0 → y = .nil) ∧ (∀ L', L = L' + 1 → DropT lo L' (t.kid (prt n L)) n y) ∧
    (((∀ q, q < 16 → t.upd (prt n L) y q = .nil) ∧ t' = .nil) ∨ ((∃ q, q < 16 ∧ t.upd (prt n L) y q ≠ .nil) ∧ t' = .node b (t.upd (prt n L) y))) := by
  cases L with
  | zero =>
    obtain ⟨b, hb, h⟩ := h
    exact ⟨b, .nil, hb, fun _ => rfl, fun L' e => absurd e (by omega), h⟩
  | succ L =>
    obtain ⟨b, y, hb, hy, h⟩ := h
    exact ⟨b, y, hb, fun e => absurd e (by omega), fun L' e => by
      obtain rfl : L = L' := by omega
      exact hy, h⟩
theorem drop_kid {t y t' : T} {b p : Nat} (h : ((∀ q, q < 16 → t.upd p y q = .nil) ∧ t' = .nil) ∨ ((∃ q, q < 16 ∧ t.upd p y q ≠ .nil) ∧ t' = .node b (t.upd p y))) (q : Nat) (hq : q < 16) : t'.kid q = t.upd p y q := by
  rcases h with ⟨h, rfl⟩ | ⟨_, rfl⟩
  · rw [h q hq]; rfl
  · rfl
theorem drop_wf {lo : Nat} : ∀ {L n : Nat} {t t' : T}, wfT (L + 1) t → DropT lo L t n t' → wfT (L + 1) t'
  | L, n, t, t', h, hd => by
    obtain ⟨b, y, _, h0, hs, hc⟩ := drop_cases hd
    have hy : wfT L y := by
      cases L with
      | zero => rw [h0 rfl]; exact wfT.nil 0
      | succ L => exact drop_wf (h.kid _ (prt_lt _ _)) (hs L rfl)
    rcases hc with ⟨_, rfl⟩ | ⟨_, rfl⟩
    · exact wfT.nil _
    · exact fun q hq => upd_wf h hy _ q hq
theorem drop_find {lo : Nat} : ∀ {L n m : Nat} {t t' : T}, DropT lo L t n t' → findT (L + 1) t' m = if m % 16 ^ (L + 1) = n % 16 ^ (L + 1) then .nil else findT (L + 1) t m
  | L, n, m, t, t', hd => by
    obtain ⟨b, y, _, h0, hs, hc⟩ := drop_cases hd
    show findT L (t'.kid (prt m L)) m = if m % 16 ^ (L + 1) = n % 16 ^ (L + 1) then .nil else findT L (t.kid (prt m L)) m
    rw [drop_kid hc _ (prt_lt _ _)]
    have hm : ∀ k, k % 16 ^ (L + 1) = k % 16 ^ L + 16 ^ L * prt k L := fun k => by rw [Nat.pow_succ 16 L, Nat.mod_mul]; rfl
    by_cases hp : prt m L = prt n L
    · rw [hp, upd_same, hm m, hm n, hp]
      cases L with
      | zero =>
        rw [h0 rfl, if_pos (by simp [Nat.mod_one])]
        rfl
      | succ L =>
        rw [drop_find (hs L rfl)]
        by_cases hc : m % 16 ^ (L + 1) = n % 16 ^ (L + 1)
        · rw [if_pos hc, if_pos (by rw [hc])]
        · rw [if_neg hc, if_neg (by omega)]
    · rw [upd_other t y hp, if_neg]
      intro hc
      apply hp
      have h1 : m % 16 ^ (L + 1) / 16 ^ L = n % 16 ^ (L + 1) / 16 ^ L := by rw [hc]
      rw [hm m, hm n] at h1
      have hpos : 0 < 16 ^ L := Nat.pow_pos (by decide)
      rw [Nat.add_mul_div_left _ _ hpos, Nat.add_mul_div_left _ _ hpos, Nat.div_eq_of_lt (Nat.mod_lt _ hpos), Nat.div_eq_of_lt (Nat.mod_lt _ hpos)] at h1
      omega
theorem sum_nil (f : T → Nat) (hf : f .nil = 0) (k : Nat → T) (h : ∀ q, q < 16 → k q = .nil) : sumTo (fun q => f (k q)) 16 = 0 := by
  rw [sumTo_congr 16 (g := fun _ => 0) fun q hq => by show f (k q) = 0; rw [h q hq, hf], sumTo_zero]
theorem val_node {L n : Nat} {t : T} (h : wfT (L + 1) t) (hv : (findT (L + 1) t n).isVal = true) : ∃ b k, t = .node b k ∧ ∀ p, p < 16 → wfT L (k p) := by
  rcases wf_cases h with rfl | h
  · rw [find_nil] at hv; cases hv
  · exact h
theorem drop_cnt {lo : Nat} : ∀ {L n : Nat} {t t' : T}, wfT (L + 1) t → (findT (L + 1) t n).isVal = true → DropT lo L t n t' → cntT t' + (L + 1) = cntT t + wayT (L + 1) t' n
  | L, n, t, t', h, hv, hd => by
    obtain ⟨b, y, _, h0, hs, hc⟩ := drop_cases hd
    have hsum := sum_upd cntT t (prt n L) (prt_lt _ _) y
    have hkey : cntT y + L = cntT (t.kid (prt n L)) + wayT L y n := by
      cases L with
      | zero =>
        rw [h0 rfl, wf0_cnt (h.kid _ (prt_lt n 0))]
        rfl
      | succ L => exact drop_cnt (h.kid _ (prt_lt _ _)) hv (hs L rfl)
    obtain ⟨b', k', rfl, _⟩ := val_node h hv
    have e1 : cntT (.node b' k') = 1 + sumTo (fun q => cntT ((T.node b' k').kid q)) 16 := rfl
    rcases hc with ⟨hn, rfl⟩ | ⟨_, rfl⟩
    · have hy : y = .nil := by rw [← upd_same (T.node b' k') (prt n L) y]; exact hn _ (prt_lt _ _)
      rw [sum_nil cntT rfl _ hn] at hsum
      rw [hy] at hkey hsum
      rw [way_nil] at hkey ⊢
      simp only [cntT] at hkey hsum e1 ⊢
      omega
    · have e2 : wayT (L + 1) (.node b ((T.node b' k').upd (prt n L) y)) n = wayT L y n + 1 := by rw [wayT, upd_same]
      have e3 : cntT (.node b ((T.node b' k').upd (prt n L) y)) = 1 + sumTo (fun q => cntT ((T.node b' k').upd (prt n L) y q)) 16 := rfl
      rw [e2, e3, e1]
      omega
theorem drop_sz {lo : Nat} : ∀ {L n : Nat} {t t' : T}, wfT (L + 1) t → (findT (L + 1) t n).isVal = true → DropT lo L t n t' → szT t' + 1 = szT t
  | L, n, t, t', h, hv, hd => by
    obtain ⟨b, y, _, h0, hs, hc⟩ := drop_cases hd
    have hsum := sum_upd szT t (prt n L) (prt_lt _ _) y
    have hkey : szT y + 1 = szT (t.kid (prt n L)) := by
      cases L with
      | zero =>
        have hv' : (t.kid (prt n 0)).isVal = true := hv
        rw [h0 rfl, wf0_sz (h.kid _ (prt_lt n 0)), T.one, if_pos hv']
        rfl
      | succ L => exact drop_sz (h.kid _ (prt_lt _ _)) hv (hs L rfl)
    rw [sz_kids h]
    rcases hc with ⟨hn, rfl⟩ | ⟨_, rfl⟩
    · rw [sum_nil szT rfl _ hn] at hsum
      simp only [szT]
      omega
    · rw [szT]
      omega
/-- No node below the root is empty. -/
def prT : T → Prop
  | .node _ k => (∃ q, q < 16 ∧ k q ≠ .nil) ∧ ∀ q, q < 16 → prT (k q)
  | _ => True
def prR (t : T) : Prop := ∀ q, q < 16 → prT (t.kid q)
theorem prT.kids {t : T} (h : prT t) : prR t := by
  intro q hq
  cases t with
  | nil => trivial
  | val b v => trivial
  | node b k => exact h.2 q hq
theorem upd_pr {t x : T} (h : prR t) (hx : prT x) (p q : Nat) (hq : q < 16) : prT (t.upd p x q) := by
  unfold T.upd
  split
  · exact hx
  · exact h q hq
theorem put_pr {lo b : Nat} {v : Value} : ∀ {L n : Nat} {t t' : T}, prR t → PutT lo L t n (.val b v) t' → prT t'
  | 0, n, _, _, h, ⟨_, _, e⟩ => by
    rw [e]
    exact ⟨⟨prt n 0, prt_lt _ _, by rw [upd_same]; intro e; cases e⟩, fun q hq => upd_pr (x := .val b v) h trivial _ q hq⟩
  | L + 1, n, t, _, h, ⟨_, y, _, hy, e⟩ => by
    rw [e]
    obtain ⟨b', k', _, rfl⟩ := hy.node
    exact ⟨⟨prt n (L + 1), prt_lt _ _, by rw [upd_same]; intro e; cases e⟩, fun q hq => upd_pr h (put_pr (h _ (prt_lt _ _)).kids hy) _ q hq⟩
theorem drop_pr {lo : Nat} : ∀ {L n : Nat} {t t' : T}, prR t → DropT lo L t n t' → prT t'
  | L, n, t, t', h, hd => by
    obtain ⟨b, y, _, h0, hs, hc⟩ := drop_cases hd
    have hy : prT y := by
      cases L with
      | zero => rw [h0 rfl]; trivial
      | succ L => exact drop_pr (h _ (prt_lt _ _)).kids (hs L rfl)
    rcases hc with ⟨_, rfl⟩ | ⟨hq, rfl⟩
    · trivial
    · exact ⟨hq, fun q hq => upd_pr h hy _ q hq⟩
theorem prt_of_mod {m m' L : Nat} (h : m % 16 ^ (L + 1) = m' % 16 ^ (L + 1)) : prt m L = prt m' L ∧ m % 16 ^ L = m' % 16 ^ L := by
  have hm : ∀ k, k % 16 ^ (L + 1) = k % 16 ^ L + 16 ^ L * prt k L := fun k => by rw [Nat.pow_succ 16 L, Nat.mod_mul]; rfl
  have h1 : m % 16 ^ (L + 1) / 16 ^ L = m' % 16 ^ (L + 1) / 16 ^ L := by rw [h]
  have hpos : 0 < 16 ^ L := Nat.pow_pos (by decide)
  rw [hm m, hm m'] at h1 h
  rw [Nat.add_mul_div_left _ _ hpos, Nat.add_mul_div_left _ _ hpos, Nat.div_eq_of_lt (Nat.mod_lt _ hpos), Nat.div_eq_of_lt (Nat.mod_lt _ hpos)] at h1
  have e : prt m L = prt m' L := by omega
  rw [e] at h
  exact ⟨e, by omega⟩
theorem find_mod : ∀ {L m m' : Nat} {t : T}, m % 16 ^ L = m' % 16 ^ L → findT L t m = findT L t m'
  | 0, _, _, _, _ => rfl
  | L + 1, m, m', t, h => by
    obtain ⟨h1, h2⟩ := prt_of_mod h
    rw [findT, findT, h1]
    exact find_mod h2
theorem prt_put (L q r : Nat) (hq : q < 16) : prt (q * 16 ^ L + r % 16 ^ L) L = q ∧ (q * 16 ^ L + r % 16 ^ L) % 16 ^ L = r % 16 ^ L := by
  have hpos : 0 < 16 ^ L := Nat.pow_pos (by decide)
  refine ⟨?_, ?_⟩
  · unfold prt
    rw [Nat.add_comm, Nat.add_mul_div_right _ _ hpos, Nat.div_eq_of_lt (Nat.mod_lt _ hpos), Nat.zero_add, Nat.mod_eq_of_lt hq]
  · rw [Nat.add_comm, Nat.add_mul_mod_self_right, Nat.mod_mod]
theorem pr_val : ∀ {L : Nat} {t : T}, wfT L t → prT t → t ≠ .nil → ∃ m, (findT L t m).isVal = true
  | 0, t, h, _, hn => by
    cases t with
    | nil => exact absurd rfl hn
    | val b v => exact ⟨0, rfl⟩
    | node b k => exact absurd rfl (h b k)
  | L + 1, t, h, hp, hn => by
    rcases wf_cases h with rfl | ⟨b, k, rfl, hk⟩
    · exact absurd rfl hn
    · obtain ⟨⟨q, hq, hqn⟩, hr⟩ := hp
      obtain ⟨m, hm⟩ := pr_val (hk q hq) (hr q hq) hqn
      obtain ⟨h1, h2⟩ := prt_put L q m hq
      refine ⟨q * 16 ^ L + m % 16 ^ L, ?_⟩
      show (findT L (k (prt (q * 16 ^ L + m % 16 ^ L) L)) _).isVal = true
      rw [h1, find_mod (h2.trans rfl)]
      exact hm
/-- Two trees for the same numbers have as many nodes and values. -/
theorem same_cnt : ∀ {L : Nat} {t u : T}, wfT L t → wfT L u → prT t → prT u → (∀ m, (findT L t m).isVal = (findT L u m).isVal) → cntT t = cntT u ∧ szT t = szT u
  | 0, t, u, ht, hu, _, _, he => by
    have h0 : t.isVal = u.isVal := he 0
    exact ⟨by rw [wf0_cnt ht, wf0_cnt hu], by rw [wf0_sz ht, wf0_sz hu, T.one, T.one, h0]⟩
  | L + 1, t, u, ht, hu, pt, pu, he => by
    by_cases h1 : t = .nil
    · by_cases h2 : u = .nil
      · rw [h1, h2]; exact ⟨rfl, rfl⟩
      · obtain ⟨m, hm⟩ := pr_val hu pu h2
        rw [← he m, h1, find_nil] at hm
        cases hm
    · by_cases h2 : u = .nil
      · obtain ⟨m, hm⟩ := pr_val ht pt h1
        rw [he m, h2, find_nil] at hm
        cases hm
      · rcases wf_cases ht with rfl | ⟨b, k, rfl, hk⟩
        · exact absurd rfl h1
        rcases wf_cases hu with rfl | ⟨b', k', rfl, hk'⟩
        · exact absurd rfl h2
        have key : ∀ q, q < 16 → cntT (k q) = cntT (k' q) ∧ szT (k q) = szT (k' q) := fun q hq =>
          same_cnt (hk q hq) (hk' q hq) (pt.2 q hq) (pu.2 q hq) fun m => by
            obtain ⟨e1, e2⟩ := prt_put L q m hq
            have := he (q * 16 ^ L + m % 16 ^ L)
            rw [findT, findT, e1] at this
            have this' : (findT L (k q) (q * 16 ^ L + m % 16 ^ L)).isVal = (findT L (k' q) (q * 16 ^ L + m % 16 ^ L)).isVal := this
            rwa [find_mod (e2.trans rfl), find_mod (t := k' q) (e2.trans rfl)] at this'
        exact ⟨by rw [cntT, cntT, sumTo_congr 16 fun q hq => (key q hq).1], by rw [szT, szT, sumTo_congr 16 fun q hq => (key q hq).2]⟩
/-- The same at the root, which may be empty. -/
theorem same_root {b b' : Nat} {k k' : Nat → T} (ht : wfT 5 (.node b k)) (hu : wfT 5 (.node b' k')) (pt : prR (.node b k)) (pu : prR (.node b' k')) (he : ∀ m, m < 1048576 → (findT 5 (.node b k) m).isVal = (findT 5 (.node b' k') m).isVal) : cntT (.node b k) = cntT (.node b' k') ∧ szT (.node b k) = szT (.node b' k') := by
  have key : ∀ q, q < 16 → cntT (k q) = cntT (k' q) ∧ szT (k q) = szT (k' q) := fun q hq =>
    same_cnt (ht q hq) (hu q hq) (pt q hq) (pu q hq) fun m => by
      obtain ⟨e1, e2⟩ := prt_put 4 q m hq
      have hlt : q * 16 ^ 4 + m % 16 ^ 4 < 1048576 := by
        have := Nat.mod_lt m (show 0 < 16 ^ 4 by decide)
        omega
      have := he (q * 16 ^ 4 + m % 16 ^ 4) hlt
      have this2 : (findT 4 (k (prt (q * 16 ^ 4 + m % 16 ^ 4) 4)) (q * 16 ^ 4 + m % 16 ^ 4)).isVal = (findT 4 (k' (prt (q * 16 ^ 4 + m % 16 ^ 4) 4)) (q * 16 ^ 4 + m % 16 ^ 4)).isVal := this
      rw [e1] at this2
      have this' : (findT 4 (k q) (q * 16 ^ 4 + m % 16 ^ 4)).isVal = (findT 4 (k' q) (q * 16 ^ 4 + m % 16 ^ 4)).isVal := this2
      rwa [find_mod (e2.trans rfl), find_mod (t := k' q) (e2.trans rfl)] at this'
  exact ⟨by rw [cntT, cntT, sumTo_congr 16 fun q hq => (key q hq).1], by rw [szT, szT, sumTo_congr 16 fun q hq => (key q hq).2]⟩

/-- All nodes lie below lo. -/
def lowT (lo : Nat) : T → Prop
  | .node b k => b < lo ∧ ∀ p, p < 16 → lowT lo (k p)
  | _ => True
theorem lowT.kid {lo : Nat} {t : T} (h : lowT lo t) (p : Nat) (hp : p < 16) : lowT lo (t.kid p) := by
  cases t with
  | nil => trivial
  | val b v => trivial
  | node b k => exact h.2 p hp
theorem fresh_self (t : T) : freshT t t = 0 := by
  cases t with
  | nil => rfl
  | val b v => rfl
  | node b k => exact if_pos rfl
theorem low_addr {lo b : Nat} {t : T} (h : lowT lo t) (hb : lo ≤ b) : t.addr ≠ some b := by
  cases t with
  | nil => intro e; cases e
  | val b v => intro e; cases e
  | node b' k =>
    intro e
    injection e with e
    have := h.1
    omega
theorem sumTo_one {f : Nat → Nat} {p : Nat} : ∀ n, (∀ q, q < n → q ≠ p → f q = 0) → p < n → sumTo f n = f p
  | 0, _, hp => absurd hp (by omega)
  | n + 1, hq, hp => by
    rw [sumTo]
    by_cases e : p = n
    · subst e
      rw [sumTo_congr p (g := fun _ => 0) fun q h => hq q (by omega) (by omega), sumTo_zero]
      omega
    · rw [sumTo_one n (fun q h => hq q (by omega)) (by omega), hq n (by omega) (fun e' => e e'.symm)]
      omega
theorem fresh_upd {lo b : Nat} {t x : T} (h : lowT lo t) (hb : lo ≤ b) (p : Nat) (hp : p < 16) : freshT (.node b (t.upd p x)) t = 1 + freshT x (t.kid p) := by
  rw [freshT, if_neg (low_addr h hb), sumTo_one (p := p) 16 (fun q hq hne => by rw [upd_other t x hne]; exact fresh_self _) hp, upd_same]
theorem fresh_put {lo b : Nat} {v : Value} : ∀ {L n : Nat} {t t' : T}, lowT lo t → PutT lo L t n (.val b v) t' → freshT t' t = L + 1
  | 0, n, t, _, h, ⟨b', hb, e⟩ => by
    rw [e, fresh_upd h hb _ (prt_lt _ _)]
    rfl
  | L + 1, n, t, _, h, ⟨b', y, hb, hy, e⟩ => by
    rw [e, fresh_upd h hb _ (prt_lt _ _), fresh_put (h.kid _ (prt_lt _ _)) hy]
    omega
theorem fresh_drop {lo : Nat} : ∀ {L n : Nat} {t t' : T}, lowT lo t → DropT lo L t n t' → freshT t' t ≤ L + 1
  | L, n, t, t', h, hd => by
    obtain ⟨b, y, hb, h0, hs, hc⟩ := drop_cases hd
    have hy : freshT y (t.kid (prt n L)) ≤ L := by
      cases L with
      | zero => rw [h0 rfl]; exact Nat.le_refl _
      | succ L => exact fresh_drop (h.kid _ (prt_lt _ _)) (hs L rfl)
    rcases hc with ⟨_, rfl⟩ | ⟨_, rfl⟩
    · exact Nat.zero_le _
    · rw [fresh_upd h hb _ (prt_lt _ _)]
      omega
theorem Held.low {ty : Nat × Nat} {w : World} : ∀ {t : T}, Held ty w t → lowT w.heap.size t
  | .nil, _ => trivial
  | .val _ _, _ => trivial
  | .node _ _, h => ⟨(Array.getElem?_eq_some_iff.1 h.1).1, fun p hp => Held.low (h.2 p hp)⟩
/-- The empty one. -/
def newT (b : Nat) : T := .node b fun _ => .nil
theorem new_cnt (b : Nat) : cntT (newT b) = 1 := rfl
theorem new_sz (b : Nat) : szT (newT b) = 0 := rfl
theorem new_find (b n : Nat) : findT 5 (newT b) n = .nil := rfl
theorem new_wf (b : Nat) : wfT 5 (newT b) := fun _ _ => trivial
theorem new_pr (b : Nat) : prR (newT b) := fun _ _ => trivial
theorem new_fresh (b : Nat) (o : T) : freshT (newT b) o ≤ 1 := by
  rw [newT, freshT]
  split
  · omega
  · rw [show (fun p => freshT T.nil (o.kid p)) = fun _ => 0 from rfl, sumTo_zero]
    omega

end Go.Proofs.YtdiljkmlneeboaaGreat
namespace Go.Proofs.YtdiljkmlneeboaaGreat
open Go.RowKit

/-- The pointer tp is to a trie whose nodes are t; its counts are t's. -/
structure TrAt (ty : Nat × Nat) (tt : Nat) (w : World) (tp : Value) (t : T) : Prop where
  held : Held ty w t
  wf : wfT 5 t
  pr : prR t
  lies : (tp = .pointer none ∧ t = .nil) ∨ ∃ b, tp = .pointer (some ⟨b, 0, none⟩) ∧ w.heap[b]? = some (.cells #[t.bp, .int .i64 (szT t), .int .i64 (cntT t)] tt (0, 0))
theorem TrAt.keep {ty : Nat × Nat} {tt : Nat} {w w' : World} {tp : Value} {t : T} (h : TrAt ty tt w tp t) (hb : Below w.heap.size w w') : TrAt ty tt w' tp t :=
  ⟨h.held.keep hb, h.wf, h.pr, h.lies.imp id fun ⟨b, e, hh⟩ => ⟨b, e, (hb.block _ (Array.getElem?_eq_some_iff.1 hh).1).trans hh⟩⟩
theorem TrAt.ptr {ty : Nat × Nat} {tt : Nat} {w : World} {tp : Value} {t : T} (h : TrAt ty tt w tp t) : ∃ a, tp = .pointer a := by
  rcases h.lies with ⟨e, _⟩ | ⟨b, e, _⟩
  · exact ⟨_, e⟩
  · exact ⟨_, e⟩
/-- What is there for a number. -/
def gotT (t : T) (n : Int) : T := if 0 ≤ n ∧ n < 1048576 then findT 5 t n.toNat else .nil
theorem Held.find {ty : Nat × Nat} {w : World} : ∀ {L n : Nat} {t : T}, Held ty w t → Held ty w (findT L t n)
  | 0, _, _, h => h
  | L + 1, n, t, h => Held.find (L := L) (n := n) (t := t.kid (prt n L)) (h.kid _ (prt_lt _ _))
theorem Held.got {ty : Nat × Nat} {w : World} {t : T} (h : Held ty w t) (n : Int) : Held ty w (gotT t n) := by
  unfold gotT
  split
  · exact h.find
  · trivial
theorem wf_find : ∀ {L n : Nat} {t : T}, wfT L t → wfT 0 (findT L t n)
  | 0, _, _, h => h
  | L + 1, n, t, h => wf_find (L := L) (n := n) (t := t.kid (prt n L)) (h.kid _ (prt_lt _ _))
theorem wf_got {t : T} (h : wfT 5 t) (n : Int) : wfT 0 (gotT t n) := by
  unfold gotT
  split
  · exact wf_find h
  · exact wfT.nil 0
/-- It is nothing, or a value. -/
theorem got_cases {t : T} (h : wfT 5 t) (n : Int) : gotT t n = .nil ∨ ∃ b v, gotT t n = .val b v := by
  have := wf_got h n
  cases e : gotT t n with
  | nil => exact .inl rfl
  | val b v => exact .inr ⟨b, v, rfl⟩
  | node b k => rw [e] at this; exact absurd rfl (this b k)
theorem got_in {t : T} {n : Nat} (h : n < 1048576) : gotT t (n : Int) = findT 5 t n := by
  unfold gotT
  rw [if_pos (by omega)]
  rfl
theorem got_out {t : T} {n : Int} (h : ¬ (0 ≤ n ∧ n < 1048576)) : gotT t n = .nil := by
  unfold gotT
  rw [if_neg h]

theorem way_le : ∀ (L : Nat) (t : T) (n : Nat), wayT L t n ≤ L
  | 0, _, _ => Nat.le_refl _
  | L + 1, .node _ _, n => Nat.succ_le_succ (way_le L _ n)
  | _ + 1, .nil, _ => Nat.zero_le _
  | _ + 1, .val _ _, _ => Nat.zero_le _
theorem TrAt.bounds {ty : Nat × Nat} {tt : Nat} {w : World} {tp : Value} {t : T} (h : TrAt ty tt w tp t) : szT t ≤ 1048576 ∧ cntT t ≤ 2097152 := by
  have h1 := sz_le 5 t h.wf
  have h2 := cnt_le 5 t h.wf
  have e : 16 ^ 5 = 1048576 := rfl
  omega
end Go.Proofs.YtdiljkmlneeboaaGreat
