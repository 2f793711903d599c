/- What put and drop do to a tree: its shape, its counts, what is found. -/
import Derived.Test.YtecbgleidohjpabModel
namespace Go.Proofs.Ytecbgleidohjpab

theorem sumTo_upd {g h : Nat → Nat} {p : Nat} : ∀ n, (∀ q, q < n → q ≠ p → g q = h q) → p < n → sumTo g n + h p = sumTo h n + g p
  | 0, _, hp => absurd hp (by omega)
  | n + 1, hq, hp => by
    rw [sumTo, sumTo]
    by_cases e : p = n
    · subst e
      rw [sumTo_congr p fun q h => hq q (by omega) (by omega)]
      omega
    · have := sumTo_upd n (fun q h => hq q (by omega)) (by omega)
      have := hq n (by omega) (fun e' => e e'.symm)
      omega
theorem upd_same (t : T) (p : Nat) (x : T) : t.upd p x p = x := by unfold T.upd; rw [if_pos rfl]
theorem upd_other (t : T) {p q : Nat} (x : T) (h : q ≠ p) : t.upd p x q = t.kid q := by unfold T.upd; rw [if_neg h]
theorem sum_upd (f : T → Nat) (t : T) (p : Nat) (hp : p < 16) (x : T) : sumTo (fun q => f (t.upd p x q)) 16 + f (t.kid p) = sumTo (fun q => f (t.kid q)) 16 + f x := by
  have := sumTo_upd (g := fun q => f (t.upd p x q)) (h := fun q => f (t.kid q)) (p := p) 16 (fun q _ h => by show f _ = f _; rw [upd_other t x h]) hp
  simpa only [upd_same] using this
theorem sumTo_zero (n : Nat) : sumTo (fun _ => 0) n = 0 := by rw [sumTo_const]; omega
def T.isVal : T → Bool
  | .val _ _ => true
  | _ => false
def T.one (t : T) : Nat := if t.isVal then 1 else 0
theorem wf_cases {L : Nat} {t : T} (h : wfT (L + 1) t) : t = .nil ∨ ∃ b k, t = .node b k ∧ ∀ p, p < 16 → wfT L (k p) := by
  cases t with
  | nil => exact .inl rfl
  | val b v => exact h.elim
  | node b k => exact .inr ⟨b, k, rfl, h⟩
theorem find_nil : ∀ (L n : Nat), findT L .nil n = .nil
  | 0, _ => rfl
  | L + 1, n => find_nil L n
theorem way_nil : ∀ (L n : Nat), wayT L .nil n = 0
  | 0, _ => rfl
  | _ + 1, _ => rfl
theorem upd_wf {L : Nat} {t x : T} (h : wfT (L + 1) t) (hx : wfT L x) (p q : Nat) (hq : q < 16) : wfT L (t.upd p x q) := by
  unfold T.upd
  split
  · exact hx
  · exact h.kid q hq
theorem put_wf {lo : Nat} {x : T} (hx : wfT 0 x) : ∀ {L n : Nat} {t t' : T}, wfT (L + 1) t → PutT lo L t n x t' → wfT (L + 1) t'
  | 0, _, _, _, h, ⟨_, _, e⟩ => by
    rw [e]
    exact fun q hq => upd_wf h hx _ q hq
  | _ + 1, _, _, _, h, ⟨_, _, _, hy, e⟩ => by
    rw [e]
    exact fun q hq => upd_wf h (put_wf hx (h.kid _ (prt_lt _ _)) hy) _ q hq
theorem wf0_cnt {x : T} (hx : wfT 0 x) : cntT x = 0 := by
  cases x with
  | nil => rfl
  | val b v => rfl
  | node b k => exact absurd rfl (hx b k)
theorem put_cnt {lo : Nat} {x : T} (hx : wfT 0 x) : ∀ {L n : Nat} {t t' : T}, wfT (L + 1) t → PutT lo L t n x t' → cntT t' + wayT (L + 1) t n = cntT t + (L + 1)
  | 0, n, t, t', h, ⟨b, _, e⟩ => by
    have hs := sum_upd cntT t (prt n 0) (prt_lt _ _) x
    have h1 := wf0_cnt hx
    have h2 := wf0_cnt (h.kid _ (prt_lt n 0))
    rw [e, cntT]
    rcases wf_cases h with rfl | ⟨b', k', rfl, _⟩
    · simp only [T.kid, cntT, sumTo_zero, way_nil] at hs ⊢
      omega
    · simp only [T.kid] at hs h2
      simp only [cntT, wayT]
      omega
  | L + 1, n, t, t', h, ⟨b, y, _, hy, e⟩ => by
    have hs := sum_upd cntT t (prt n (L + 1)) (prt_lt _ _) y
    have ih := put_cnt hx (h.kid _ (prt_lt n (L + 1))) hy
    rw [e, cntT]
    rcases wf_cases h with rfl | ⟨b', k', rfl, _⟩
    · simp only [T.kid, cntT, sumTo_zero, way_nil] at hs ih ⊢
      omega
    · simp only [T.kid] at hs ih
      rw [cntT, wayT]
      omega
theorem wf0_sz {x : T} (hx : wfT 0 x) : szT x = x.one := by
  cases x with
  | nil => rfl
  | val b v => rfl
  | node b k => exact absurd rfl (hx b k)
theorem sz_kids {L : Nat} {t : T} (h : wfT (L + 1) t) : szT t = sumTo (fun q => szT (t.kid q)) 16 := by
  rcases wf_cases h with rfl | ⟨b', k', rfl, _⟩
  · simp only [T.kid, szT, sumTo_zero]
  · rfl
theorem put_sz {lo : Nat} {x : T} (hx : wfT 0 x) : ∀ {L n : Nat} {t t' : T}, wfT (L + 1) t → PutT lo L t n x t' → szT t' + (findT (L + 1) t n).one = szT t + x.one
  | 0, n, t, t', h, ⟨b, _, e⟩ => by
    have hs := sum_upd szT t (prt n 0) (prt_lt _ _) x
    have h1 := wf0_sz hx
    have h2 := wf0_sz (h.kid _ (prt_lt n 0))
    rw [sz_kids h, e, szT, findT, findT]
    omega
  | L + 1, n, t, t', h, ⟨b, y, _, hy, e⟩ => by
    have hs := sum_upd szT t (prt n (L + 1)) (prt_lt _ _) y
    have ih := put_sz hx (h.kid _ (prt_lt n (L + 1))) hy
    rw [sz_kids h, e, szT, findT]
    omega
theorem prt_mod (m n : Nat) : ∀ L, (∀ l, l < L → prt m l = prt n l) → m % 16 ^ L = n % 16 ^ L
  | 0, _ => by simp [Nat.mod_one]
  | L + 1, h => by
    have ih := prt_mod m n L fun l hl => h l (by omega)
    have h1 := h L (by omega)
    unfold prt at h1
    rw [Nat.pow_succ, Nat.mod_mul, Nat.mod_mul, ih, h1]
/-- What is found behind a put. -/
theorem put_find {lo : Nat} {x : T} : ∀ {L n m : Nat} {t t' : T}, PutT lo L t n x t' → findT (L + 1) t' m = if m % 16 ^ (L + 1) = n % 16 ^ (L + 1) then x else findT (L + 1) t m
  | 0, n, m, t, t', ⟨b, _, e⟩ => by
    rw [e]
    show t.upd (prt n 0) x (prt m 0) = if m % 16 = n % 16 then x else t.kid (prt m 0)
    unfold T.upd prt
    simp
  | L + 1, n, m, t, t', ⟨b, y, _, hy, e⟩ => by
    rw [e]
    show findT (L + 1) (t.upd (prt n (L + 1)) y (prt m (L + 1))) m = if m % 16 ^ (L + 2) = n % 16 ^ (L + 2) then x else findT (L + 1) (t.kid (prt m (L + 1))) m
    have hm : ∀ k, k % 16 ^ (L + 2) = k % 16 ^ (L + 1) + 16 ^ (L + 1) * prt k (L + 1) := fun k => by rw [Nat.pow_succ 16 (L + 1), Nat.mod_mul]; rfl
    by_cases hp : prt m (L + 1) = prt n (L + 1)
    · rw [hp, upd_same, put_find hy, hm m, hm n, hp]
      by_cases hc : m % 16 ^ (L + 1) = n % 16 ^ (L + 1)
      · rw [if_pos hc, if_pos (by rw [hc])]
      · rw [if_neg hc, if_neg (by omega)]
    · rw [upd_other t y hp, if_neg]
      intro hc
      apply hp
      have h1 : m % 16 ^ (L + 2) / 16 ^ (L + 1) = n % 16 ^ (L + 2) / 16 ^ (L + 1) := by rw [hc]
      rw [hm m, hm n] at h1
      have hpos : 0 < 16 ^ (L + 1) := Nat.pow_pos (by decide)
      rw [Nat.add_mul_div_left _ _ hpos, Nat.add_mul_div_left _ _ hpos, Nat.div_eq_of_lt (Nat.mod_lt _ hpos), Nat.div_eq_of_lt (Nat.mod_lt _ hpos)] at h1
      omega

end Go.Proofs.Ytecbgleidohjpab
