/- A trie and the document's pairs: the same numbers with the same values. -/
import Derived.Test.YtnmpakjklbamiaaRef3
namespace Go.Proofs.Ytnmpakjklbamiaa
open Go.RowKit
set_option maxRecDepth 100000

structure Lk (t : T) (l : List Pr) : Prop where
  root : rootN t
  rise : Rises l
  mem : ∀ m x, (m, x) ∈ l ↔ getV t m = some (.string x)
  str : ∀ m v, getV t m = some v → ∃ s, v = .string s
theorem Lk.ents {t : T} {l : List Pr} (h : Lk t l) (hw : wfT 5 t) : ents t 5 0 = l := by
  have hs := allS_get hw h.str
  exact rise_ext (ents_rise hw hs 0) h.rise fun ⟨m, x⟩ => (ents_get hw hs m x).trans (h.mem m x).symm
theorem Lk.len {t : T} {l : List Pr} (h : Lk t l) (hw : wfT 5 t) : szT t = l.length := by
  rw [← ents_len t (allS_get hw h.str) 5 0, h.ents hw]
theorem Lk.nodes {t : T} {l : List Pr} (h : Lk t l) (hw : wfT 5 t) (hp : prR t) : cntT t = nodesZ l := by
  rw [← nodes_ents h.root hw (allS_get hw h.str) hp, h.ents hw]
theorem look_mem : ∀ {l : List Pr}, Rises l → ∀ n x, lookZ l n = some x ↔ (n, x) ∈ l
  | [], _, n, x => by simp [lookZ]
  | p :: r, h, n, x => by
    have hp := List.pairwise_cons.1 h
    rw [lookZ]
    by_cases e : p.1 = n
    · rw [if_pos e]
      constructor
      · intro hx
        injection hx with hx
        rw [List.mem_cons]
        exact .inl (by rw [← e, ← hx])
      · intro hx
        rcases List.mem_cons.1 hx with hx | hx
        · rw [← hx]
        · have h1 : p.1 < n := hp.1 _ hx
          omega
    · rw [if_neg e, look_mem hp.2, List.mem_cons]
      constructor
      · exact .inr
      · rintro (hx | hx)
        · exact absurd (by rw [← hx]) e
        · exact hx
theorem Lk.look {t : T} {l : List Pr} (h : Lk t l) (n : Int) : getV t n = (lookZ l n).map .string := by
  cases e : lookZ l n with
  | some x => rw [(h.mem n x).1 ((look_mem h.rise n x).1 e)]; rfl
  | none =>
    cases hg : getV t n with
    | none => rfl
    | some v =>
      obtain ⟨s, rfl⟩ := h.str n v hg
      rw [(look_mem h.rise n s).2 ((h.mem n s).2 hg)] at e
      cases e
theorem Lk.new (b : Nat) : Lk (newT b) [] := ⟨⟨_, _, rfl⟩, List.Pairwise.nil, fun m x => by simp [new_getV], fun m v hv => by rw [new_getV] at hv; cases hv⟩
theorem dropZ_mem (l : List Pr) (n m : Int) (x : ByteArray) : (m, x) ∈ dropZ l n ↔ m ≠ n ∧ (m, x) ∈ l := by
  unfold dropZ
  rw [List.mem_filter]
  constructor
  · rintro ⟨h1, h2⟩
    exact ⟨by simpa using h2, h1⟩
  · rintro ⟨h1, h2⟩
    exact ⟨h2, by simpa using h1⟩
theorem putGo_mem (n : Int) (s : ByteArray) : ∀ (l : List Pr) (m : Int) (x : ByteArray), (m, x) ∈ putGo n s l false ↔ (m = n ∧ x = s) ∨ (m ≠ n ∧ (m, x) ∈ l)
  | [], m, x => by simp [putGo]
  | p :: r, m, x => by
    obtain ⟨pn, px⟩ := p
    rw [putGo]
    by_cases hle : n ≤ pn
    · rw [if_pos ⟨hle, rfl⟩, decide_eq_true hle, Bool.false_or, putGo_stop]
      simp only [List.mem_append, Prod.mk.injEq, dropZ_mem, List.mem_cons, List.not_mem_nil, or_false]
      by_cases hpn : pn = n
      · subst hpn
        rw [if_neg (by simp)]
        simp only [List.not_mem_nil, false_or]
        constructor
        · rintro (h | h)
          · exact .inl h
          · exact .inr ⟨h.1, .inr h.2⟩
        · rintro (h | ⟨h1, ⟨h2, _⟩ | h2⟩)
          · exact .inl h
          · exact absurd h2 h1
          · exact .inr ⟨h1, h2⟩
      · rw [if_pos hpn]
        simp only [List.mem_cons, List.not_mem_nil, or_false, Prod.mk.injEq]
        constructor
        · rintro (h | h | h)
          · exact .inl h
          · exact .inr ⟨by rw [h.1]; exact hpn, .inl h⟩
          · exact .inr ⟨h.1, .inr h.2⟩
        · rintro (h | ⟨h1, h2 | h2⟩)
          · exact .inl h
          · exact .inr (.inl h2)
          · exact .inr (.inr ⟨h1, h2⟩)
    · have hpn : pn ≠ n := fun e => hle (by omega)
      rw [if_neg (fun h => hle h.1), if_pos hpn, decide_eq_false hle, Bool.false_or, List.nil_append, List.mem_append, List.mem_singleton, putGo_mem n s r m x, List.mem_cons]
      constructor
      · rintro (h | h | ⟨h1, h2⟩)
        · exact .inr ⟨by injection h with h1 _; rw [h1]; exact hpn, .inl h⟩
        · exact .inl h
        · exact .inr ⟨h1, .inr h2⟩
      · rintro (h | ⟨h1, h2 | h2⟩)
        · exact .inr (.inl h)
        · exact .inl h2
        · exact .inr (.inr ⟨h1, h2⟩)
theorem putGo_rise (n : Int) (s : ByteArray) : ∀ {l : List Pr}, Rises l → Rises (putGo n s l false)
  | [], _ => List.pairwise_singleton _ _
  | p :: r, h => by
    obtain ⟨pn, px⟩ := p
    have hp := List.pairwise_cons.1 h
    rw [putGo]
    by_cases hle : n ≤ pn
    · rw [if_pos ⟨hle, rfl⟩, decide_eq_true hle, Bool.false_or, putGo_stop]
      have hr : Rises (dropZ r n) := hp.2.filter _
      have hall : ∀ y ∈ dropZ r n, pn < y.1 := fun y hy => hp.1 y (List.mem_filter.1 hy).1
      by_cases hpn : pn = n
      · rw [if_neg (by simpa using hpn), List.nil_append, List.singleton_append]
        exact List.pairwise_cons.2 ⟨fun y hy => by have := hall y hy; show n < y.1; omega, hr⟩
      · rw [if_pos hpn, List.singleton_append, List.singleton_append]
        refine List.pairwise_cons.2 ⟨fun y hy => ?_, List.pairwise_cons.2 ⟨fun y hy => hall y hy, hr⟩⟩
        rcases List.mem_cons.1 hy with rfl | hy
        · show n < pn; omega
        · have := hall y hy; show n < y.1; omega
    · have hpn : pn ≠ n := fun e => hle (by omega)
      rw [if_neg (fun h => hle h.1), if_pos hpn, decide_eq_false hle, Bool.false_or, List.nil_append, List.singleton_append]
      refine List.pairwise_cons.2 ⟨fun y hy => ?_, putGo_rise n s hp.2⟩
      obtain ⟨m, x⟩ := y
      rcases (putGo_mem n s r m x).1 hy with ⟨rfl, _⟩ | ⟨_, h2⟩
      · show pn < m; omega
      · exact hp.1 _ h2
theorem Lk.put {t t' : T} {l : List Pr} {n : Int} {s : ByteArray} (h : Lk t l) (hn : inR n) (hr : rootN t') (hg : ∀ m, getV t' m = if m = n ∧ inR n then some (.string s) else getV t m) : Lk t' (putGo n s l false) := by
  refine ⟨hr, putGo_rise n s h.rise, fun m x => ?_, fun m v hv => ?_⟩
  · rw [putGo_mem, hg m]
    by_cases e : m = n
    · rw [if_pos ⟨e, hn⟩]
      constructor
      · rintro (⟨_, rfl⟩ | ⟨h1, _⟩)
        · rfl
        · exact absurd e h1
      · intro hx
        injection hx with hx
        injection hx with hx
        exact .inl ⟨e, hx.symm⟩
    · rw [if_neg (fun h => e h.1), ← h.mem m x]
      constructor
      · rintro (⟨h1, _⟩ | ⟨_, h2⟩)
        · exact absurd h1 e
        · exact h2
      · exact fun hx => .inr ⟨e, hx⟩
  · rw [hg m] at hv
    by_cases e : m = n ∧ inR n
    · rw [if_pos e] at hv
      injection hv with hv
      exact ⟨s, hv.symm⟩
    · rw [if_neg e] at hv
      exact h.str m v hv
theorem Lk.drop {t t' : T} {l : List Pr} {n : Int} (h : Lk t l) (hr : rootN t') (hg : ∀ m, getV t' m = if m = n then none else getV t m) : Lk t' (dropZ l n) := by
  refine ⟨hr, h.rise.filter _, fun m x => ?_, fun m v hv => ?_⟩
  · rw [dropZ_mem, hg m]
    by_cases e : m = n
    · rw [if_pos e]
      simp [e]
    · rw [if_neg e, ← h.mem m x]
      exact ⟨fun h => h.2, fun h => ⟨e, h⟩⟩
  · rw [hg m] at hv
    by_cases e : m = n
    · rw [if_pos e] at hv
      cases hv
    · rw [if_neg e] at hv
      exact h.str m v hv
theorem Lk.short {t : T} {l : List Pr} (h : Lk t l) (hw : wfT 5 t) : l.length ≤ 1048576 := by
  have := sz_le 5 t hw
  rw [h.len hw] at this
  exact this
set_option maxHeartbeats 400000 in
theorem rput_out (W : World) (v : Value) (n : Int) (s : ByteArray) (hn : ¬ inR n) : Calls Try.prog 14 #[v, .int .i64 n, .string s] W fun e w' => e = .returned v ∧ w' = W := by
  have hc : n < 0 ∨ (0 ≤ n ∧ 1048576 ≤ n) := by unfold inR at hn; omega
  clear hn
  rcases hc with h1 | ⟨h1, h2⟩
  all_goals
    go_enter Try.func14, Try.ntmps14
    go_wp2
    go_ret
    exact ⟨rfl, rfl⟩

end Go.Proofs.Ytnmpakjklbamiaa
